/- The document's answer for readers (colloquyref01): the faults of Part; and pairs of readers, the program's and the document's, that stand at the same place. -/
import Derived.Test.YtndkjlnajoblaaaDoorRefC
import Derived.Test.YtndkjlnajoblaaaDoorStep
namespace Go.Proofs.YtndkjlnajoblaaaDoor
open Go.RowKit

set_option maxRecDepth 100000 in
set_option maxHeartbeats 1000000 in
theorem rpart_neg {w : World} {q a bg : Nat} {bs : List UInt8} (h : RefR w q bs a bg) (n : Int) (hn : n < 0) :
    Calls Tryd.prog 14 #[.pointer (some ⟨q, 0, none⟩), .int .i64 n] w (RFault (.pointer none) 2 ((bg : Int) + (a : Int)) w) := by
  have h0 : w.grownBy (w.alloc (.cells #[.int .i64 0, .int .i64 0] 36)) none := only_alloc (only_refl _ _) _
  have hR := h.kept h0 (fun e => by cases e)
  have hb0 := Blk.new w 36 #[.int .i64 0, .int .i64 0]
  have hn0 := Lib.hid hn
  clear hn
  go_enter Tryd.func14, Tryd.ntmps14
  go_wp2_with fail
  refine (rplace_any hR).mono ?_
  rintro e w0 ⟨rfl, hp⟩
  have hR0 := hR.kept hp (fun e => by cases e)
  go_wp2_with fail
  refine (rtake_neg hR0 n hn0.out).mono ?_
  rintro e w1 ⟨rfl, h1⟩
  have hb1 := (hb0.kept hp).kept h1
  have k0 : w1.cell? ⟨w.heap.size, 0, none⟩ = some (.int .i64 0) := hb1.cell 0
  have k1 : w1.cell? ⟨w.heap.size, 1, none⟩ = some (.int .i64 0) := hb1.cell 1
  have f0 := hb1.frozen 0
  have f1 := hb1.frozen 1
  have hz := hb1.lt
  go_wp2_with fail
  go_region
  all_goals go_wp2
  obtain ⟨e0, e1, e2, _⟩ := res_end (only_trans (only_trans h0 hp) h1) hb1 rfl 2 ((bg : Int) + (a : Int)) (.cells #[.int .i64 2, .int .i64 ((bg : Int) + (a : Int))] 36)
  unfold setF at e0 e1 e2
  exact bodyPost_ret (v := .tuple #[.pointer none, .agg #[.int .i64 2, .int .i64 ((bg : Int) + (a : Int))]]) (by simp [results, Tryd.results14, go_sem, e0, e1]) rfl ⟨rfl, e2⟩

set_option maxRecDepth 100000 in
set_option maxHeartbeats 1000000 in
theorem rpart_short {w : World} {q a bg : Nat} {bs : List UInt8} (h : RefR w q bs a bg) (n : Int) (hn : (bs.length : Int) - (a : Int) < n) :
    Calls Tryd.prog 14 #[.pointer (some ⟨q, 0, none⟩), .int .i64 n] w (RFault (.pointer none) 3 ((bg : Int) + (a : Int)) w) := by
  have h0 : w.grownBy (w.alloc (.cells #[.int .i64 0, .int .i64 0] 36)) none := only_alloc (only_refl _ _) _
  have hR := h.kept h0 (fun e => by cases e)
  have hb0 := Blk.new w 36 #[.int .i64 0, .int .i64 0]
  have hn0 := Lib.hid hn
  clear hn
  go_enter Tryd.func14, Tryd.ntmps14
  go_wp2_with fail
  refine (rplace_any hR).mono ?_
  rintro e w0 ⟨rfl, hp⟩
  have hR0 := hR.kept hp (fun e => by cases e)
  go_wp2_with fail
  refine (rtake_short hR0 n hn0.out).mono ?_
  rintro e w1 ⟨rfl, h1⟩
  have hb1 := (hb0.kept hp).kept h1
  have k0 : w1.cell? ⟨w.heap.size, 0, none⟩ = some (.int .i64 0) := hb1.cell 0
  have k1 : w1.cell? ⟨w.heap.size, 1, none⟩ = some (.int .i64 0) := hb1.cell 1
  have f0 := hb1.frozen 0
  have f1 := hb1.frozen 1
  have hz := hb1.lt
  go_wp2_with fail
  go_region
  all_goals go_wp2
  obtain ⟨e0, e1, e2, _⟩ := res_end (only_trans (only_trans h0 hp) h1) hb1 rfl 3 ((bg : Int) + (a : Int)) (.cells #[.int .i64 3, .int .i64 ((bg : Int) + (a : Int))] 36)
  unfold setF at e0 e1 e2
  exact bodyPost_ret (v := .tuple #[.pointer none, .agg #[.int .i64 3, .int .i64 ((bg : Int) + (a : Int))]]) (by simp [results, Tryd.results14, go_sem, e0, e1]) rfl ⟨rfl, e2⟩

/-- Two readers that stand at the same place: the program's and the document's. -/
structure PD where
  g : Nat
  q : Nat
  bs : List UInt8
  a : Nat
  bg : Nat
def PD.in_ (x : PD) (w : World) : Prop := Rdr w x.g x.bs x.a x.bg ∧ RefR w x.q x.bs x.a x.bg
structure T (w0 w : World) (X : PD) (rest : List PD) : Prop where
  err0 : ErrType w0
  step : w0.grownBy w none
  all : ∀ x ∈ X :: rest, w0.heap.size ≤ x.g ∧ w0.heap.size ≤ x.q ∧ x.in_ w
  inj : ∀ x ∈ X :: rest, ∀ y ∈ X :: rest, x.g = y.g ∨ x.q = y.q → x = y
  hd : ∀ y ∈ rest, y.g ≠ X.g ∧ y.q ≠ X.q

section
variable {w0 w w1 w2 : World} {X : PD} {rest : List PD}
theorem T.err (h : T w0 w X rest) : ErrType w := h.err0.kept h.step (fun _ e => by cases e)
theorem T.rdr (h : T w0 w X rest) : Rdr w X.g X.bs X.a X.bg := (h.all X List.mem_cons_self).2.2.1
theorem T.ref (h : T w0 w X rest) : RefR w X.q X.bs X.a X.bg := (h.all X List.mem_cons_self).2.2.2
theorem T.kept (h : T w0 w X rest) (hg : w.grownBy w1 none) : T w0 w1 X rest :=
  ⟨h.err0, only_trans h.step hg, fun x hx => ⟨(h.all x hx).1, (h.all x hx).2.1, (h.all x hx).2.2.1.kept hg, (h.all x hx).2.2.2.kept hg (fun e => by cases e)⟩, h.inj, h.hd⟩
theorem T.ref1 (h : T w0 w X rest) (hg : w.grownBy w1 (some X.g)) : RefR w1 X.q X.bs X.a X.bg := by
  obtain ⟨cs, hb⟩ := h.ref.blk
  obtain ⟨cs2, hb2⟩ := h.rdr.blk
  exact h.ref.kept hg (fun e => Blk.ne_ hb hb2 (by decide) (by injection e))
theorem T.move (h : T w0 w X rest) {a' : Nat} (hg1 : w.grownBy w1 (some X.g)) (hr1 : Rdr w1 X.g X.bs a' X.bg) (hg2 : w1.grownBy w2 (some X.q)) (hq2 : RefR w2 X.q X.bs a' X.bg) :
    T w0 w2 ⟨X.g, X.q, X.bs, a', X.bg⟩ rest := by
  have hX := h.all X List.mem_cons_self
  obtain ⟨cg, hbg⟩ := h.rdr.blk
  obtain ⟨cq, hbq⟩ := (h.ref1 hg1).blk
  have hrow : ∀ k, some X.q = some k → ∃ t cs, Blk w1 k t cs ∧ t ≠ 5 := fun k e => by
    injection e with e
    subst e
    exact ⟨_, _, hbq, by decide⟩
  refine ⟨h.err0, only_new (only_new h.step hg1 hX.1) hg2 hX.2.1, fun x hx => ?_, fun x hx y hy he => ?_, h.hd⟩
  · rcases List.mem_cons.1 hx with rfl | hx
    · refine ⟨hX.1, hX.2.1, ?_, hq2⟩
      obtain ⟨cg1, hbg1⟩ := hr1.blk
      exact hr1.grown hg2 (fun e => Blk.ne_ hbg1 hbq (by decide) (by injection e)) hrow
    · have hx' := h.all x (List.mem_cons_of_mem _ hx)
      have hne := h.hd x hx
      have r1 : Rdr w1 x.g x.bs x.a x.bg := hx'.2.2.1.other hg1 hbg hne.1
      have q1 : RefR w1 x.q x.bs x.a x.bg := by
        obtain ⟨cs, hb⟩ := hx'.2.2.2.blk
        exact hx'.2.2.2.kept hg1 (fun e => Blk.ne_ hb hbg (by decide) (by injection e))
      obtain ⟨c1, b1⟩ := r1.blk
      exact ⟨hx'.1, hx'.2.1, r1.grown hg2 (fun e => Blk.ne_ b1 hbq (by decide) (by injection e)) hrow, q1.kept hg2 (fun e => hne.2 (by injection e))⟩
  · rcases List.mem_cons.1 hx with rfl | hx <;> rcases List.mem_cons.1 hy with rfl | hy
    · rfl
    · exact (he.elim (fun e => (h.hd y hy).1 e.symm) (fun e => (h.hd y hy).2 e.symm)).elim
    · exact (he.elim (fun e => (h.hd x hx).1 e) (fun e => (h.hd x hx).2 e)).elim
    · exact h.inj x (List.mem_cons_of_mem _ hx) y (List.mem_cons_of_mem _ hy) he
theorem T.add (h : T w0 w X rest) {N : PD} (hN : N.in_ w) (h1 : ∀ x ∈ X :: rest, x.g < N.g ∧ x.q < N.q) (hg : w0.heap.size ≤ N.g) (hq : w0.heap.size ≤ N.q) : T w0 w X (N :: rest) := by
  have hm : ∀ x, x ∈ X :: N :: rest → x = N ∨ x ∈ X :: rest := fun x hx => by
    simp only [List.mem_cons] at hx ⊢
    rcases hx with h | h | h
    · exact .inr (.inl h)
    · exact .inl h
    · exact .inr (.inr h)
  refine ⟨h.err0, h.step, fun x hx => ?_, fun x hx y hy he => ?_, fun y hy => ?_⟩
  · rcases hm x hx with rfl | hx
    · exact ⟨hg, hq, hN⟩
    · exact h.all x hx
  · rcases hm x hx with ex | mx <;> rcases hm y hy with ey | my
    · rw [ex, ey]
    · have := h1 y my; rw [ex] at he; exact absurd he (by omega)
    · have := h1 x mx; rw [ey] at he; exact absurd he (by omega)
    · exact h.inj x mx y my he
  · rcases List.mem_cons.1 hy with rfl | hy
    · have := h1 X List.mem_cons_self; constructor <;> omega
    · exact h.hd y hy
theorem T.grow (h : T w0 w X rest) {n p pq : Nat} (hp : w.heap.size ≤ p) (hg1 : w.grownBy w1 (some X.g)) (hr1 : Rdr w1 X.g X.bs (X.a + n) X.bg) (hn1 : Rdr w1 p ((X.bs.drop X.a).take n) 0 (X.bg + X.a))
    (hpq : w1.heap.size ≤ pq) (hg2 : w1.grownBy w2 (some X.q)) (hq2 : RefR w2 X.q X.bs (X.a + n) X.bg) (hn2 : RefR w2 pq ((X.bs.drop X.a).take n) 0 (X.bg + X.a)) :
    T w0 w2 ⟨X.g, X.q, X.bs, X.a + n, X.bg⟩ (⟨p, pq, (X.bs.drop X.a).take n, 0, X.bg + X.a⟩ :: rest) := by
  have h' := h.move hg1 hr1 hg2 hq2
  obtain ⟨cq, hbq⟩ := (h.ref1 hg1).blk
  obtain ⟨cp, hbp⟩ := hn1.blk
  have hn1' : Rdr w2 p ((X.bs.drop X.a).take n) 0 (X.bg + X.a) := hn1.grown hg2 (fun e => Blk.ne_ hbp hbq (by decide) (by injection e)) (fun k e => by
    injection e with e
    subst e
    exact ⟨_, _, hbq, by decide⟩)
  have hs := h.step.size
  have hs1 := hg1.size
  have lt1 : ∀ x ∈ X :: rest, x.g < w.heap.size ∧ x.q < w.heap.size := fun x hx => ⟨(h.all x hx).2.2.1.lt, (h.all x hx).2.2.2.lt⟩
  refine h'.add ⟨hn1', hn2⟩ (fun x hx => ?_) (Nat.le_trans hs hp) (Nat.le_trans hs (Nat.le_trans hs1 hpq))
  have hx2 : ∃ y ∈ X :: rest, y.g = x.g ∧ y.q = x.q := by
    rcases List.mem_cons.1 hx with rfl | hx
    · exact ⟨X, List.mem_cons_self, rfl, rfl⟩
    · exact ⟨x, List.mem_cons_of_mem _ hx, rfl, rfl⟩
  obtain ⟨y, hy, e1, e2⟩ := hx2
  have := lt1 y hy
  show x.g < p ∧ x.q < pq
  omega
/-- Another pair comes to the head. -/
theorem T.select (h : T w0 w X rest) {Y : PD} (hY : Y ∈ X :: rest) : T w0 w Y ((X :: rest).filter fun y => decide (y.g ≠ Y.g)) := by
  have hm : ∀ x, x ∈ Y :: ((X :: rest).filter fun y => decide (y.g ≠ Y.g)) → x ∈ X :: rest := fun x hx => by
    rcases List.mem_cons.1 hx with rfl | hx
    · exact hY
    · exact (List.mem_filter.1 hx).1
  refine ⟨h.err0, h.step, fun x hx => h.all x (hm x hx), fun x hx y hy he => h.inj x (hm x hx) y (hm y hy) he, fun y hy => ?_⟩
  have h1 := List.mem_filter.1 hy
  have h2 : y.g ≠ Y.g := by simpa using h1.2
  exact ⟨h2, fun e => h2 (by rw [h.inj y h1.1 Y hY (.inr e)])⟩
theorem T.mem_select (h : T w0 w X rest) {Y Z : PD} (hY : Y ∈ X :: rest) (hZ : Z ∈ X :: rest) : Z ∈ Y :: ((X :: rest).filter fun y => decide (y.g ≠ Y.g)) := by
  by_cases e : Z.g = Y.g
  · rw [h.inj Z hZ Y hY (.inl e)]; exact List.mem_cons_self
  · exact List.mem_cons_of_mem _ (List.mem_filter.2 ⟨hZ, by simpa using e⟩)
end

/-- A pair with these two blocks is among them. -/
def Has (xs : List PD) (g q : Nat) : Prop := ∃ x ∈ xs, x.g = g ∧ x.q = q
theorem Has.upd {X : PD} {rest : List PD} {g q a' : Nat} (h : Has (X :: rest) g q) : Has (⟨X.g, X.q, X.bs, a', X.bg⟩ :: rest) g q := by
  obtain ⟨x, hx, h1, h2⟩ := h
  rcases List.mem_cons.1 hx with rfl | hx
  · exact ⟨_, List.mem_cons_self, h1, h2⟩
  · exact ⟨x, List.mem_cons_of_mem _ hx, h1, h2⟩
theorem Has.more {X N : PD} {rest : List PD} {g q : Nat} (h : Has (X :: rest) g q) : Has (X :: N :: rest) g q := by
  obtain ⟨x, hx, h1⟩ := h
  refine ⟨x, ?_, h1⟩
  rcases List.mem_cons.1 hx with rfl | hx
  · exact List.mem_cons_self
  · exact List.mem_cons_of_mem _ (List.mem_cons_of_mem _ hx)
theorem Has.newest {X N : PD} {rest : List PD} : Has (X :: N :: rest) N.g N.q := ⟨N, List.mem_cons_of_mem _ List.mem_cons_self, rfl, rfl⟩
end Go.Proofs.YtndkjlnajoblaaaDoor

/- Texts joined for the claim's sake: Ref, RefB. -/
import Derived.Test.YtmbdaenjeeklfaaDoorZIbA
import Derived.Laws.StructEq
import Derived.Test.YtmbdaenjeeklfaaDoorZIbB
/- The document's answer for readers (colloquyref01): Place, Left, fault, Take, Byte, Part, End: what each answers, and what it leaves. -/
namespace Go.Proofs.YtmbdaenjeeklfaaDoor
open Go.RowKit

/-- Block q is the document's reader of the bytes bs, at place a, whose bytes begin at bg. -/
def RefR (w : World) (q : Nat) (bs : List UInt8) (a bg : Nat) : Prop :=
  ∃ s : ByteArray, Blk w q 42 #[.string s, .int .i64 (a : Int), .int .i64 (bg : Int)] ∧ s.data.toList = bs ∧ a ≤ bs.length ∧ bg + bs.length ≤ 4611686018427387904
theorem RefR.kept {w w' : World} {q a bg : Nat} {bs : List UInt8} {row : Option Nat} (h : RefR w q bs a bg) (hg : w.grownBy w' row) (hr : some q ≠ row) : RefR w' q bs a bg := by
  obtain ⟨s, hb, r⟩ := h
  exact ⟨s, hb.grown hg hr, r⟩
theorem RefR.lt {w : World} {q a bg : Nat} {bs : List UInt8} (h : RefR w q bs a bg) : q < w.heap.size := by obtain ⟨_, h, _⟩ := h; exact h.lt
theorem RefR.blk {w : World} {q a bg : Nat} {bs : List UInt8} (h : RefR w q bs a bg) : ∃ cs, Blk w q 42 cs := by obtain ⟨_, h, _⟩ := h; exact ⟨_, h⟩
theorem RefR.new (s : ByteArray) (w : World) (bg : Nat) (hs : bg + s.size ≤ 4611686018427387904) : RefR (w.alloc (.cells #[.string s, .int .i64 0, .int .i64 (bg : Int)] 42)) w.heap.size s.data.toList 0 bg :=
  ⟨s, Blk.new w _ _, rfl, Nat.zero_le _, by rw [bytes_len]; exact hs⟩

theorem rplace_any {w : World} {q a bg : Nat} {bs : List UInt8} (h : RefR w q bs a bg) :
    Calls Tryd.prog 26 #[.pointer (some ⟨q, 0, none⟩)] w fun e w' => e = .returned (.int .i64 ((bg : Int) + (a : Int))) ∧ w.grownBy w' none := by
  obtain ⟨s, hb, _, h1, h2⟩ := h
  have c1 : w.cell? ⟨q, 1, none⟩ = some (.int .i64 (a : Int)) := hb.cell 1
  have c2 : w.cell? ⟨q, 2, none⟩ = some (.int .i64 (bg : Int)) := hb.cell 2
  have hs : (bg : Int) + (a : Int) ≤ 9223372036854775807 := by omega
  go_enter Tryd.func26, Tryd.ntmps26
  go_wp2
  go_quiet (fail)
  go_wp2
  go_ret
  exact ⟨rfl, only_drewN (only_refl _ _) _⟩

theorem rleft_any {w : World} {q a bg : Nat} {bs : List UInt8} (h : RefR w q bs a bg) :
    Calls Tryd.prog 79 #[.pointer (some ⟨q, 0, none⟩)] w fun e w' => e = .returned (.int .i64 ((bs.length : Int) - (a : Int))) ∧ w.grownBy w' none := by
  obtain ⟨s, hb, he, h1, h2⟩ := h
  subst he
  rw [bytes_len] at h1 h2 ⊢
  have c0 : w.cell? ⟨q, 0, none⟩ = some (.string s) := hb.cell 0
  have c1 : w.cell? ⟨q, 1, none⟩ = some (.int .i64 (a : Int)) := hb.cell 1
  have hs : s.size ≤ 4611686018427387904 := by omega
  clear h2
  go_enter Tryd.func79, Tryd.ntmps79
  go_wp2
  go_quiet (fail)
  go_wp2
  go_ret
  exact ⟨rfl, only_drewN (only_refl _ _) _⟩

/-- A fault's two cells are stored into a block of the call's own. -/
def setF (w : World) (n : Nat) (c x : Int) : World := (w.setCell ⟨n, 0, none⟩ (.int .i64 c)).setCell ⟨n, 1, none⟩ (.int .i64 x)
theorem setF_blk {w : World} {n : Nat} {cs : Array Value} (h : Blk w n 48 cs) (hc : cs.size = 2) (c x : Int) : Blk (setF w n c x) n 48 #[.int .i64 c, .int .i64 x] := by
  have := (h.set_ 0 (.int .i64 c)).set_ 1 (.int .i64 x)
  obtain ⟨l⟩ := cs
  match l, hc with
  | [u, v], _ => exact this
theorem setF_only {w0 w : World} {row : Option Nat} {n : Nat} (h : w0.grownBy w row) (hn : w0.heap.size ≤ n) (c x : Int) : w0.grownBy (setF w n c x) row := only_setNew (only_setNew h hn _) hn _

theorem rfault_any {w : World} {q a bg : Nat} {bs : List UInt8} (h : RefR w q bs a bg) (c : Int) :
    Calls Tryd.prog 78 #[.pointer (some ⟨q, 0, none⟩), .int .i64 c] w fun e w' => e = .returned (.agg #[.int .i64 c, .int .i64 ((bg : Int) + (a : Int))]) ∧ w.grownBy w' none := by
  have h0 : w.grownBy (w.alloc (.cells #[.int .i64 0, .int .i64 0] 48)) none := only_alloc (only_refl _ _) _
  have H := rplace_any (h.kept h0 (fun e => by cases e))
  have hb0 := Blk.new w 48 #[.int .i64 0, .int .i64 0]
  go_enter Tryd.func78, Tryd.ntmps78
  go_wp2_with fail
  refine H.mono ?_
  rintro e w1 ⟨rfl, h1⟩
  have hb1 := hb0.kept h1
  have k0 : w1.cell? ⟨w.heap.size, 0, none⟩ = some (.int .i64 0) := hb1.cell 0
  have k1 : w1.cell? ⟨w.heap.size, 1, none⟩ = some (.int .i64 0) := hb1.cell 1
  have f0 := hb1.frozen 0
  have f1 := hb1.frozen 1
  go_wp2_with fail
  have hF := setF_blk hb1 rfl c ((bg : Int) + (a : Int))
  have hS := setF_only (only_trans h0 h1) (Nat.le_refl w.heap.size) c ((bg : Int) + (a : Int))
  have e0 := hF.cell 0
  have e1 := hF.cell 1
  unfold setF at e0 e1 hS
  exact bodyPost_ret (v := .agg #[.int .i64 c, .int .i64 ((bg : Int) + (a : Int))]) (by simp [results, Tryd.results78, go_sem, e0, e1]) rfl ⟨rfl, hS⟩

end Go.Proofs.YtmbdaenjeeklfaaDoor

/- The document's answer for readers (colloquyref01): Take: what it answers, and what it leaves. -/
namespace Go.Proofs.YtmbdaenjeeklfaaDoor
open Go.RowKit

theorem ext_list (s : ByteArray) (a n : Nat) : (s.extract a (a + n)).data.toList = (s.data.toList.drop a).take n := by
  rw [ByteArray.data_extract, Array.toList_extract, List.extract_eq_take_drop, Nat.add_sub_cancel_left]

/-- What a call of the document's reader answers where it gives a fault beside v: nothing that was there has turned. -/
def RFault (v : Value) (c x : Int) (w : World) (e : Ending) (w' : World) : Prop := e = .returned (.tuple #[v, .agg #[.int .i64 c, .int .i64 x]]) ∧ w.grownBy w' none

theorem left_world {w w1 : World} (h1 : (w.alloc (.cells #[.int .i64 0, .int .i64 0] 48)).grownBy w1 none) :
    w1.cell? ⟨w.heap.size, 0, none⟩ = some (.int .i64 0) ∧ w1.cell? ⟨w.heap.size, 1, none⟩ = some (.int .i64 0) ∧ w1.frozen? ⟨w.heap.size, 0, none⟩ = false ∧ w1.frozen? ⟨w.heap.size, 1, none⟩ = false ∧ Blk w1 w.heap.size 48 #[.int .i64 0, .int .i64 0] ∧ w.grownBy w1 none := by
  have hb1 := (Blk.new w 48 #[.int .i64 0, .int .i64 0]).kept h1
  exact ⟨hb1.cell 0, hb1.cell 1, hb1.frozen 0, hb1.frozen 1, hb1, only_trans (only_alloc (only_refl _ _) _) h1⟩

set_option maxRecDepth 100000 in
theorem rtake_neg {w : World} {q a bg : Nat} {bs : List UInt8} (h : RefR w q bs a bg) (n : Int) (hn : n < 0) :
    Calls Tryd.prog 63 #[.pointer (some ⟨q, 0, none⟩), .int .i64 n] w (RFault (.string ⟨#[]⟩) 2 ((bg : Int) + (a : Int)) w) := by
  have h0 : w.grownBy (w.alloc (.cells #[.int .i64 0, .int .i64 0] 48)) none := only_alloc (only_refl _ _) _
  have hR := h.kept h0 (fun e => by cases e)
  have d1 : decide (n < 0) = true := by simpa using hn
  clear hn
  go_enter Tryd.func63, Tryd.ntmps63
  go_wp2_with fail
  refine (rfault_any hR 2).mono ?_
  rintro e w2 ⟨rfl, h2⟩
  obtain ⟨k0, k1, f0, f1, hb1, hg1⟩ := left_world h2
  go_wp2_with fail
  have hF := setF_blk hb1 rfl 2 ((bg : Int) + (a : Int))
  have hS := setF_only hg1 (Nat.le_refl w.heap.size) 2 ((bg : Int) + (a : Int))
  have e0 := hF.cell 0
  have e1 := hF.cell 1
  unfold setF at e0 e1 hS
  exact bodyPost_ret (v := .tuple #[.string ⟨#[]⟩, .agg #[.int .i64 2, .int .i64 ((bg : Int) + (a : Int))]]) (by simp [results, Tryd.results63, go_sem, e0, e1]) rfl ⟨rfl, hS⟩

set_option maxRecDepth 100000 in
theorem rtake_short {w : World} {q a bg : Nat} {bs : List UInt8} (h : RefR w q bs a bg) (n : Int) (hn : (bs.length : Int) - (a : Int) < n) :
    Calls Tryd.prog 63 #[.pointer (some ⟨q, 0, none⟩), .int .i64 n] w (RFault (.string ⟨#[]⟩) 3 ((bg : Int) + (a : Int)) w) := by
  have h0 : w.grownBy (w.alloc (.cells #[.int .i64 0, .int .i64 0] 48)) none := only_alloc (only_refl _ _) _
  have hR := h.kept h0 (fun e => by cases e)
  have hl : a ≤ bs.length := by obtain ⟨_, _, _, hl, _⟩ := h; exact hl
  have d1 : decide (n < 0) = false := by simp; omega
  have d2 : decide ((bs.length : Int) - (a : Int) < n) = true := by simpa using hn
  clear hn hl
  go_enter Tryd.func63, Tryd.ntmps63
  go_wp2_with fail
  refine (rleft_any hR).mono ?_
  rintro e w1 ⟨rfl, h1⟩
  go_wp2_with fail
  refine (rfault_any (hR.kept h1 (fun e => by cases e)) 3).mono ?_
  rintro e w2 ⟨rfl, h2⟩
  obtain ⟨k0, k1, f0, f1, hb1, hg1⟩ := left_world (only_trans h1 h2)
  go_wp2_with fail
  have hF := setF_blk hb1 rfl 3 ((bg : Int) + (a : Int))
  have hS := setF_only hg1 (Nat.le_refl w.heap.size) 3 ((bg : Int) + (a : Int))
  have e0 := hF.cell 0
  have e1 := hF.cell 1
  unfold setF at e0 e1 hS
  exact bodyPost_ret (v := .tuple #[.string ⟨#[]⟩, .agg #[.int .i64 3, .int .i64 ((bg : Int) + (a : Int))]]) (by simp [results, Tryd.results63, go_sem, e0, e1]) rfl ⟨rfl, hS⟩

/-- What Take leaves where there are n bytes. -/
theorem rtake_end {w w1 : World} {q a bg n : Nat} {s : ByteArray} (hg1 : w.grownBy w1 none) (hb1 : Blk w1 w.heap.size 48 #[.int .i64 0, .int .i64 0]) (hq : Blk w1 q 42 #[.string s, .int .i64 (a : Int), .int .i64 (bg : Int)]) (hql : q < w.heap.size)
    (hn : a + n ≤ s.data.toList.length) (h2 : bg + s.data.toList.length ≤ 4611686018427387904) (k : Nat) :
    (setF ((w1.drewN k).setCell ⟨q, 1, none⟩ (.int .i64 ((a : Int) + (n : Int)))) w.heap.size 0 0).cell? ⟨w.heap.size, 0, none⟩ = some (.int .i64 0) ∧
    (setF ((w1.drewN k).setCell ⟨q, 1, none⟩ (.int .i64 ((a : Int) + (n : Int)))) w.heap.size 0 0).cell? ⟨w.heap.size, 1, none⟩ = some (.int .i64 0) ∧
    w.grownBy (setF ((w1.drewN k).setCell ⟨q, 1, none⟩ (.int .i64 ((a : Int) + (n : Int)))) w.heap.size 0 0) (some q) ∧
    RefR (setF ((w1.drewN k).setCell ⟨q, 1, none⟩ (.int .i64 ((a : Int) + (n : Int)))) w.heap.size 0 0) q s.data.toList (a + n) bg := by
  have hb2 : Blk ((w1.drewN k).setCell ⟨q, 1, none⟩ (.int .i64 ((a : Int) + (n : Int)))) w.heap.size 48 #[.int .i64 0, .int .i64 0] := (hb1.drewN k).far (p := ⟨q, 1, none⟩) (by show w.heap.size ≠ q; omega) _
  have hq2 := (hq.drewN k).set_ 1 (.int .i64 ((a : Int) + (n : Int)))
  have hF := setF_blk hb2 rfl 0 0
  have hg2 : w.grownBy ((w1.drewN k).setCell ⟨q, 1, none⟩ (.int .i64 ((a : Int) + (n : Int)))) (some q) := only_setCell (only_weak (only_drewN hg1 k) _) rfl _
  refine ⟨hF.cell 0, hF.cell 1, setF_only hg2 (Nat.le_refl _) 0 0, s, ?_, rfl, hn, h2⟩
  have h3 := (hq2.far (p := ⟨w.heap.size, 0, none⟩) (by show q ≠ w.heap.size; omega) (.int .i64 0)).far (p := ⟨w.heap.size, 1, none⟩) (by show q ≠ w.heap.size; omega) (.int .i64 0)
  rw [Int.natCast_add]
  exact h3

set_option maxRecDepth 100000 in
set_option maxHeartbeats 1000000 in
theorem rtake_ok {w : World} {q a bg : Nat} {bs : List UInt8} (h : RefR w q bs a bg) (n : Nat) (hn : a + n ≤ bs.length) :
    Calls Tryd.prog 63 #[.pointer (some ⟨q, 0, none⟩), .int .i64 (n : Int)] w fun e w' => e = .returned (.tuple #[.string ⟨((bs.drop a).take n).toArray⟩, .agg #[.int .i64 0, .int .i64 0]]) ∧ w.grownBy w' (some q) ∧ RefR w' q bs (a + n) bg := by
  have h0 : w.grownBy (w.alloc (.cells #[.int .i64 0, .int .i64 0] 48)) none := only_alloc (only_refl _ _) _
  have hql := h.lt
  have hR := h.kept h0 (fun e => by cases e)
  obtain ⟨s, _, he, _, h2⟩ := h
  subst he
  have H := rleft_any hR
  have hsz : (s.data.toList.length : Int) = (s.size : Int) := by rw [bytes_len]
  rw [hsz] at H
  clear hsz
  rw [bytes_of_list (ext_list s a n)]
  have hn1 : a + n ≤ s.size := by rw [← bytes_len]; exact hn
  have hbd : (s.size : Int) ≤ 4611686018427387904 := by have := bytes_len s; omega
  have d1 : decide ((n : Int) < 0) = false := by simp
  have d2 : decide ((s.size : Int) - (a : Int) < (n : Int)) = false := by simp; omega
  have hw : IntKind.i64.wrap ((a : Int) + (n : Int)) = (a : Int) + (n : Int) := IntWalk.i64_in _ ⟨by omega, by omega⟩
  have hn2 : (a : Int) + (n : Int) ≤ (s.size : Int) := by omega
  have HN := Lib.hid hn
  have H2 := Lib.hid h2
  clear hn h2
  go_enter Tryd.func63, Tryd.ntmps63
  go_wp2_with fail
  refine H.mono ?_
  rintro e w1 ⟨rfl, h1⟩
  obtain ⟨k0, k1, f0, f1, hb1, hg1⟩ := left_world h1
  obtain ⟨s2, hq, hs2, _⟩ := hR.kept h1 (fun e => by cases e)
  have hs3 : s2 = s := by
    apply ByteArray.ext
    exact Array.ext' hs2
  subst hs3
  have c0 : w1.cell? ⟨q, 0, none⟩ = some (.string s2) := hq.cell 0
  have c1 : w1.cell? ⟨q, 1, none⟩ = some (.int .i64 (a : Int)) := hq.cell 1
  have f2 := hq.frozen 1
  have hqn : q ≠ w.heap.size := by omega
  go_wp2_with fail
  go_quiet (fail)
  go_wp2
  obtain ⟨e0, e1, e2, e3⟩ := rtake_end hg1 hb1 hq hql HN.out H2.out nq
  unfold setF at e0 e1 e2 e3
  exact bodyPost_ret (v := .tuple #[.string (s2.extract a (a + n)), .agg #[.int .i64 0, .int .i64 0]]) (by simp [results, Tryd.results63, go_sem, e0, e1]) rfl ⟨rfl, e2, e3⟩
end Go.Proofs.YtmbdaenjeeklfaaDoor

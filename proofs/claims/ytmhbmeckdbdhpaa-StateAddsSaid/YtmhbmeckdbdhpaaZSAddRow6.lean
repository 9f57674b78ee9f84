/- Texts joined for the claim's sake: GLost, GIll. -/
import Derived.Test.YtmhbmeckdbdhpaaZSAddRow4
import Derived.Test.YtmhbmeckdbdhpaaZSAddRow3
import Derived.Scope
import Derived.WalkMore
namespace Go.Proofs.Ytmhbmeckdbdhpaa
open Go.RowKit Go.Shelf
attribute [local go_sem] Oper.semAt_some

theorem wpIn_scope_wide {n : Nat} {P : Program} {c : Code} {Q : Exit → Act → World → Prop} {a : Act} {w : World} (h : c.wpIn Fence.wide n P (Exit.noGoto Q) a w) : (Code.scope c).wpIn Fence.wide n P Q a w :=
  wpIn_wide.2 (wp_scope_straight (wpIn_wide.1 h))
theorem firstLost_skip {xs : List Nd} {n : Nat} : ∀ {k : Nat}, k ≤ n → (∀ j, j < k → lostB xs j = false) → firstLost xs n 0 = firstLost xs (n - k) k
  | 0, _, _ => rfl
  | k + 1, hk, h => by
    rw [firstLost_skip (k := k) (by omega) (fun j hj => h j (by omega))]
    obtain ⟨f, hf⟩ : ∃ f, n - k = f + 1 := ⟨n - k - 1, by omega⟩
    rw [hf, show n - (k + 1) = f by omega]
    simp [firstLost, h k (by omega)]
theorem firstLost_here {xs : List Nd} {n k : Nat} (hk : k < n) (h : ∀ j, j < k → lostB xs j = false) (hl : lostB xs k = true) : firstLost xs n 0 = (k : Int) := by
  rw [firstLost_skip (Nat.le_of_lt hk) h]
  obtain ⟨f, hf⟩ : ∃ f, n - k = f + 1 := ⟨n - k - 1, by omega⟩
  simp [hf, firstLost, hl]
theorem firstLost_none {xs : List Nd} {n : Nat} (h : ∀ j, j < n → lostB xs j = false) : firstLost xs n 0 = -1 := by
  rw [firstLost_skip (Nat.le_refl n) h, Nat.sub_self]; rfl

/-- What stands between two nodes: marks of the rounds that are over, what is known of nodes ahead. -/
structure LI (w : World) (xs : List Nd) (v : Value) (k : Nat) (Ds : List Nat) (W : World) : Prop where
  step : w.grownBy W none
  box : Blk W w.heap.size 22 #[v]
  apart : Ds.Nodup
  marks : ∀ D ∈ Ds, w.heap.size + 1 ≤ D ∧ W.heap[D]? = some (.deferred (some []))
  ahead : ∀ j, j < k → lostB xs j = false
theorem LI.below {w X Y : World} {xs : List Nd} {v : Value} {k B : Nat} {Ds : List Nat} (h : LI w xs v k Ds X) (hb : Below B X Y) (hw : w.heap.size < B) (hD : ∀ D ∈ Ds, D < B) : LI w xs v k Ds Y :=
  ⟨below_only hb h.step (by omega), h.box.below hb hw, h.apart, fun D hm => ⟨(h.marks D hm).1, (hb.block D (hD D hm)).trans (h.marks D hm).2⟩, h.ahead⟩
theorem LI.lt {w W : World} {xs : List Nd} {v : Value} {k : Nat} {Ds : List Nat} (h : LI w xs v k Ds W) : ∀ D ∈ Ds, D < W.heap.size := fun D hm => (Array.getElem?_eq_some_iff.1 (h.marks D hm).2).1
theorem LI.next {w W : World} {xs : List Nd} {v : Value} {k D : Nat} {Ds : List Nat} (h : LI w xs v k Ds W) (hD : ∀ D' ∈ Ds, D' < D) (hw : w.heap.size < D) (hK : W.heap[D]? = some (.deferred (some []))) (hl : lostB xs k = false) : LI w xs v (k + 1) (D :: Ds) W :=
  ⟨h.step, h.box, List.nodup_cons.2 ⟨fun hm => by have := hD D hm; omega, h.apart⟩, fun D' hm => by
    rcases List.mem_cons.1 hm with rfl | hm
    · exact ⟨by omega, hK⟩
    · exact h.marks D' hm, fun j hj => by
    by_cases e : j = k
    · subst e; exact hl
    · exact h.ahead j (by omega)⟩
def LIp (w : World) (xs : List Nd) (v : Value) (k : Nat) (Ds : List Nat) (pre : List Ed) (W : World) : Prop := LI w xs v k Ds W ∧ pre.all (isAl xs) = true
def LX (w : World) (xs : List Nd) (v : Value) (k : Nat) (Ds : List Nat) (c : Code) (pre : List Ed) (W : World) : Prop := c = .exit 1 ∧ LI w xs v k Ds W ∧ pre.all (isAl xs) = false

set_option maxRecDepth 100000 in
set_option maxHeartbeats 2000000 in
theorem firstLost_any (xs : List Nd) (v : Value) (w : World) (hT : Tbl w v xs) (hxs : xs.length ≤ 140737488351232) :
    Calls Try.prog 62 #[v] w fun e w' => e = .returned (.int .i64 (firstLost xs xs.length 0)) ∧ w.grownBy w' none := by
  refine (callsIn_wide (n := 3)).1 ?_
  refine callsIn_of_wp_marks Try.func62 rfl trivial ?_ rfl
  simp only [Try.ntmps62, List.size_toArray, List.length_cons, List.length_nil, Nat.reduceAdd, Nat.reduceSub, Array.replicate_succ, Array.replicate_zero, List.push_toArray, List.append_toArray, List.nil_append, List.cons_append]
  have HT := Lib.hid hT
  have HL := Lib.hid hxs
  obtain ⟨A, cap, rfl, hcl⟩ := hT
  clear hcl hxs
  gi_wp2_with fail
  refine wpIn_scope_wide ?_
  gi_wp2_with fail
  refine wpIn_label ?_
  gi_wp2_with fail
  have hW0 := Blk.new w 22 #[.slice A xs.length cap]
  refine wpIn_loop (fun a' W => ∃ (k : Nat) (Ds : List Nat) (u3 u4 u8 u9 u10 u11 u12 u13 u14 u15 u16 u17 u18 u19 u20 u21 u22 u23 : Value), k ≤ xs.length ∧ LI w xs (.slice A xs.length cap) k Ds W ∧ a' = { tmps := #[.slice A xs.length cap, .pointer (some ⟨w.heap.size, 0, none⟩), .int .i64 0, u3, u4, .slice A xs.length cap, .int .i64 (xs.length : Int), .int .i64 (k : Int), u8, u9, u10, u11, u12, u13, u14, u15, u16, u17, u18, u19, u20, u21, u22, u23], defers := Ds.map mark }) (fun a' _ => xs.length - (intOf (a'.tmps.getD 7 undef)).toNat)
    ⟨0, [], undef, undef, undef, undef, undef, undef, undef, undef, undef, undef, undef, undef, undef, undef, undef, undef, undef, undef, Nat.zero_le _, ⟨only_alloc (only_refl _ _) _, hW0, List.nodup_nil, (fun D h => by cases h), (fun j h => by omega)⟩, rfl⟩ ?_
  clear hW0
  rintro a' W ⟨k, Ds, u3, u4, u8, u9, u10, u11, u12, u13, u14, u15, u16, u17, u18, u19, u20, u21, u22, u23, hk, hI, rfl⟩
  have hl2 := HL.out
  have cb : W.cell? ⟨w.heap.size, 0, none⟩ = some (.slice A xs.length cap) := hI.box.cell 0
  have hbl := hI.box.lt
  have HI := Lib.hid hI
  clear hI
  by_cases hlt : k < xs.length
  · have hk0 : (0 : Int) ≤ (k : Int) := by omega
    have hk1 : (k : Int) < (xs.length : Int) := by omega
    gi_wp2_with (refine ⟨trivial, ?_⟩; gi_at_call 67; go_must (refine (callsIn_wide.2 (way_any _ _ _ ((k : Int), 0) _)).mono ?_; rintro e w5 ⟨rfl, rfl⟩))
    obtain ⟨W0, hW0⟩ : ∃ W0, ((W.alloc (.cells #[.slice A xs.length cap] 22)).alloc (.cells (edCells ((k : Int), 0)) 59)) = W0 := ⟨_, rfl⟩
    have hz : W0.heap.size = W.heap.size + 2 := by rw [← hW0]; simp
    have hb3 : Blk W0 W.heap.size 22 #[.slice A xs.length cap] := by rw [← hW0]; exact (Blk.new W _ _).alloc _
    have hb4 : Blk W0 (W.heap.size + 1) 59 (edCells ((k : Int), 0)) := by rw [← hW0]; exact blk_at (by simp) _ _
    have hbW : Below W.heap.size W W0 := by rw [← hW0]; exact ((Below.refl _ _).alloc (Nat.le_refl _) _).alloc (by simp) _
    have hI0 := HI.out.below hbW hbl HI.out.lt
    have hDs : ∀ D ∈ Ds, D < W0.heap.size := fun D hm => by have := HI.out.lt D hm; omega
    rw [hW0]
    clear hW0 hbW
    refine wpIn_rangeFunc_tells rfl (by omega) (gf := 76) (lb := #[.pointer (some ⟨W.heap.size + 1, 0, none⟩), .pointer (some ⟨W.heap.size, 0, none⟩)]) rfl trivial (enters_of Try.func76 (by kernel_rfl) rfl)
      (way_tells (W.heap.size + 1) W.heap.size xs (.slice A xs.length cap) ((k : Int), 0) HL.out) (fun h k => h.trans k) (fun _ _ _ o' h hc => .putObj o' h hc) KeepsCells.alloc (fun _ => rfl) ?t0 (LIp w xs (.slice A xs.length cap) k Ds) (LX w xs (.slice A xs.length cap) k Ds)
      (fun s X Y h hb => ⟨h.1.below hb (by omega) hDs, h.2⟩) (fun c s X Y h hb => ⟨h.1, h.2.1.below hb (by omega) hDs, h.2.2⟩) ⟨hI0, rfl⟩ 59 edCells
      (fun e Bx => { tmps := #[.slice A xs.length cap, .pointer (some ⟨w.heap.size, 0, none⟩), .int .i64 0, .int .i64 (k : Int), .pointer (some ⟨Bx, 0, none⟩), .slice A xs.length cap, .int .i64 (xs.length : Int), .int .i64 (k : Int), .bool true, .int .i64 (k : Int), .slice A xs.length cap, .int .i64 (k : Int), .agg #[.int .i64 (k : Int), .int .i64 0], .func (.func 76) #[] #[.pointer (some ⟨W.heap.size + 1, 0, none⟩), .pointer (some ⟨W.heap.size, 0, none⟩)], edV e, u15, u16, u17, u18, u19, u20, u21, u22, u23], defers := [] }) ?assign ?body ?done ?stop
    case t0 =>
      intro W2 hW
      exact ⟨hb4.below hW (by omega), hb3.below hW (by omega), (HT.out.keep (.grown hI0.step)).keep (.below hW)⟩
    case assign =>
      intro l e W2 K hK
      gi_wp2
      exact hK
    case body =>
      rintro l pre ⟨a, o⟩ W2 Bx hpre hBx hI hbx
      obtain ⟨x, hx⟩ := wayL_mem (hpre.subset (List.mem_append_right _ (List.mem_singleton_self _)))
      obtain ⟨hi0, hi1, hix⟩ := nodeAt_some hx
      dsimp only at hx hi0 hi1 hix
      obtain ⟨i, rfl⟩ : ∃ i : Nat, a = i := ⟨a.toNat, by omega⟩
      rw [show ((i : Int)).toNat = i by simp] at hix
      have c0 : W2.cell? ⟨Bx, 0, none⟩ = some (.int .i64 (i : Int)) := hbx.cell 0
      have c1 : W2.cell? ⟨Bx, 1, none⟩ = some (.int .i64 o) := hbx.cell 1
      have cn : W2.cell? ⟨w.heap.size, 0, none⟩ = some (.slice A xs.length cap) := hI.1.box.cell 0
      have hal := isAl_at (xs := xs) (t := ((i : Int), o)) hx
      have hT3 := HT.out.keep (Keeps.grown hI.1.step)
      have HI' := Lib.hid hI
      clear hI hpre hx hbx
      obtain ⟨A', c', hA, hcl⟩ := hT3
      obtain ⟨bb, off, hAb, hcl⟩ := hcl (by intro e0; rw [e0] at hi1; simp at hi1; omega)
      obtain ⟨v', _, n0, _⟩ := hcl i x hix
      obtain ⟨rfl, rfl⟩ : A = A' ∧ cap = c' := by simpa using hA
      subst hAb
      clear hA hcl hix
      by_cases hk : x.kind = 5
      · rw [hk] at n0
        have HS : Hid (isAl xs ((i : Int), o) = true) := hal.trans (by simp [hk])
        clear hal hk
        gi_wp2_with fail
        exact ⟨KeepsFrom.refl _ _, .refl _, HI'.out.1, by simp [HI'.out.2, HS.out]⟩
      · have HS : Hid (isAl xs ((i : Int), o) = false) := hal.trans (by simp [hk])
        clear hal
        gi_wp2_with fail
        exact ⟨KeepsFrom.refl _ _, rfl, HI'.out.1, by simp [HS.out]⟩
    case done =>
      rintro D W2 hD ⟨h1, h2⟩ hK
      have HS : Hid (firstLost xs xs.length 0 = (k : Int)) := firstLost_here hlt h1.ahead h2
      have H1 := Lib.hid h1
      have HK := Lib.hid hK
      clear h1 h2 hK
      gi_wp2_with fail
      refine marks_ret (B := w.heap.size + 1) (D :: Ds) _ (List.nodup_cons.2 ⟨fun hm => by have := hDs D hm; omega, H1.out.apart⟩) (fun D' hm => ?_) fun W' hW' => ?_
      · rcases List.mem_cons.1 hm with rfl | hm
        · exact ⟨by omega, HK.out⟩
        · exact H1.out.marks D' hm
      · exact ⟨_, results_tmp rfl _ _ _, by rw [HS.out]; rfl, hW'.grown H1.out.step (by omega)⟩
    case stop =>
      rintro D c pre W2 hD hpre hne ⟨rfl, h1, h2⟩ hK
      have hN : LI w xs (.slice A xs.length cap) (k + 1) (D :: Ds) W2 := h1.next (fun D' hm => by have := hDs D' hm; omega) (by omega) hK (all_prefix hpre h2)
      have HN := Lib.hid hN
      clear hN h1 h2 hK hpre
      gi_wp2_with fail
      exact ⟨⟨k + 1, D :: Ds, _, _, _, _, _, _, _, _, _, _, _, _, _, _, _, _, _, _, by omega, HN.out, rfl⟩, by simp [intOf]; omega⟩
  · have hke : k = xs.length := by omega
    have hge : (xs.length : Int) ≤ (k : Int) := by omega
    have HS : Hid (firstLost xs xs.length 0 = -1) := firstLost_none (by rw [← hke]; exact HI.out.ahead)
    clear hk hlt hke
    gi_wp2_with fail
    refine marks_ret (B := w.heap.size + 1) Ds _ HI.out.apart HI.out.marks fun W' hW' => ?_
    exact ⟨_, results_tmp rfl _ _ _, by rw [HS.out]; rfl, hW'.grown HI.out.step (by omega)⟩
end Go.Proofs.Ytmhbmeckdbdhpaa

namespace Go.Proofs.Ytmhbmeckdbdhpaa
open Go.RowKit Go.Shelf
attribute [local go_sem] Oper.semAt_some

theorem firstIll_skip {n : Nat} {xs : List Nd} : ∀ {k : Nat}, k ≤ xs.length → (∀ j x, j < k → xs[j]? = some x → illN n x = 0) → firstIll n xs 0 = firstIll n (xs.drop k) k
  | 0, _, _ => by simp
  | k + 1, hk, h => by
    rw [firstIll_skip (k := k) (by omega) (fun j x hj => h j x (by omega))]
    have hl : k < xs.length := by omega
    rw [List.drop_eq_getElem_cons hl]
    simp [firstIll, h k xs[k] (by omega) (List.getElem?_eq_getElem hl)]
theorem firstIll_here {n : Nat} {xs : List Nd} {k : Nat} {x : Nd} (hx : xs[k]? = some x) (h : ∀ j x, j < k → xs[j]? = some x → illN n x = 0) (hi : illN n x ≠ 0) : firstIll n xs 0 = ((k : Int), illN n x) := by
  obtain ⟨hl, rfl⟩ := List.getElem?_eq_some_iff.1 hx
  rw [firstIll_skip (Nat.le_of_lt hl) h, List.drop_eq_getElem_cons hl]
  simp [firstIll, hi]
theorem firstIll_none {n : Nat} {xs : List Nd} (h : ∀ j x, j < xs.length → xs[j]? = some x → illN n x = 0) : firstIll n xs 0 = (0, 0) := by
  rw [firstIll_skip (Nat.le_refl _) h, List.drop_length]; rfl

/-- What stands: the answers' cells, marks of the rounds that are over. -/
structure FS (w : World) (v : Value) (i e : Int) (Ds : List Nat) (W : World) : Prop where
  step : w.grownBy W none
  box : Blk W w.heap.size 22 #[v]
  r1 : Blk W (w.heap.size + 1) 3 #[.int .i64 i]
  r2 : Blk W (w.heap.size + 2) 36 #[.int .i64 e]
  apart : Ds.Nodup
  marks : ∀ D ∈ Ds, w.heap.size + 3 ≤ D ∧ W.heap[D]? = some (.deferred (some []))
section
variable {w X Y W : World} {v : Value} {i e : Int} {Ds : List Nat}
theorem FS.below {B : Nat} (h : FS w v i e Ds X) (hb : Below B X Y) (hw : w.heap.size + 2 < B) (hD : ∀ D ∈ Ds, D < B) : FS w v i e Ds Y :=
  ⟨below_only hb h.step (by omega), h.box.below hb (by omega), h.r1.below hb (by omega), h.r2.below hb hw, h.apart, fun D hm => ⟨(h.marks D hm).1, (hb.block D (hD D hm)).trans (h.marks D hm).2⟩⟩
theorem FS.lt (h : FS w v i e Ds W) : ∀ D ∈ Ds, D < W.heap.size := fun D hm => (Array.getElem?_eq_some_iff.1 (h.marks D hm).2).1
theorem FS.kept (h : FS w v i e Ds X) (hg : X.grownBy Y none) : FS w v i e Ds Y := h.below (below_of_only hg) h.r2.lt h.lt
theorem FS.mark {D : Nat} (h : FS w v i e Ds W) (hD : ∀ D' ∈ Ds, D' < D) (hw : w.heap.size + 2 < D) (hK : W.heap[D]? = some (.deferred (some []))) : FS w v i e (D :: Ds) W :=
  ⟨h.step, h.box, h.r1, h.r2, List.nodup_cons.2 ⟨fun hm => by have := hD D hm; omega, h.apart⟩, fun D' hm => by
    rcases List.mem_cons.1 hm with rfl | hm
    · exact ⟨by omega, hK⟩
    · exact h.marks D' hm⟩
theorem FS.put (h : FS w v i e Ds W) (i' e' : Int) : FS w v i' e' Ds ((W.setCell ⟨w.heap.size + 1, 0, none⟩ (.int .i64 i')).setCell ⟨w.heap.size + 2, 0, none⟩ (.int .i64 e')) :=
  have hk := (KeepsOthers.setCell W ⟨w.heap.size + 1, 0, none⟩ (.int .i64 i')).trans (KeepsOthers.setCell _ ⟨w.heap.size + 2, 0, none⟩ (.int .i64 e'))
  ⟨only_setNew (only_setNew h.step (by show w.heap.size ≤ w.heap.size + 1; omega) _) (by show w.heap.size ≤ w.heap.size + 2; omega) _,
    (h.box.far (p := ⟨w.heap.size + 1, 0, none⟩) (by show w.heap.size ≠ w.heap.size + 1; omega) _).far (p := ⟨w.heap.size + 2, 0, none⟩) (by show w.heap.size ≠ w.heap.size + 2; omega) _,
    (h.r1.set_ 0 _).far (p := ⟨w.heap.size + 2, 0, none⟩) (by show w.heap.size + 1 ≠ w.heap.size + 2; omega) _,
    (h.r2.far (p := ⟨w.heap.size + 1, 0, none⟩) (by show w.heap.size + 2 ≠ w.heap.size + 1; omega) _).set_ 0 _, h.apart,
    fun D hm => ⟨(h.marks D hm).1, hk.same D _ (h.marks D hm).2 rfl⟩⟩
theorem ill_results {tmps : Array Value} (h2 : tmps.getD 2 undef = .pointer (some ⟨w.heap.size + 1, 0, none⟩)) (h3 : tmps.getD 3 undef = .pointer (some ⟨w.heap.size + 2, 0, none⟩)) (hb1 : Blk W (w.heap.size + 1) 3 #[.int .i64 i]) (hb2 : Blk W (w.heap.size + 2) 36 #[.int .i64 e]) :
    (results Try.f61 tmps).run Try.prog W = .ok (.tuple #[.int .i64 i, .int .i64 e]) W := by
  have h2' : tmps[2]?.getD undef = .pointer (some ⟨w.heap.size + 1, 0, none⟩) := by simpa using h2
  have h3' : tmps[3]?.getD undef = .pointer (some ⟨w.heap.size + 2, 0, none⟩) := by simpa using h3
  have c1 := hb1.cell 0
  have c2 := hb2.cell 0
  simp [results, Try.results61, h2', h3', go_sem, c1, c2]
/-- It leaves. -/
theorem ill_out {F : Fence} {n : Nat} {tmps : Array Value} {R : Ending → World → Prop} (h2 : tmps.getD 2 undef = .pointer (some ⟨w.heap.size + 1, 0, none⟩)) (h3 : tmps.getD 3 undef = .pointer (some ⟨w.heap.size + 2, 0, none⟩)) (h : FS w v i e Ds W)
    (hR : ∀ W', w.grownBy W' none → R (.returned (.tuple #[.int .i64 i, .int .i64 e])) W') : bodyPostM F n Try.prog Try.f61 R .ret { tmps := tmps, defers := Ds.map mark } W :=
  marks_ret (B := w.heap.size + 3) Ds W h.apart h.marks fun W' hW' => ⟨_, ill_results h2 h3 (h.r1.keeps hW'.2) (h.r2.keeps hW'.2), hR W' (hW'.grown h.step (by omega))⟩
end
theorem ill_shape {n : Nat} {x : Nd} (h : shapeB x = false) : illN n x = 7 := by simp [illN, h]
theorem ill_open {n : Nat} {x : Nd} (h : shapeB x = true) (he : (edgesL x).all (inB n) = false) : illN n x = 8 := by simp only [illN, h, he, if_true]; rfl
theorem ill_ok {n : Nat} {x : Nd} (h : shapeB x = true) (he : (edgesL x).all (inB n) = true) : illN n x = 0 := by simp only [illN, h, he, if_true]

/-- What is known of the nodes ahead. -/
def Fine (xs : List Nd) (k : Nat) : Prop := ∀ j x, j < k → xs[j]? = some x → illN xs.length x = 0
theorem Fine.next {xs : List Nd} {k : Nat} {x : Nd} (h : Fine xs k) (hx : xs[k]? = some x) (hi : illN xs.length x = 0) : Fine xs (k + 1) := fun j y hj hy => by
  by_cases e : j = k
  · subst e; rw [hx] at hy; cases hy; exact hi
  · exact h j y (by omega) hy
def FSp (w : World) (n : Nat) (v : Value) (Ds : List Nat) (Bi k : Nat) (pre : List Ed) (W : World) : Prop := FS w v 0 0 Ds W ∧ Blk W Bi 3 #[.int .i64 (k : Int)] ∧ pre.all (inB n) = true
def FSx (w : World) (n : Nat) (v : Value) (Ds : List Nat) (k : Nat) (c : Code) (pre : List Ed) (W : World) : Prop := c = .ret ∧ FS w v (k : Int) 8 Ds W ∧ pre.all (inB n) = false

/-- Behind hasShape, in a round. -/
theorem ill_behind {w W W2 : World} {v v' : Value} {Ds : List Nat} {k : Nat} {x : Nd} (h : FS w v 0 0 Ds W) (hg : ((W.alloc (.cells #[.int .i64 (k : Int)] 3)).alloc (.cells (ndCells x v') 70)).grownBy W2 none) :
    FS w v 0 0 Ds W2 ∧ Blk W2 W.heap.size 3 #[.int .i64 (k : Int)] ∧ Blk W2 (W.heap.size + 1) 70 (ndCells x v') := by
  have h1 : W.grownBy ((W.alloc (.cells #[.int .i64 (k : Int)] 3)).alloc (.cells (ndCells x v') 70)) none := only_alloc (only_alloc (only_refl _ _) _) _
  exact ⟨(h.kept h1).kept hg, ((Blk.new W _ _).alloc _).kept hg, (blk_at (by simp) _ _).kept hg⟩

set_option maxRecDepth 100000 in
set_option maxHeartbeats 2000000 in
theorem firstIll_any (xs : List Nd) (v : Value) (w : World) (hT : Tbl w v xs) (hxs : xs.length ≤ 140737488351232) :
    Calls Try.prog 61 #[v] w fun e w' => e = .returned (.tuple #[.int .i64 (firstIll xs.length xs 0).1, .int .i64 (firstIll xs.length xs 0).2]) ∧ w.grownBy w' none := by
  refine (callsIn_wide (n := 3)).1 ?_
  refine callsIn_of_wp_marks Try.func61 rfl trivial ?_ rfl
  simp only [Try.ntmps61, List.size_toArray, List.length_cons, List.length_nil, Nat.reduceAdd, Nat.reduceSub, Array.replicate_succ, Array.replicate_zero, List.push_toArray, List.append_toArray, List.nil_append, List.cons_append]
  have HT := Lib.hid hT
  have HL := Lib.hid hxs
  obtain ⟨A, cap, rfl, hcl⟩ := hT
  clear hcl hxs
  gi_wp2_with fail
  have hz0 : (((w.alloc (.cells #[.slice A xs.length cap] 22)).alloc (.cells #[.int .i64 0] 3)).alloc (.cells #[.int .i64 0] 36)).heap.size = w.heap.size + 3 := by simp
  have hF0 : FS w (.slice A xs.length cap) 0 0 [] (((w.alloc (.cells #[.slice A xs.length cap] 22)).alloc (.cells #[.int .i64 0] 3)).alloc (.cells #[.int .i64 0] 36)) :=
    ⟨only_alloc (only_alloc (only_alloc (only_refl _ _) _) _) _, ((Blk.new w _ _).alloc _).alloc _, (blk_at (by simp) _ _).alloc _, blk_at (by simp) _ _, List.nodup_nil, fun D h => by cases h⟩
  refine wpIn_loop (fun a' W => ∃ (k : Nat) (Ds : List Nat) (u4 u5 u6 u10 u11 u12 u13 u14 u15 u16 u17 u18 u19 u20 u21 u22 u23 u24 u25 u26 u27 : Value), k ≤ xs.length ∧ Fine xs k ∧ FS w (.slice A xs.length cap) 0 0 Ds W ∧ a' = { tmps := #[.slice A xs.length cap, .pointer (some ⟨w.heap.size, 0, none⟩), .pointer (some ⟨w.heap.size + 1, 0, none⟩), .pointer (some ⟨w.heap.size + 1 + 1, 0, none⟩), u4, u5, u6, .slice A xs.length cap, .int .i64 (xs.length : Int), .int .i64 (k : Int), u10, u11, u12, u13, u14, u15, u16, u17, u18, u19, u20, u21, u22, u23, u24, u25, u26, u27], defers := Ds.map mark }) (fun a' _ => xs.length - (intOf (a'.tmps.getD 9 undef)).toNat)
    ⟨0, [], undef, undef, undef, undef, undef, undef, undef, undef, undef, undef, undef, undef, undef, undef, undef, undef, undef, undef, undef, undef, undef, Nat.zero_le _, (fun j x h => by omega), hF0, rfl⟩ ?_
  clear hF0 hz0
  rintro a' W ⟨k, Ds, u4, u5, u6, u10, u11, u12, u13, u14, u15, u16, u17, u18, u19, u20, u21, u22, u23, u24, u25, u26, u27, hk, hfine, hI, rfl⟩
  have hl2 := HL.out
  have cb : W.cell? ⟨w.heap.size, 0, none⟩ = some (.slice A xs.length cap) := hI.box.cell 0
  have hbl : w.heap.size + 2 < W.heap.size := hI.r2.lt
  by_cases hlt : k < xs.length
  · have hk0 : (0 : Int) ≤ (k : Int) := by omega
    have hk1 : (k : Int) < (xs.length : Int) := by omega
    obtain ⟨x, hx⟩ : ∃ x, xs[k]? = some x := ⟨_, List.getElem?_eq_getElem hlt⟩
    obtain ⟨A', c', hA, hcl⟩ := HT.out.keep (Keeps.grown hI.step)
    obtain ⟨bb, off, hAb, hcl2⟩ := hcl (by intro e0; rw [e0] at hlt; simp at hlt)
    obtain ⟨v', hE, n0, n1, n2, n3, n4, n5⟩ := hcl2 k x hx
    clear hcl2 hcl
    have hE3 := hE
    obtain ⟨A2, c2, rfl, _, _⟩ := hE3
    obtain ⟨rfl, rfl⟩ : A = A' ∧ cap = c' := by simpa using hA
    subst hAb
    clear hA
    have HE1 := Lib.hid ((hE.keep (.alloc W (.cells #[.int .i64 (k : Int)] 3))).keep (.alloc _ (.cells (ndCells x (.slice A2 x.next.length c2)) 70)))
    have HX := Lib.hid hx
    have HFine := Lib.hid hfine
    have HI := Lib.hid hI
    clear hx hfine hI hE
    cases hs : shapeB x
    · have HS := Lib.hid hs
      gi_wp2_with (refine ⟨trivial, ?_⟩; gi_at_call 71; go_must (refine (callsIn_wide.2 (hasShape_any x (.slice A2 x.next.length c2) _ HE1.out)).mono ?_; rintro e W2 ⟨rfl, hg2⟩; obtain ⟨hF, hi, _⟩ := ill_behind HI.out hg2; have HF := Lib.hid hF; have d1 : W2.cell? ⟨w.heap.size + 1, 0, none⟩ = some (.int .i64 0) := hF.r1.cell 0; have d2 : W2.cell? ⟨w.heap.size + 1 + 1, 0, none⟩ = some (.int .i64 0) := hF.r2.cell 0; have f1 : W2.frozen? ⟨w.heap.size + 1, 0, none⟩ = false := hF.r1.frozen 0; have f2 : W2.frozen? ⟨w.heap.size + 1 + 1, 0, none⟩ = false := hF.r2.frozen 0; have d3 : W2.cell? ⟨W.heap.size, 0, none⟩ = some (.int .i64 (k : Int)) := hi.cell 0; clear hF hg2 hi))
      exact ill_out rfl rfl (HF.out.put _ _) fun W' hW' => ⟨by rw [firstIll_here HX.out HFine.out (by rw [ill_shape HS.out]; omega), ill_shape HS.out], hW'⟩
    · have HS := Lib.hid hs
      gi_wp2_with (first | (refine ⟨trivial, ?_⟩; gi_at_call 71; go_must (refine (callsIn_wide.2 (hasShape_any x (.slice A2 x.next.length c2) _ HE1.out)).mono ?_; rintro e W2 ⟨rfl, hg2⟩; obtain ⟨hF, hi, hn⟩ := ill_behind HI.out hg2; have HF := Lib.hid hF; have HB := Lib.hid hi; have HE2 := Lib.hid (HE1.out.keep (.grown hg2)); obtain ⟨p0, p1, p2, p3, p4, p5⟩ := nd_cells hn; clear hF hg2 hi hn)) | (refine ⟨trivial, ?_⟩; gi_at_call 72; go_must (refine (callsIn_wide.2 (edges_any x _ _)).mono ?_; rintro e w5 ⟨rfl, rfl⟩)))
      obtain ⟨W0, hW0⟩ : ∃ W0, W2.alloc (.cells (ndCells x (.slice A2 x.next.length c2)) 70) = W0 := ⟨_, rfl⟩
      have hz : W0.heap.size = W2.heap.size + 1 := by rw [← hW0]; simp
      have hgW : W2.grownBy W0 none := by rw [← hW0]; exact only_alloc (only_refl _ _) _
      have hbn : Blk W0 W2.heap.size 70 (ndCells x (.slice A2 x.next.length c2)) := by rw [← hW0]; exact Blk.new _ _ _
      have hF0 := HF.out.kept hgW
      have hB0 := HB.out.kept hgW
      have hE0 := HE2.out.keep (.grown hgW)
      have hDs := hF0.lt
      have hbl2 : W.heap.size < W0.heap.size := hB0.lt
      rw [hW0]
      clear hW0 hgW n0 n1 n2 n3 n4 n5 p0 p1 p2 p3 p4 p5
      refine wpIn_rangeFunc_tells rfl (by omega) (gf := 81) (lb := #[.pointer (some ⟨W2.heap.size, 0, none⟩)]) rfl trivial (enters_of Try.func81 (by kernel_rfl) rfl)
        (edges_tells W2.heap.size x (.slice A2 x.next.length c2)) (fun h k => h.trans k) (fun _ _ _ o' h hc => .putObj o' h hc) KeepsCells.alloc (fun _ => rfl) ?t0 (FSp w xs.length (.slice (some ⟨bb, off, none⟩) xs.length cap) Ds W.heap.size k) (FSx w xs.length (.slice (some ⟨bb, off, none⟩) xs.length cap) Ds k)
        (fun s X Y h hb => ⟨h.1.below hb (by omega) hDs, h.2.1.below hb hbl2, h.2.2⟩) (fun c s X Y h hb => ⟨h.1, h.2.1.below hb (by omega) hDs, h.2.2⟩) ⟨hF0, hB0, rfl⟩ 67 edCells
        (fun e Bx => { tmps := #[.slice (some ⟨bb, off, none⟩) xs.length cap, .pointer (some ⟨w.heap.size, 0, none⟩), .pointer (some ⟨w.heap.size + 1, 0, none⟩), .pointer (some ⟨w.heap.size + 1 + 1, 0, none⟩), .pointer (some ⟨W.heap.size, 0, none⟩), .pointer (some ⟨W.heap.size + 1, 0, none⟩), .pointer (some ⟨Bx, 0, none⟩), .slice (some ⟨bb, off, none⟩) xs.length cap, .int .i64 (xs.length : Int), .int .i64 (k : Int), .bool true, .int .i64 (k : Int), .pointer (some ⟨bb, off + k * 6, none⟩), ndV x (.slice A2 x.next.length c2), ndV x (.slice A2 x.next.length c2), .bool true, .bool false, u17, ndV x (.slice A2 x.next.length c2), .func (.func 81) #[] #[.pointer (some ⟨W2.heap.size, 0, none⟩)], edV e, u21, u22, u23, u24, u25, u26, u27], defers := [] }) ?assign ?body ?done ?stop
      case t0 =>
        intro W3 hW
        exact ⟨hbn.below hW (by omega), hE0.keep (.below hW)⟩
      case assign =>
        intro l e W3 K hK
        gi_wp2
        exact hK
      case body =>
        rintro l pre ⟨a, b⟩ W3 Bx hpre hBx hI hbx
        have c0 : W3.cell? ⟨Bx, 0, none⟩ = some (.int .i64 a) := hbx.cell 0
        have cn : W3.cell? ⟨w.heap.size, 0, none⟩ = some (.slice (some ⟨bb, off, none⟩) xs.length cap) := hI.1.box.cell 0
        have d1 : W3.cell? ⟨w.heap.size + 1, 0, none⟩ = some (.int .i64 0) := hI.1.r1.cell 0
        have d2 : W3.cell? ⟨w.heap.size + 1 + 1, 0, none⟩ = some (.int .i64 0) := hI.1.r2.cell 0
        have f1 : W3.frozen? ⟨w.heap.size + 1, 0, none⟩ = false := hI.1.r1.frozen 0
        have f2 : W3.frozen? ⟨w.heap.size + 1 + 1, 0, none⟩ = false := hI.1.r2.frozen 0
        have d3 : W3.cell? ⟨W.heap.size, 0, none⟩ = some (.int .i64 (k : Int)) := hI.2.1.cell 0
        have HI' := Lib.hid hI
        clear hI hpre hbx
        cases hs2 : nodeB xs.length a
        · have HS2 : Hid (inB xs.length (a, b) = false) := hs2
          gi_wp2_with (refine ⟨trivial, ?_⟩; gi_at_call 73; refine (CallsIn.inRound l (callsIn_wide.2 (isNode_any _ _ _ HL.out _ _))).mono ?_; rintro e w6 ⟨rfl, rfl⟩)
          exact ⟨((KeepsOthers.setCell _ _ _).trans (KeepsOthers.setCell _ _ _)).from _, rfl, HI'.out.1.put _ _, by simp [HS2.out]⟩
        · have HS2 : Hid (inB xs.length (a, b) = true) := hs2
          gi_wp2_with (refine ⟨trivial, ?_⟩; gi_at_call 73; refine (CallsIn.inRound l (callsIn_wide.2 (isNode_any _ _ _ HL.out _ _))).mono ?_; rintro e w6 ⟨rfl, rfl⟩)
          exact ⟨KeepsFrom.refl _ _, .refl _, HI'.out.1, HI'.out.2.1, by simp [HI'.out.2.2, HS2.out]⟩
      case done =>
        rintro D W3 hD ⟨h1, h2, h3⟩ hK
        have HN := Lib.hid (h1.mark (fun D' hm => by have := hDs D' hm; omega) (by omega) hK)
        have HFN := Lib.hid (HFine.out.next HX.out (ill_ok HS.out h3))
        clear h1 h2 h3 hK
        gi_wp2_with fail
        exact ⟨⟨k + 1, D :: Ds, _, _, _, _, _, _, _, _, _, _, _, _, _, _, _, _, _, _, _, _, _,  by omega, HFN.out, HN.out, rfl⟩, by simp [intOf]; omega⟩
      case stop =>
        rintro D c pre W3 hD hpre hne ⟨rfl, h1, h2⟩ hK
        have HN := Lib.hid (h1.mark (fun D' hm => by have := hDs D' hm; omega) (by omega) hK)
        have HS3 := Lib.hid (ill_open (n := xs.length) HS.out (all_prefix hpre h2))
        clear h1 h2 hK hpre
        gi_wp2_with fail
        exact ill_out (Ds := D :: Ds) rfl rfl HN.out fun W' hW' => ⟨by rw [firstIll_here HX.out HFine.out (by rw [HS3.out]; omega), HS3.out], hW'⟩
  · have hke : k = xs.length := by omega
    have hge : (xs.length : Int) ≤ (k : Int) := by omega
    have HS : Hid (firstIll xs.length xs 0 = (0, 0)) := firstIll_none (by rw [hke] at hfine; exact hfine)
    have d1 : W.cell? ⟨w.heap.size + 1, 0, none⟩ = some (.int .i64 0) := hI.r1.cell 0
    have d2 : W.cell? ⟨w.heap.size + 1 + 1, 0, none⟩ = some (.int .i64 0) := hI.r2.cell 0
    have f1 : W.frozen? ⟨w.heap.size + 1, 0, none⟩ = false := hI.r1.frozen 0
    have f2 : W.frozen? ⟨w.heap.size + 1 + 1, 0, none⟩ = false := hI.r2.frozen 0
    have HI := Lib.hid hI
    clear hk hlt hke hfine hI
    gi_wp2_with fail
    exact ill_out rfl rfl (HI.out.put _ _) fun W' hW' => ⟨by rw [HS.out], hW'⟩
end Go.Proofs.Ytmhbmeckdbdhpaa

/- graph: Resolve: what it answers of any table and type. -/
import Derived.Test.YtoklaajiajilhaaDoorGWay
namespace Go.Proofs.YtoklaajiajilhaaDoor
open Go.RowKit Go.Shelf
attribute [local go_sem] Oper.semAt_some

theorem type_size : (Tryd.prog.info? 24).map (·.size) = some 2 := by kernel_rfl
theorem res_results {tmps : Array Value} {W : World} {b : Nat} {t : Ed} (hp : tmps.getD 4 undef = .pointer (some ⟨b, 0, none⟩)) (hb : Blk W b 24 (edCells t)) :
    (results Tryd.f13 tmps).run Tryd.prog W = .ok (edV t) W := by
  have hp' : tmps[4]?.getD undef = .pointer (some ⟨b, 0, none⟩) := by simpa using hp
  simp [results, Tryd.results13, hp', asAddr, run_loadVar_row W b _ 24 _ _ _ hb Tryd.underlying24 rfl (by exact type_size)]

/-- Between two types of the way; where one is no alias. -/
def RI (w : World) (xs : List Nd) (v : Value) (pre : List Ed) (W : World) : Prop := w.grownBy W none ∧ Blk W w.heap.size 22 #[v] ∧ Blk W (w.heap.size + 2) 24 (edCells (0, 0)) ∧ pre.all (isAl xs) = true
def RX (w : World) (xs : List Nd) (c : Code) (pre : List Ed) (W : World) : Prop := c = .ret ∧ ∃ p s, pre = p ++ [s] ∧ p.all (isAl xs) = true ∧ isAl xs s = false ∧ w.grownBy W none ∧ Blk W (w.heap.size + 2) 24 (edCells s)
theorem ri_below {w : World} {xs : List Nd} {v : Value} {B : Nat} (hB : w.heap.size + 2 < B) (s : List Ed) (X Y : World) (h : RI w xs v s X) (hb : Below B X Y) : RI w xs v s Y := ⟨below_only hb h.1 (by omega), h.2.1.below hb (by omega), h.2.2.1.below hb hB, h.2.2.2⟩
theorem rx_below {w : World} {xs : List Nd} {B : Nat} (hB : w.heap.size + 2 < B) (c : Code) (s : List Ed) (X Y : World) (h : RX w xs c s X) (hb : Below B X Y) : RX w xs c s Y := by
  obtain ⟨h0, p, s, h1, h2, h3, h4, h5⟩ := h
  exact ⟨h0, p, s, h1, h2, h3, below_only hb h4 (by omega), h5.below hb hB⟩
theorem ri_next {w W : World} {xs : List Nd} {v : Value} {pre : List Ed} {e : Ed} (h : RI w xs v pre W) (he : isAl xs e = true) : RI w xs v (pre ++ [e]) W := ⟨h.1, h.2.1, h.2.2.1, by simp [h.2.2.2, he]⟩
theorem rx_next {w W : World} {xs : List Nd} {v : Value} {pre : List Ed} {e : Ed} (h : RI w xs v pre W) (he : isAl xs e = false) : RX w xs .ret (pre ++ [e]) ((W.setCell ⟨w.heap.size + 2, 0, none⟩ (.int .i64 e.1)).setCell ⟨w.heap.size + 2, 1, none⟩ (.int .i64 e.2)) :=
  ⟨rfl, pre, e, rfl, h.2.2.2, he, only_setNew (only_setNew h.1 (by show w.heap.size ≤ w.heap.size + 2; omega) _) (by show w.heap.size ≤ w.heap.size + 2; omega) _, (h.2.2.1.set_ 0 _).set_ 1 _⟩
set_option maxRecDepth 100000 in
set_option maxHeartbeats 2000000 in
theorem resolve_any (xs : List Nd) (v : Value) (t : Ed) (w : World) (hT : Tbl w v xs) (hxs : xs.length ≤ 140737488351232) :
    Calls Tryd.prog 13 #[v, edV t] w fun e w' => e = .returned (edV (resolveL xs t)) ∧ w.grownBy w' none := by
  refine (callsIn_wide (n := 3)).1 ?_
  refine callsIn_of_wp_marks Tryd.func13 rfl trivial ?_ rfl
  simp only [Tryd.ntmps13, List.size_toArray, List.length_cons, List.length_nil, Nat.reduceAdd, Nat.reduceSub, Array.replicate_succ, Array.replicate_zero, List.push_toArray, List.append_toArray, List.nil_append, List.cons_append]
  have HT := Lib.hid hT
  have HL := Lib.hid hxs
  obtain ⟨A, cap, rfl, hcl⟩ := hT
  clear hcl hxs
  gi_wp2_with (refine ⟨trivial, ?_⟩; gi_at_call 24; go_must (refine (callsIn_wide.2 (way_any _ _ _ _ _)).mono ?_; rintro e w5 ⟨rfl, rfl⟩))
  obtain ⟨W0, hW0⟩ : ∃ W0, (((((w.alloc (.cells #[.slice A xs.length cap] 22)).alloc (.cells #[.int .i64 t.1, .int .i64 t.2] 24)).alloc (.cells #[.int .i64 0, .int .i64 0] 24)).alloc (.cells #[.slice A xs.length cap] 22)).alloc (.cells (edCells t) 24)) = W0 := ⟨_, rfl⟩
  have hg0 : w.grownBy W0 none := by rw [← hW0]; exact only_alloc (only_alloc (only_alloc (only_alloc (only_alloc (only_refl _ _) _) _) _) _) _
  have hz : W0.heap.size = w.heap.size + 5 := by rw [← hW0]; simp
  have hb0 : Blk W0 w.heap.size 22 #[.slice A xs.length cap] := by rw [← hW0]; exact ((((Blk.new w _ _).alloc _).alloc _).alloc _).alloc _
  have hb2 : Blk W0 (w.heap.size + 2) 24 (edCells (0, 0)) := by rw [← hW0]; exact ((blk_at (by simp) _ _).alloc _).alloc _
  have hb3 : Blk W0 (w.heap.size + 3) 22 #[.slice A xs.length cap] := by rw [← hW0]; exact (blk_at (by simp) _ _).alloc _
  have hb4 : Blk W0 (w.heap.size + 4) 24 (edCells t) := by rw [← hW0]; exact blk_at (by simp) _ _
  rw [hW0]
  clear hW0
  refine wpIn_rangeFunc_tells rfl (by omega) (gf := 33) (lb := #[.pointer (some ⟨w.heap.size + 4, 0, none⟩), .pointer (some ⟨w.heap.size + 3, 0, none⟩)]) rfl trivial (enters_of Tryd.func33 (by kernel_rfl) rfl)
    (way_tells (w.heap.size + 4) (w.heap.size + 3) xs (.slice A xs.length cap) t HL.out) (fun h k => h.trans k) (fun _ _ _ o' h hc => .putObj o' h hc) KeepsCells.alloc (fun _ => rfl) ?t0 (RI w xs (.slice A xs.length cap)) (RX w xs) (ri_below (by omega)) (rx_below (by omega)) ⟨hg0, hb0, hb2, rfl⟩ 24 edCells
    (fun e Bx => { tmps := #[.slice A xs.length cap, edV t, .pointer (some ⟨w.heap.size, 0, none⟩), .pointer (some ⟨w.heap.size + 1, 0, none⟩), .pointer (some ⟨w.heap.size + 1 + 1, 0, none⟩), .pointer (some ⟨Bx, 0, none⟩), .slice A xs.length cap, edV t, .func (.func 33) #[] #[.pointer (some ⟨w.heap.size + 1 + 1 + 1 + 1, 0, none⟩), .pointer (some ⟨w.heap.size + 1 + 1 + 1, 0, none⟩)], edV e, undef, undef, undef, undef, undef, undef, undef, undef, undef], defers := [] }) ?assign ?body ?done ?stop
  case t0 =>
    intro W hW
    exact ⟨hb4.below hW (by omega), hb3.below hW (by omega), (HT.out.keep (.grown hg0)).keep (.below hW)⟩
  case assign =>
    intro l e W K hK
    gi_wp2
    exact hK
  case body =>
    rintro l pre ⟨a, o⟩ W Bx hpre hBx hI hbx
    obtain ⟨x, hx⟩ := wayL_mem (hpre.subset (List.mem_append_right _ (List.mem_singleton_self _)))
    obtain ⟨hi0, hi1, hix⟩ := nodeAt_some hx
    dsimp only at hx hi0 hi1 hix
    obtain ⟨i, rfl⟩ : ∃ i : Nat, a = i := ⟨a.toNat, by omega⟩
    rw [show ((i : Int)).toNat = i by simp] at hix
    have c0 : W.cell? ⟨Bx, 0, none⟩ = some (.int .i64 (i : Int)) := hbx.cell 0
    have c1 : W.cell? ⟨Bx, 1, none⟩ = some (.int .i64 o) := hbx.cell 1
    have cn : W.cell? ⟨w.heap.size, 0, none⟩ = some (.slice A xs.length cap) := hI.2.1.cell 0
    have c2 : W.cell? ⟨w.heap.size + 1 + 1, 0, none⟩ = some (.int .i64 0) := hI.2.2.1.cell 0
    have c3 : W.cell? ⟨w.heap.size + 1 + 1, 1, none⟩ = some (.int .i64 0) := hI.2.2.1.cell 1
    have f2 : W.frozen? ⟨w.heap.size + 1 + 1, 0, none⟩ = false := hI.2.2.1.frozen 0
    have f3 : W.frozen? ⟨w.heap.size + 1 + 1, 1, none⟩ = false := hI.2.2.1.frozen 1
    have hal := isAl_at (xs := xs) (t := ((i : Int), o)) hx
    have hT3 := HT.out.keep (Keeps.grown hI.1)
    have HI' := Lib.hid hI
    clear hI hpre hx hbx
    obtain ⟨A', c', hA, hcl⟩ := hT3
    obtain ⟨bb, off, hAb, hcl⟩ := hcl (by intro e0; rw [e0] at hi1; simp at hi1; omega)
    obtain ⟨v', _, n0, _⟩ := hcl i x hix
    obtain ⟨rfl, rfl⟩ : A = A' ∧ cap = c' := by simpa using hA
    subst hAb
    clear hA hcl hix
    have hl2 := HL.out
    by_cases hk : x.kind = 5
    · rw [hk] at n0
      have HS : Hid (isAl xs ((i : Int), o) = true) := hal.trans (by simp [hk])
      clear hal hk
      gi_wp2_with fail
      exact ⟨KeepsFrom.refl _ _, .refl _, ri_next HI'.out HS.out⟩
    · have HS : Hid (isAl xs ((i : Int), o) = false) := hal.trans (by simp [hk])
      clear hal
      gi_wp2_with fail
      exact ⟨((KeepsOthers.setCell _ _ _).trans (KeepsOthers.setCell _ _ _)).from _, rx_next HI'.out HS.out⟩
  case done =>
    rintro D W hD ⟨h1, h2, h3, h4⟩ hK
    have c2 : W.cell? ⟨w.heap.size + 1 + 1, 0, none⟩ = some (.int .i64 0) := h3.cell 0
    have c3 : W.cell? ⟨w.heap.size + 1 + 1, 1, none⟩ = some (.int .i64 0) := h3.cell 1
    have f2 : W.frozen? ⟨w.heap.size + 1 + 1, 0, none⟩ = false := h3.frozen 0
    have f3 : W.frozen? ⟨w.heap.size + 1 + 1, 1, none⟩ = false := h3.frozen 1
    have HK2 := Lib.hid (((KeepsOthers.setCell W ⟨w.heap.size + 1 + 1, 0, none⟩ (.int .i64 (-1))).trans (KeepsOthers.setCell _ ⟨w.heap.size + 1 + 1, 1, none⟩ (.int .i64 0))).same D _ hK rfl)
    have HB7 : Hid (Blk ((W.setCell ⟨w.heap.size + 1 + 1, 0, none⟩ (.int .i64 (-1))).setCell ⟨w.heap.size + 1 + 1, 1, none⟩ (.int .i64 0)) (w.heap.size + 2) 24 (edCells (-1, 0))) := (h3.set_ 0 (.int .i64 (-1))).set_ 1 (.int .i64 0)
    have HG7 := Lib.hid (only_setNew (only_setNew h1 (p := ⟨w.heap.size + 1 + 1, 0, none⟩) (by show w.heap.size ≤ w.heap.size + 1 + 1; omega) (.int .i64 (-1))) (p := ⟨w.heap.size + 1 + 1, 1, none⟩) (by show w.heap.size ≤ w.heap.size + 1 + 1; omega) (.int .i64 0))
    have HS : Hid (resolveL xs t = (-1, 0)) := pickL_nil_of_all h4
    clear h1 h2 h3 h4 hK
    gi_wp2_with fail
    refine marks_ret (B := w.heap.size + 5) [D] _ (by simp) (by simp only [List.mem_singleton, forall_eq]; exact ⟨by omega, HK2.out⟩) fun W' hW' => ?_
    exact ⟨_, res_results rfl (HB7.out.keeps hW'.2), by rw [HS.out], hW'.grown HG7.out (by omega)⟩
  case stop =>
    rintro D c pre W hD hpre hne ⟨rfl, p, s, rfl, hp, hs, h1, h2⟩ hK
    have HS : Hid (resolveL xs t = s) := by
      obtain ⟨r, hr⟩ := hpre
      rw [resolveL, ← hr, List.append_assoc]
      exact pickL_at hp hs
    gi_wp2_with fail
    refine marks_ret (B := w.heap.size + 5) [D] _ (by simp) (by simp only [List.mem_singleton, forall_eq]; exact ⟨by omega, hK⟩) fun W' hW' => ?_
    exact ⟨_, res_results rfl (h2.keeps hW'.2), by rw [HS.out], hW'.grown h1 (by omega)⟩
end Go.Proofs.YtoklaajiajilhaaDoor

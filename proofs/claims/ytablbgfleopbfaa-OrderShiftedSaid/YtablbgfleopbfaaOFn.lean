/- order: acts, isNode, jump. -/
import Derived.Test.YtablbgfleopbfaaOOrd
import Derived.Test.YtablbgfleopbfaaGRefD
import Derived.Deep.RegionHeld3
namespace Go.Proofs.Ytablbgfleopbfaa
open Go.RowKit Go.Shelf

set_option maxHeartbeats 400000 in
theorem oacts_any (x : Nd) (v : Value) (w : World) : Calls Try.prog 19 #[ndV x v] w fun e w' => e = .returned (.bool (actB x.kind)) ∧ w.grownBy w' none := by
  go_enter Try.func19, Try.ntmps19
  go_wp2_with fail
  all_goals go_ret
  · exact ⟨by simp [actB, *], only_alloc (only_refl _ _) _⟩
  · exact ⟨by simp [actB, *]; cases h : (x.kind == 5) <;> simp_all, only_alloc (only_refl _ _) _⟩
theorem oisNode_any (A : Option Addr) (n c : Nat) (i : Int) (w : World) : Calls Try.prog 24 #[.slice A n c, .int .i64 i] w fun e w' => e = .returned (.bool (nodeB n i)) ∧ w' = w := by
  go_enter Try.func24, Try.ntmps24
  go_wp2_with fail
  all_goals go_ret
  all_goals refine ⟨?_, rfl⟩
  all_goals simp [nodeB, withinB, *]
  all_goals omega

abbrev jump3 (p : Option (Int × Int)) : Value := match p with | some (t, r) => .tuple #[.int .i64 t, .int .i64 r, .bool true] | none => .tuple #[.int .i64 0, .int .i64 0, .bool false]
set_option maxRecDepth 100000 in
set_option maxHeartbeats 2000000 in
theorem ojump_any (xs : List Nd) (v : Value) (fr : Int) (e : Ed) (x y : Nd) (w : World) (hT : Tbl w v xs) (hxs : xs.length ≤ 1000) (hx : nodeAt xs fr = some x) (hy : nodeAt xs (resolveL xs e).1 = some y) :
    Calls Try.prog 25 #[v, .int .i64 fr, edV e] w fun en w' => en = .returned (jump3 (jumpP xs x.prio e)) ∧ w.grownBy w' none := by
  have HT := Lib.hid hT
  have HL := Lib.hid hxs
  obtain ⟨A, cap, rfl, hcl⟩ := hT
  have hxs' : (xs.length : Int) ≤ 1000 := by omega
  obtain ⟨q, hq⟩ : ∃ q, resolveL xs e = q := ⟨_, rfl⟩
  have HQ := Lib.hid hq
  rw [hq] at hy
  obtain ⟨qn, qo⟩ := q
  have hx2 := nodeAt_some hx
  have hy2 := nodeAt_some hy
  obtain ⟨f, rfl⟩ : ∃ f : Nat, fr = f := ⟨fr.toNat, by omega⟩
  dsimp only at hy2
  obtain ⟨m, rfl⟩ : ∃ m : Nat, qn = m := ⟨qn.toNat, by omega⟩
  obtain ⟨hx0, hx1, hx3⟩ := hx2
  obtain ⟨hy0, hy1, hy3⟩ := hy2
  have HY := Lib.hid hy
  obtain ⟨b, off, rfl, hcl2⟩ := hcl (by intro e0; rw [e0] at hx1; simp at hx1; omega)
  obtain ⟨vx, _, n0, n1, n2, n3, n4, n5⟩ := hcl2 f x (by simpa using hx3)
  obtain ⟨vy, _, m0, m1, m2, m3, m4, m5⟩ := hcl2 m y (by simpa using hy3)
  have hbb := cell_lt n0
  clear hcl2 hcl hx3 hy3 hx hy hq hxs
  have HR : Hid (jumpP xs x.prio e = if actB y.kind then some ((m : Int), wrap64 (wrap64 (y.prio + qo) - x.prio)) else none) := by
    show _ = _
    unfold jumpP
    rw [HQ.out]
    simp only [HY.out]
  obtain ⟨kk, hkk⟩ : ∃ kk, actB y.kind = kk := ⟨_, rfl⟩
  have HK := Lib.hid hkk
  go_enter Try.func25, Try.ntmps25
  go_wp2_with (first | (go_at_call 16; go_must (refine (resolve_any xs _ e _ (HT.out.keep (.alloc _ _)) (by have := HL.out; omega)).mono ?_; rw [HQ.out]; rintro en w1 ⟨rfl, hg⟩; have HG := Lib.hid (only_trans (only_alloc (only_refl _ _) _) hg); have a1 := Keeps.grown HG.out _ _ n1; have b0 := Keeps.grown HG.out _ _ m0; have b1 := Keeps.grown HG.out _ _ m1; have b2 := Keeps.grown HG.out _ _ m2; have b3 := Keeps.grown HG.out _ _ m3; have b4 := Keeps.grown HG.out _ _ m4; have b5 := Keeps.grown HG.out _ _ m5; have hb1 := cell_lt a1; clear hg)) | (go_at_call 19; go_must (refine (oacts_any y _ _).mono ?_; rw [HK.out]; rintro en w2 ⟨rfl, hg2⟩; have HG2 := Lib.hid (only_trans (only_alloc HG.out _) hg2); have hk2 := (Keeps.alloc w1 _).trans (Keeps.grown hg2); have d1 := hk2 _ _ a1; have d2 := hk2 _ _ b1; have hb2 := cell_lt d1; have hbx : Blk w2 w1.heap.size 37 (edCells ((m : Int), qo)) := (Blk.new w1 _ _).kept hg2; have d3 : w2.cell? ⟨w1.heap.size, 0, none⟩ = some (.int .i64 (m : Int)) := hbx.cell 0; have d4 : w2.cell? ⟨w1.heap.size, 1, none⟩ = some (.int .i64 qo) := hbx.cell 1; clear hg2 hk2 hbx)))
  · go_ret3
    exact ⟨by rw [HR.out]; simp_all, HG2.out⟩
  · go_region_held3 (fun w' => w'.cell? ⟨w1.heap.size, 0, none⟩ = some (.int .i64 (m : Int)) ∧ w'.cell? ⟨w1.heap.size, 1, none⟩ = some (.int .i64 qo) ∧ w'.cell? ⟨b, off + f * 6 + 1, none⟩ = some (.int .i64 x.prio) ∧ w'.cell? ⟨b, off + m * 6 + 1, none⟩ = some (.int .i64 y.prio)) (exact ⟨d3, d4, d1, d2⟩) (fail)
    all_goals go_wp2
    all_goals go_ret3
    all_goals exact ⟨by rw [HR.out]; simp_all [jump3, IntWalk.i64_left], only_drew HG2.out⟩
end Go.Proofs.Ytablbgfleopbfaa

/- UnfoldSteady: the walk, from the contracts. -/
import Derived.Test.YtoklaajiajilhaaDoorUWrk
import Derived.Test.YtoklaajiajilhaaDoorUSma
import Derived.Deep.CutBlock
import Derived.Deep.CutRange
import Derived.Deep.RegionHeld3
namespace Go.Proofs.YtoklaajiajilhaaDoor
open Go.RowKit

theorem tmod_in (o : Int) : -100000 ≤ Int.tmod o 100000 ∧ Int.tmod o 100000 ≤ 100000 := by
  have h1 := Int.tmod_lt_of_pos o (show (0 : Int) < 100000 by omega)
  have h2 := Int.lt_tmod_of_pos o (show (0 : Int) < 100000 by omega)
  omega
set_option maxRecDepth 100000 in
set_option maxHeartbeats 4000000 in
theorem usteady_of {dig : Int → List UInt8} {L : World → Prop} (hU : UC dig L) (h12 : dig 12 = [49, 50]) (h13 : dig 13 = [49, 51]) (xs : List Nd) (A : Option Addr) (c : Nat) (a0 o0 a1 o1 : Int) (w : World) (hL : L w) (hX : TblC w (.slice A xs.length c) xs)
    (b0 : -9223372036854775808 ≤ a0 ∧ a0 ≤ 9223372036854775807) (b1 : -9223372036854775808 ≤ a1 ∧ a1 ≤ 9223372036854775807) :
    Calls Tryd.prog 5 #[.slice A xs.length c, .agg #[.int .i64 a0, .int .i64 o0, .int .i64 a1, .int .i64 o1]] w fun e w' => e = .returned (.bool true) ∧ w.grownBy w' none := by
  have HU := Lib.hid hU
  have HD : Hid (dig 12 = [49, 50] ∧ dig 13 = [49, 51]) := Lib.hid ⟨h12, h13⟩
  have HL := Lib.hid hL
  have HT := Lib.hid hX
  have HB : Hid ((-9223372036854775808 ≤ a0 ∧ a0 ≤ 9223372036854775807) ∧ -9223372036854775808 ≤ a1 ∧ a1 ≤ 9223372036854775807) := Lib.hid ⟨b0, b1⟩
  obtain ⟨zs, hzs⟩ : ∃ zs, smallL xs 7 = zs := ⟨_, rfl⟩
  have hzl : zs.length ≤ 7 := by rw [← hzs]; exact small_len xs 7
  have hzn : largeB zs = false := by rw [← hzs]; exact small_not (by decide)
  have HZS := Lib.hid hzs
  have HZL := Lib.hid hzl
  have HZN := Lib.hid hzn
  obtain ⟨p0, hp0⟩ : ∃ p, Int.tmod o0 100000 = p := ⟨_, rfl⟩
  obtain ⟨p1, hp1⟩ : ∃ p, Int.tmod o1 100000 = p := ⟨_, rfl⟩
  have q0 : -100000 ≤ p0 ∧ p0 ≤ 100000 := by rw [← hp0]; exact tmod_in o0
  have q1 : -100000 ≤ p1 ∧ p1 ≤ 100000 := by rw [← hp1]; exact tmod_in o1
  have HQ : Hid ((-100000 ≤ p0 ∧ p0 ≤ 100000) ∧ -100000 ≤ p1 ∧ p1 ≤ 100000) := Lib.hid ⟨q0, q1⟩
  clear hU h12 h13 hL hX b0 b1 hzs hzl hzn q0 q1
  go_enter Tryd.func5, Tryd.ntmps5
  go_upto_region 1 with fail
  generalize hWa : World.alloc w _ = Wa
  have HBX : Hid (Blk Wa w.heap.size 25 #[.int .i64 a0, .int .i64 o0, .int .i64 a1, .int .i64 o1]) := Lib.hid (by rw [← hWa]; exact Blk.new _ _ _)
  have HGa : Hid (w.grownBy Wa none) := Lib.hid (by rw [← hWa]; exact only_alloc (only_refl _ _) _)
  revert HBX
  generalize w.heap.size = Bx
  intro HBX
  clear hWa
  go_upto_region 5 with (first
    | (go_at_call 10; go_must (refine (uworks_of HU.out HD.out.1 HD.out.2 _ (HU.out.keep _ _ HL.out HGa.out)).mono ?_; rintro en W0 ⟨rfl, hg0⟩; have HG0 := Lib.hid (only_trans HGa.out hg0); have HBX0 := Lib.hid (HBX.out.kept hg0); clear hg0))
    | (go_at_call 7; go_must (refine (small_any xs A c 7 (by decide) _ (HT.out.keep (.grown HG0.out))).mono ?_; rintro en W1 ⟨⟨v, ns, rfl, hot, hns⟩, hg1⟩; have htb := hot.tbl; rw [hns, HZS.out] at htb; have HT1 := Lib.hid htb; have HG1 := Lib.hid (only_trans HG0.out hg1); have HBX1 := Lib.hid (HBX0.out.kept hg1); obtain ⟨A1, c1, rfl, _⟩ := htb; clear hot hns hg1))
    | fail)
  have x0 := HBX1.out.cell 0
  have x1 := HBX1.out.cell 1
  have x2 := HBX1.out.cell 2
  have x3 := HBX1.out.cell 3
  have hbx := HBX1.out.lt
  go_upto_region 7 with fail
  generalize hW2 : World.alloc (World.alloc W1 _) _ = W2
  have HG2 : Hid (w.grownBy W2 none) := Lib.hid (by rw [← hW2]; exact only_alloc (only_alloc HG1.out _) _)
  have HT2 : Hid (Tbl W2 (.slice A1 zs.length c1) zs) := Lib.hid (by rw [← hW2]; exact HT1.out.keep (.grown (only_alloc (only_alloc (only_refl _ _) _) _)))
  have HA : Hid (Blk W2 W1.heap.size 24 #[.int .i64 a0, .int .i64 p0]) := Lib.hid (by rw [← hW2]; exact (Blk.new _ _ _).alloc _)
  have HB2 : Hid (Blk W2 (W1.heap.size + 1) 24 #[.int .i64 a1, .int .i64 p1]) := Lib.hid (by rw [← hW2]; exact blk_at (by simp) _ _)
  revert HA HB2
  generalize W1.heap.size + 1 = B1
  generalize W1.heap.size = B0
  intro HA HB2
  clear hW2 x0 x1 x2 x3 hbx HBX1 HBX0 HBX HG1 HG0 HGa HT1 hp0 hp1
  obtain ⟨n, hn⟩ : ∃ n, zs.length = n := ⟨_, rfl⟩
  have hn7 : n ≤ 7 := by rw [← hn]; exact HZL.out
  have HN := Lib.hid hn
  rw [hn]
  obtain ⟨m, hm⟩ : ∃ m, n * n = m := ⟨_, rfl⟩
  have hm49 : m ≤ 49 := by rw [← hm]; exact Nat.mul_le_mul hn7 hn7
  obtain ⟨r, hr⟩ : ∃ r, equalA zs (a0, p0) (a1, p1) 256 = r := ⟨_, rfl⟩
  have hr2 : equalA zs (a0, p0) (a1, p1) ((m : Int) + 1) = r := by
    have h := steadyA HZN.out HZL.out (a0, p0) (a1, p1)
    rw [HN.out, hm] at h
    rw [← hr, ← h]; rfl
  have hmi : (n : Int) * (n : Int) = (m : Int) := by rw [← hm]; push_cast; rfl
  have H1 : Hid (∀ W, W2.grownBy W none → Calls Tryd.prog 8 #[.slice A1 n c1, .agg #[.int .i64 a0, .int .i64 p0], .agg #[.int .i64 a1, .int .i64 p1], .int .i64 ((m : Int) + 1)] W fun en w' => en = .returned (.bool r) ∧ W.grownBy w' none) := Lib.hid fun W hg => by
    have h := HU.out.equal zs (.slice A1 n c1) (a0, p0) (a1, p1) ((m : Int) + 1) W (HU.out.keep _ _ HL.out (only_trans HG2.out hg)) (by rw [← HN.out]; exact HT2.out.keep (.grown hg)) (by have := HZL.out; omega) (inT_of HB.out.1.1 HB.out.1.2 (by have := HQ.out.1; omega) (by have := HQ.out.1; omega)) (inT_of HB.out.2.1 HB.out.2.2 (by have := HQ.out.2; omega) (by have := HQ.out.2; omega))
    rw [hr2] at h
    exact h
  have H2 : Hid (∀ W, W2.grownBy W none → Calls Tryd.prog 8 #[.slice A1 n c1, .agg #[.int .i64 a0, .int .i64 p0], .agg #[.int .i64 a1, .int .i64 p1], .int .i64 256] W fun en w' => en = .returned (.bool r) ∧ W.grownBy w' none) := Lib.hid fun W hg => by
    have h := HU.out.equal zs (.slice A1 n c1) (a0, p0) (a1, p1) 256 W (HU.out.keep _ _ HL.out (only_trans HG2.out hg)) (by rw [← HN.out]; exact HT2.out.keep (.grown hg)) (by have := HZL.out; omega) (inT_of HB.out.1.1 HB.out.1.2 (by have := HQ.out.1; omega) (by have := HQ.out.1; omega)) (inT_of HB.out.2.1 HB.out.2.2 (by have := HQ.out.2; omega) (by have := HQ.out.2; omega))
    rw [hr] at h
    exact h
  have y0 := HA.out.cell 0
  have y1 := HA.out.cell 1
  have y2 := HB2.out.cell 0
  have y3 := HB2.out.cell 1
  have hw1 : IntKind.i64.wrap ((n : Int) * (n : Int)) = (m : Int) := by rw [hmi]; exact IntWalk.i64_in _ (by omega)
  have hw2 : IntKind.i64.wrap ((m : Int) + 1) = (m : Int) + 1 := IntWalk.i64_in _ (by omega)
  have s : W2.grownBy W2.drew none := only_drew (only_refl _ _)
  clear hn hm hr hr2 hmi hm49 hn7
  go_region_held3 (fun w' => w'.cell? ⟨B0, 0, none⟩ = some (.int .i64 a0) ∧ w'.cell? ⟨B0, 1, none⟩ = some (.int .i64 p0) ∧ w'.cell? ⟨B1, 0, none⟩ = some (.int .i64 a1) ∧ w'.cell? ⟨B1, 1, none⟩ = some (.int .i64 p1)) (exact ⟨Keeps.grown s _ _ y0, Keeps.grown s _ _ y1, Keeps.grown s _ _ y2, Keeps.grown s _ _ y3⟩) (first
    | (go_at_call 8; ((with_reducible refine Calls.mono (H1.out _ s) ?_); rintro e W8 ⟨rfl, hs⟩); replace s := only_trans s hs; clear hs)
    | (go_at_call 8; ((with_reducible refine Calls.mono (H2.out _ s) ?_); rintro e W8 ⟨rfl, hs⟩); replace s := only_trans s hs; clear hs)
    | fail)
  all_goals go_wp2_with fail
  all_goals go_ret
  all_goals exact ⟨by simp, only_trans HG2.out s⟩
end Go.Proofs.YtoklaajiajilhaaDoor

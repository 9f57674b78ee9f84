/- ClassTables: the walk, from the contracts. -/
import Derived.Test.YtepjkoegbehojaaZCWorks
import Derived.Test.YtepjkoegbehojaaZCOf
import Derived.Test.YtepjkoegbehojaaZMgAT
namespace Go.Proofs.Ytepjkoegbehojaa
open Go.RowKit Go.Shelf

theorem fewC_len (xs : List Nd) : (fewL xs).length ≤ 10 := by unfold fewL; rw [List.length_map, List.length_take]; omega
/-- A value that reads as a table of classes, its slices written out. -/
theorem tab_shape {W : World} {v : Value} {T : ClsT} (h : TabV W v T) : ∃ A1 c1 A2 c2 A3 c3, v = .agg #[.slice A1 T.cls.length c1, .slice A2 T.of_.length c2, .slice A3 T.prio.length c3] := tab_open h rfl rfl rfl

set_option maxRecDepth 100000 in
set_option maxHeartbeats 4000000 in
theorem ctables_of (hC : OfC) (xs : List Nd) (A : Option Addr) (c : Nat) (w : World) (hT : TblC w (.slice A xs.length c) xs) :
    Calls Try.prog 3 #[.slice A xs.length c] w fun e w' => e = .returned (.bool true) ∧ w.grownBy w' none := by
  have HC := Lib.hid hC
  have HT := Lib.hid hT
  obtain ⟨zs, hzs⟩ : ∃ zs, fewL xs = zs := ⟨_, rfl⟩
  have hzl : zs.length ≤ 1000 := by rw [← hzs]; exact Nat.le_trans (fewC_len xs) (by decide)
  have HZS := Lib.hid hzs
  have HZL := Lib.hid hzl
  obtain ⟨oe, hoe⟩ : ∃ oe, (orderL zs).2 = oe := ⟨_, rfl⟩
  have HOE := Lib.hid hoe
  have HWF := Lib.hid (wf_clsT zs)
  clear hC hT hzs hzl hoe
  go_enter Try.func3, Try.ntmps3
  go_upto_region 4 with (first
    | (go_at_call 8; go_must (refine (few_any xs A c _ HT.out).mono ?_; rintro en W1 ⟨⟨v, ns, rfl, hot, hns⟩, hg1⟩; have htb := hot.tbl; rw [hns, HZS.out] at htb; have HT1 := Lib.hid htb; have HG1 := Lib.hid hg1; clear hot hns hg1 htb))
    | (go_at_call 9; go_must (refine (HC.out zs v _ HT1.out HZL.out).mono ?_; rw [HOE.out]; rintro en W2 ⟨⟨tv, rfl, ht⟩, hg2⟩; have HTV := Lib.hid ht; have HG2 := Lib.hid (only_trans HG1.out hg2); have HT2 := Lib.hid (HT1.out.keep (.grown hg2)); obtain ⟨A1, c1, A2, c2, A3, c3, rfl⟩ := tab_shape ht; clear ht hg2))
    | (go_at_call 10; go_must (refine (rOf_any zs v _ (HT2.out.keep (.grown (only_alloc (only_refl _ _) _))) HZL.out).mono ?_; rw [HOE.out]; rintro en W3 ⟨⟨tu, rfl, hu⟩, hg3⟩; have HTU := Lib.hid hu; have HG3 := Lib.hid hg3; obtain ⟨B1, d1, B2, d2, B3, d3, rfl⟩ := tab_shape hu; clear hu hg3))
    | fail)
  generalize hW4 : World.alloc _ _ = W4
  have hg34 : W3.grownBy W4 none := by rw [← hW4]; exact only_alloc (only_refl _ _) _
  have ba : Blk W4 W2.heap.size 27 #[.slice A1 (clsT zs).cls.length c1, .slice A2 (clsT zs).of_.length c2, .slice A3 (clsT zs).prio.length c3] := ((Blk.new W2 _ _).kept HG3.out).kept hg34
  have bb : Blk W4 W3.heap.size 27 #[.slice B1 (clsT zs).cls.length d1, .slice B2 (clsT zs).of_.length d2, .slice B3 (clsT zs).prio.length d3] := by rw [← hW4]; exact Blk.new W3 _ _
  have a0 := ba.cell 0
  have a1 := ba.cell 1
  have a2 := ba.cell 2
  have b0 := bb.cell 0
  have b1 := bb.cell 1
  have b2 := bb.cell 2
  have HSM := Lib.hid (rtsame_any (clsT zs) _ _ W4 (HTV.out.keep (.grown (only_trans (only_trans (only_alloc (only_refl _ _) _) HG3.out) hg34))) (HTU.out.keep (.grown hg34)) HWF.out.small.1)
  have HGZ := Lib.hid (only_trans (only_trans (only_alloc HG2.out _) HG3.out) hg34)
  clear hW4 hg34 ba bb
  go_wp2_with (first | (go_at_call 11; go_must (refine HSM.out.mono ?_; rintro en W5 ⟨rfl, hg5⟩; have HG5 := Lib.hid (only_trans HGZ.out hg5); clear hg5)) | (go_at_call 12; go_must (refine (cworks_of HC.out _).mono ?_; rintro en W6 ⟨rfl, hg6⟩; have HG6 := Lib.hid (only_trans HG5.out hg6); clear hg6)) | fail)
  go_ret
  exact ⟨rfl, HG6.out⟩
end Go.Proofs.Ytepjkoegbehojaa

/- order: Back: what it answers of any table and number. -/
import Derived.Test.YtablbgfleopbfaaOLst
import Derived.Test.YtablbgfleopbfaaOBf
namespace Go.Proofs.Ytablbgfleopbfaa
open Go.RowKit Go.Shelf

set_option maxRecDepth 100000 in
set_option maxHeartbeats 2000000 in
theorem oback_any (xs : List Nd) (v : Value) (i : Int) (w : World) (hT : Tbl w v xs) (hxs : xs.length ≤ 1000) :
    Calls Try.prog 14 #[v, .int .i64 i] w fun e w' => e = .returned (pairB (backL xs i)) ∧ w.grownBy w' none := by
  have HT := Lib.hid hT
  have HL := Lib.hid hxs
  obtain ⟨A, cap, rfl, hcl⟩ := hT
  have HCL := Lib.hid hcl
  clear hcl hxs
  by_cases hc : (orderL xs).2 = 0
  · have HO := Lib.hid (ord_of hc)
    have HC := Lib.hid (ord_of hc).order
    clear hc
    cases hf : nodeB xs.length i
    · have HR : Hid (backL xs i = (0, false)) := back_2 hf
      have HF := Lib.hid hf
      clear hf
      go_enter Try.func14, Try.ntmps14
      go_wp2_with (first | (go_at_call 9; go_must (refine (ocheck_any xs _ _ HT.out HL.out).mono ?_; rw [HC.out]; rintro e w1 ⟨rfl, hg1⟩; have HG1 := Lib.hid hg1; clear hg1)) | (go_at_call 24; go_must (refine (oisNode_any _ _ _ _ _).mono ?_; rw [HF.out]; rintro e w2 ⟨rfl, rfl⟩)))
      go_ret2
      exact ⟨by rw [HR.out]; rfl, HG1.out⟩
    · obtain ⟨x, hx, hx2⟩ := nodeAt_of hf
      obtain ⟨h0, h1⟩ := nodeB_true.1 hf
      obtain ⟨u, rfl⟩ : ∃ u : Nat, i = u := ⟨i.toNat, by omega⟩
      simp only [Int.toNat_natCast] at hx2
      have hul : u < xs.length := by omega
      obtain ⟨bb, off, rfl, hcl2⟩ := HCL.out (by intro e0; rw [e0] at hul; simp at hul)
      obtain ⟨v', _, n0, n1, n2, n3, n4, n5⟩ := hcl2 u x hx2
      have HF := Lib.hid hf
      have HX := Lib.hid hx2
      have hxs' : (xs.length : Int) ≤ 1000 := by have := HL.out; omega
      cases ha : actB x.kind
      · have HR : Hid (backL xs (u : Int) = (0, false)) := back_3 hx ha
        have HA := Lib.hid ha
        clear hf hx hx2 ha hcl2
        go_enter Try.func14, Try.ntmps14
        go_wp2_with (first | (go_at_call 9; go_must (refine (ocheck_any xs _ _ HT.out HL.out).mono ?_; rw [HC.out]; rintro e w1 ⟨rfl, hg1⟩; have HG1 := Lib.hid hg1; have a0 := Keeps.grown hg1 _ _ n0; have a1 := Keeps.grown hg1 _ _ n1; have a2 := Keeps.grown hg1 _ _ n2; have a3 := Keeps.grown hg1 _ _ n3; have a4 := Keeps.grown hg1 _ _ n4; have a5 := Keeps.grown hg1 _ _ n5; clear hg1)) | (go_at_call 24; go_must (refine (oisNode_any _ _ _ _ _).mono ?_; rw [HF.out]; rintro e w2 ⟨rfl, rfl⟩)) | (go_at_call 19; go_must (refine (oacts_any x v' _).mono ?_; rw [HA.out]; rintro e w3 ⟨rfl, hg3⟩; have HG3 := Lib.hid hg3; clear hg3)))
        go_ret2
        exact ⟨by rw [HR.out]; rfl, only_trans HG1.out HG3.out⟩
      · have HA := Lib.hid ha
        clear hf hx hx2 ha hcl2
        go_enter Try.func14, Try.ntmps14
        go_wp2_with (first | (go_at_call 9; go_must (refine (ocheck_any xs _ _ HT.out HL.out).mono ?_; rw [HC.out]; rintro e w1 ⟨rfl, hg1⟩; have HG1 := Lib.hid hg1; have a0 := Keeps.grown hg1 _ _ n0; have a1 := Keeps.grown hg1 _ _ n1; have a2 := Keeps.grown hg1 _ _ n2; have a3 := Keeps.grown hg1 _ _ n3; have a4 := Keeps.grown hg1 _ _ n4; have a5 := Keeps.grown hg1 _ _ n5; clear hg1)) | (go_at_call 24; go_must (refine (oisNode_any _ _ _ _ _).mono ?_; rw [HF.out]; rintro e w2 ⟨rfl, rfl⟩)) | (go_at_call 19; go_must (refine (oacts_any x v' _).mono ?_; rw [HA.out]; rintro e w3 ⟨rfl, hg3⟩; have HG3 := Lib.hid (only_trans HG1.out hg3); clear hg3)) | (go_at_call 27; go_must (refine (oleast_any xs _ u x _ (HT.out.keep (.grown HG3.out)) HO.out HX.out HA.out).mono ?_; rintro e w4 ⟨⟨p, rfl, hp⟩, hg4⟩; have HP := Lib.hid (back_eq HO.out HX.out HA.out hp); have HG4 := Lib.hid (only_trans HG3.out hg4); clear hp hg4)))
        go_ret2
        exact ⟨by rw [← HP.out]; rfl, HG4.out⟩
  · have HR : Hid (backL xs i = (0, false)) := back_1 hc
    have hc' : ((orderL xs).2 == 0) = false := beq_eq_false_iff_ne.2 hc
    go_enter Try.func14, Try.ntmps14
    go_wp2_with (go_at_call 9; go_must (refine (ocheck_any xs _ _ HT.out HL.out).mono ?_; rintro e w1 ⟨rfl, hg1⟩; have HG1 := Lib.hid hg1; clear hg1))
    go_ret2
    exact ⟨by rw [HR.out]; rfl, HG1.out⟩
end Go.Proofs.Ytablbgfleopbfaa

/- GraphShapes: the walk. -/
import Derived.Test.YthjkgjkiikomdaaGRefD
import Derived.Test.YthjkgjkiikomdaaGWrk
namespace Go.Proofs.Ythjkgjkiikomdaa
open Go.RowKit Go.Shelf

theorem Tbl.take {w : World} {A : Option Addr} {c m : Nat} {xs : List Nd} (h : Tbl w (.slice A xs.length c) xs) (hm : m ≤ xs.length) : Tbl w (.slice A m c) (xs.take m) := by
  obtain ⟨A', c', hA, h2⟩ := h
  obtain ⟨rfl, rfl⟩ : A = A' ∧ c = c' := by simpa using hA
  refine ⟨A, c, by rw [List.length_take, Nat.min_eq_left hm], fun hn => ?_⟩
  obtain ⟨b, off, h3, h4⟩ := h2 (by intro e; rw [e] at hn; simp at hn)
  refine ⟨b, off, h3, fun i x hx => h4 i x ?_⟩
  rw [List.getElem?_take] at hx
  split at hx
  · exact hx
  · cases hx

set_option maxRecDepth 100000 in
set_option maxHeartbeats 2000000 in
theorem gshapes_any (xs : List Nd) (A : Option Addr) (c : Nat) (w : World) (hT : Tbl w (.slice A xs.length c) xs) (hc : xs.length ≤ c) :
    Calls Try.prog 3 #[.slice A xs.length c] w fun e w' => e = .returned (.bool true) ∧ w.grownBy w' none := by
  have HT := Lib.hid hT
  clear hT
  by_cases h70 : xs.length ≤ 70
  · have HT' := HT
    have h70' : (xs.length : Int) ≤ 70 := by omega
    have HL : Hid (xs.length ≤ 140737488351232 ∧ xs.length ≤ 1000000) := ⟨by omega, by omega⟩
    go_enter Try.func3, Try.ntmps3
    go_wp2_with (first | (go_at_call 8; go_must (refine (check_any xs _ _ HT'.out HL.out.1).mono ?_; rintro e w1 ⟨rfl, hg1⟩; have HG1 := Lib.hid hg1; clear hg1)) | (go_at_call 9; go_must (refine (refCheck_any xs _ _ (HT'.out.keep (.grown HG1.out)) HL.out.2).mono ?_; rintro e w2 ⟨rfl, hg2⟩; have HG2 := Lib.hid hg2; clear hg2)) | (go_at_call 10; go_must (refine (works_any _).mono ?_; rintro e w3 ⟨rfl, hg3⟩; have HG3 := Lib.hid hg3; clear hg3)))
    go_ret
    exact ⟨rfl, only_trans (only_trans HG1.out HG2.out) HG3.out⟩
  · have HT' := Lib.hid (HT.out.take (m := 70) (by omega))
    have h70' : (70 : Int) < (xs.length : Int) := by omega
    have hc7 : (70 : Int) ≤ (c : Int) := by omega
    have HL : Hid ((xs.take 70).length ≤ 140737488351232 ∧ (xs.take 70).length ≤ 1000000) := by
      have h : (xs.take 70).length ≤ 70 := List.length_take_le _ _
      exact ⟨by omega, by omega⟩
    go_enter Try.func3, Try.ntmps3
    go_wp2_with (first | (go_at_call 8; go_must (refine (check_any (xs.take 70) _ _ HT'.out HL.out.1).mono ?_; rintro e w1 ⟨rfl, hg1⟩; have HG1 := Lib.hid hg1; clear hg1)) | (go_at_call 9; go_must (refine (refCheck_any (xs.take 70) _ _ (HT'.out.keep (.grown HG1.out)) HL.out.2).mono ?_; rintro e w2 ⟨rfl, hg2⟩; have HG2 := Lib.hid hg2; clear hg2)) | (go_at_call 10; go_must (refine (works_any _).mono ?_; rintro e w3 ⟨rfl, hg3⟩; have HG3 := Lib.hid hg3; clear hg3)))
    go_ret
    exact ⟨rfl, only_trans (only_trans HG1.out HG2.out) HG3.out⟩
end Go.Proofs.Ythjkgjkiikomdaa

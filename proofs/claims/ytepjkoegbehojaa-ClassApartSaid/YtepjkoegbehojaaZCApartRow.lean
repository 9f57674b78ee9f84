/- ClassApart' row: at whatever list of nodes and two bytes, in whatever memory, the call returns true, and everything that was there is as it was. -/
import Derived.Test.YtepjkoegbehojaaRows
import Derived.Test.YtepjkoegbehojaaZMgAA
import Derived.Test.YtepjkoegbehojaaZCApart
import Derived.ProofKit
import Derived.Test.YtepjkoegbehojaaZCOB
import Derived.Test.YtepjkoegbehojaaZMgAT
namespace Go.Proofs.Ytepjkoegbehojaa
open Go.ChangeShapes Go.WideShapes Go.ChangeAt Go.RowKit

set_option maxRecDepth 100000 in
theorem capart_lifted (os : Os) (started : os.Started) (H : Type) (enc : TypeId × Value → H) :
    ReturnsInHanded {} Try.checked os 5 .any (Rows.classApartSpec.pre6 enc Try.prog Try.f5 [] false) (Rows.classApartSpec.post enc Try.prog Try.f5 false true false false) := by
  refine returnsInHanded_of_change (C := Try.checked) prog_own started (by kernel_rfl) Try.func5
    (ChangeSpec.witness6 (enc := enc) (C := Try.checked) false ⟨#[], #[.slice none 0 0, .int .u8 0, .int .u8 0], []⟩ 8 (by kernel_rfl) (by kernel_rfl) (by kernel_rfl) (by kernel_rfl)) ?_
  intro W base args ds gs before hval0 hW _ _
  have hval : ∀ (j : Nat) t v, Try.f5.params[j]? = some t → args[j]? = some v → Value.okWide Try.prog W .any base t v := hval0
  have hW' := hW
  obtain ⟨p, q, hA0, hV, rfl, hfz, hnd⟩ := hW
  have hA : DataW.TrodAll enc Try.prog W 0 (fun _ => true) true Try.f5.params.toList args.toList ds p := hA0
  rw [Try.params5] at hA hval
  obtain ⟨v0, v1, v2, d0, d1, d2, p0, p1, p2, rfl, rfl, rfl, h0, h1, h2⟩ := trodAll_three hA
  obtain ⟨rfl, rfl⟩ := trodVars_none hV
  obtain ⟨A, n, c, rfl⟩ := okWide_slice Try.underlying22 (hval 0 22 v0 rfl rfl)
  obtain ⟨xs, rfl, hT, hc, _⟩ : ∃ xs : List Nd, n = xs.length ∧ TblC W (.slice A n c) xs ∧ n ≤ c ∧ c ≤ 9223372036854775807 := by
    obtain ⟨fuel, hf⟩ := h0
    exact tableC_of hf
  obtain ⟨na, rfl, _, _, hnaw⟩ := open_int Try.underlying5 (hval 1 5 v1 rfl rfl) h1
  obtain ⟨nb, rfl, _, _, hnbw⟩ := open_int Try.underlying5 (hval 2 5 v2 rfl rfl) h2
  have hab := bounds_u8 hnaw
  have hbb := bounds_u8 hnbw
  have hlt := hW'.lt
  refine (capart_of cof_con xs A c na nb hab.1 hab.2 hbb.1 hbb.2 W hT).mono fun e W' ⟨he, hw⟩ => ?_
  subst he
  have hb := below_of_only hw
  refine ⟨_, rfl, _, _, _, [], p0 ++ (p1 ++ p2), [], hW', ?_, ?_, ?_, hb.frame _, fun h => by cases h⟩
  · exact trodAll_mk1 (shut_bool Try.underlying4 true)
  · exact trodAll_mk3 (Below.trod (t := 22) prog_laidOut (by kernel_rfl) (by rw [prog_size]; decide) h0 hb (fun x hx => hlt x (by simp [hx]))) (Below.trod (t := 5) prog_laidOut (by kernel_rfl) (by rw [prog_size]; decide) h1 hb (fun x hx => hlt x (by simp [hx]))) (Below.trod (t := 5) prog_laidOut (by kernel_rfl) (by rw [prog_size]; decide) h2 hb (fun x hx => hlt x (by simp [hx])))
  · rfl

theorem capart_holds : Rows.ClassApartSaid :=
  OpenClaim.holds_of_wide 5 Try.f5 rfl rfl rfl rfl rfl rfl rfl ⟨rfl, rfl, rfl, rfl, rfl⟩ rfl rfl rfl rfl rfl (by kernel_rfl) Try.func5 (by kernel_rfl)
    (of_decide_eq_true (by kernel_rfl)) (by unfold Func.isWrapper; rw [if_neg (of_decide_eq_false (by kernel_rfl))]; exact ⟨rfl, rfl⟩)
    (fun os started H enc _ => capart_lifted os started H enc)
end Go.Proofs.Ytepjkoegbehojaa

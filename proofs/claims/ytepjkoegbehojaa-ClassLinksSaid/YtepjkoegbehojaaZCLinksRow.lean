/- ClassLinks' row: at whatever list of nodes and offset, in whatever memory, the call returns true, and everything that was there is as it was. -/
import Derived.Test.YtepjkoegbehojaaRows
import Derived.Test.YtepjkoegbehojaaZMgAA
import Derived.Test.YtepjkoegbehojaaZCLinks
import Derived.ProofKit
import Derived.Test.YtepjkoegbehojaaZCOB
import Derived.Test.YtepjkoegbehojaaZMgAT
import Derived.Test.YtepjkoegbehojaaZCTyp
import Derived.Test.YtepjkoegbehojaaZCNxt
namespace Go.Proofs.Ytepjkoegbehojaa
open Go.ChangeShapes Go.WideShapes Go.ChangeAt Go.RowKit

set_option maxRecDepth 100000 in
theorem clinks_lifted (os : Os) (started : os.Started) (H : Type) (enc : TypeId × Value → H) :
    ReturnsInHanded {} Try.checked os 6 .any (Rows.classLinksSpec.pre6 enc Try.prog Try.f6 [] false) (Rows.classLinksSpec.post enc Try.prog Try.f6 false true false false) := by
  refine returnsInHanded_of_change (C := Try.checked) prog_own started (by kernel_rfl) Try.func6
    (ChangeSpec.witness6 (enc := enc) (C := Try.checked) false ⟨#[], #[.slice none 0 0, .int .u16 0], []⟩ 8 (by kernel_rfl) (by kernel_rfl) (by kernel_rfl) (by kernel_rfl)) ?_
  intro W base args ds gs before hval0 hW _ _
  have hval : ∀ (j : Nat) t v, Try.f6.params[j]? = some t → args[j]? = some v → Value.okWide Try.prog W .any base t v := hval0
  have hW' := hW
  obtain ⟨p, q, hA0, hV, rfl, hfz, hnd⟩ := hW
  have hA : DataW.TrodAll enc Try.prog W 0 (fun _ => true) true Try.f6.params.toList args.toList ds p := hA0
  rw [Try.params6] at hA hval
  obtain ⟨v0, v1, d0, d1, p0, p1, rfl, rfl, rfl, h0, h1⟩ := trodAll_two hA
  obtain ⟨rfl, rfl⟩ := trodVars_none hV
  obtain ⟨A, n, c, rfl⟩ := okWide_slice Try.underlying22 (hval 0 22 v0 rfl rfl)
  obtain ⟨xs, rfl, hT, hc, _⟩ : ∃ xs : List Nd, n = xs.length ∧ TblC W (.slice A n c) xs ∧ n ≤ c ∧ c ≤ 9223372036854775807 := by
    obtain ⟨fuel, hf⟩ := h0
    exact tableC_of hf
  obtain ⟨off, rfl, _, _, hoffw⟩ := open_int Try.underlying49 (hval 1 49 v1 rfl rfl) h1
  have hob := bounds_u16 hoffw
  have hlt := hW'.lt
  refine (clinks_of cof_con ctype_con cnext_con cpay_con xs A c off hob.1 hob.2 W hT).mono fun e W' ⟨he, hw⟩ => ?_
  subst he
  have hb := below_of_only hw
  refine ⟨_, rfl, _, _, _, [], p0 ++ p1, [], hW', ?_, ?_, ?_, hb.frame _, fun h => by cases h⟩
  · exact trodAll_mk1 (shut_bool Try.underlying4 true)
  · exact trodAll_mk2 (Below.trod (t := 22) prog_laidOut (by kernel_rfl) (by rw [prog_size]; decide) h0 hb (fun x hx => hlt x (by simp [hx]))) (Below.trod (t := 49) prog_laidOut (by kernel_rfl) (by rw [prog_size]; decide) h1 hb (fun x hx => hlt x (by simp [hx])))
  · rfl

theorem clinks_holds : Rows.ClassLinksSaid :=
  OpenClaim.holds_of_wide 6 Try.f6 rfl rfl rfl rfl rfl rfl rfl ⟨rfl, rfl, rfl, rfl, rfl⟩ rfl rfl rfl rfl rfl (by kernel_rfl) Try.func6 (by kernel_rfl)
    (of_decide_eq_true (by kernel_rfl)) (by unfold Func.isWrapper; rw [if_neg (of_decide_eq_false (by kernel_rfl))]; exact ⟨rfl, rfl⟩)
    (fun os started H enc _ => clinks_lifted os started H enc)
end Go.Proofs.Ytepjkoegbehojaa

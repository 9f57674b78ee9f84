/- BlocksWhole' row: at whatever rows and byte, in whatever memory, the call returns true, and everything that was there is as it was. -/
import Derived.Test.YtnejikkibneegaaRows
import Derived.Test.YtnejikkibneegaaBOpn
import Derived.Test.YtnejikkibneegaaBWhl
import Derived.ProofKit
namespace Go.Proofs.Ytnejikkibneegaa
open Go.ChangeShapes Go.WideShapes Go.ChangeAt Go.RowKit

set_option maxRecDepth 100000 in
theorem bwhl_lifted (os : Os) (started : os.Started) (H : Type) (enc : TypeId × Value → H) :
    ReturnsInHanded {} Try.checked os 5 .any (Rows.blocksWholeSpec.pre6 enc Try.prog Try.f5 [] false) (Rows.blocksWholeSpec.post enc Try.prog Try.f5 false true false false) := by
  refine returnsInHanded_of_change (C := Try.checked) prog_own started (by kernel_rfl) Try.func5
    (ChangeSpec.witness6 (enc := enc) (C := Try.checked) false ⟨#[], #[.slice none 0 0, .int .u8 0], []⟩ 8 (by kernel_rfl) (by kernel_rfl) (by kernel_rfl) (by kernel_rfl)) ?_
  intro W base args ds gs before hval0 hW _ _
  have hval : ∀ (j : Nat) t v, Try.f5.params[j]? = some t → args[j]? = some v → Value.okWide Try.prog W .any base t v := hval0
  have hW' := hW
  obtain ⟨p, q, hA0, hV, rfl, hfz, hnd⟩ := hW
  have hA : DataW.TrodAll enc Try.prog W 0 (fun _ => true) true Try.f5.params.toList args.toList ds p := hA0
  rw [Try.params5] at hA hval
  obtain ⟨v0, v1, d0, d1, p0, p1, rfl, rfl, rfl, h0, h1⟩ := trodAll_two hA
  obtain ⟨rfl, rfl⟩ := trodVars_none hV
  obtain ⟨Ar, nr, cr, rfl⟩ := okWide_slice Try.underlying23 (hval 0 23 v0 rfl rfl)
  obtain ⟨rs, rfl, hR⟩ : ∃ rs : List Rw, nr = rs.length ∧ RowsA W (.slice Ar nr cr) rs := by
    obtain ⟨fuel, hf⟩ := h0
    exact rows_of hf
  obtain ⟨odd0, rfl, _, _, hoddw⟩ := open_int Try.underlying5 (hval 1 5 v1 rfl rfl) h1
  have hoddb := bounds_u8 hoddw
  obtain ⟨odd, rfl⟩ : ∃ n : Nat, odd0 = (n : Int) := ⟨odd0.toNat, by omega⟩
  have hlt := hW'.lt
  refine (bwhole_any rs odd _ W hR (by omega)).mono fun e W' ⟨he, hw⟩ => ?_
  subst he
  have hb := below_of_only hw
  refine ⟨_, rfl, _, _, _, [], p0 ++ p1, [], hW', ?_, ?_, ?_, hb.frame _, fun h => by cases h⟩
  · exact trodAll_mk1 (shut_bool Try.underlying4 true)
  · exact trodAll_mk2 (Below.trod (t := 23) prog_laidOut (by kernel_rfl) (by rw [prog_size]; decide) h0 hb (fun x hx => hlt x (by simp [hx]))) (Below.trod (t := 5) prog_laidOut (by kernel_rfl) (by rw [prog_size]; decide) h1 hb (fun x hx => hlt x (by simp [hx])))
  · rfl

theorem bwhl_holds : Rows.BlocksWholeSaid :=
  OpenClaim.holds_of_wide 5 Try.f5 rfl rfl rfl rfl rfl rfl rfl ⟨rfl, rfl, rfl, rfl, rfl⟩ rfl rfl rfl rfl rfl (by kernel_rfl) Try.func5 (by kernel_rfl)
    (of_decide_eq_true (by kernel_rfl)) (by unfold Func.isWrapper; rw [if_neg (of_decide_eq_false (by kernel_rfl))]; exact ⟨rfl, rfl⟩)
    (fun os started H enc _ => bwhl_lifted os started H enc)
end Go.Proofs.Ytnejikkibneegaa

/- StateAdds' row: of whatever module, state and pair, in whatever memory, the call returns true, and everything that was there is as it was. -/
import Derived.Test.YtmhbmeckdbdhpaaRows
import Derived.Test.YtmhbmeckdbdhpaaZSAddRow1
import Derived.Test.YtmhbmeckdbdhpaaZSAddRow52
import Derived.ProofKit
import Derived.Test.YtmhbmeckdbdhpaaZSAddRow48
namespace Go.Proofs.Ytmhbmeckdbdhpaa
open Go.ChangeShapes Go.WideShapes Go.ChangeAt Go.RowKit

set_option maxRecDepth 100000 in
theorem sadd_lifted (os : Os) (started : os.Started) (H : Type) (enc : TypeId × Value → H) :
    ReturnsInHanded {} Try.checked os 4 .any (Rows.stateAddsSpec.pre6 enc Try.prog Try.f4 [] false) (Rows.stateAddsSpec.post enc Try.prog Try.f4 false true false false) := by
  refine returnsInHanded_of_change (C := Try.checked) prog_own started (by kernel_rfl) Try.func4
    (ChangeSpec.witness6 (enc := enc) (C := Try.checked) false ⟨#[], #[.agg #[.slice none 0 0, .slice none 0 0, .slice none 0 0, .slice none 0 0, .slice none 0 0, .slice none 0 0, .slice none 0 0, .slice none 0 0], .agg #[.int .i64 0, .int .i64 0, .int .i64 0, .int .i64 0, .int .i64 0, .int .i64 0, .int .i64 0, .int .i64 0, .int .i64 0, .int .i64 0, .int .i64 0, .int .i64 0, .int .i64 0, .int .i64 0, .int .i64 0, .int .i64 0, .int .i64 0, .int .i64 0, .int .i64 0, .int .i64 0, .int .i64 0, .int .i64 0, .int .i64 0, .int .i64 0, .int .i64 0, .int .i64 0, .int .i64 0, .int .i64 0, .int .i64 0, .int .i64 0, .int .i64 0, .int .i64 0, .int .i64 0, .int .i64 0, .int .i64 0, .int .i64 0, .int .i64 0, .int .i64 0, .int .i64 0, .int .i64 0, .int .i64 0, .int .i64 0, .int .i64 0, .int .i64 0, .int .i64 0, .int .i64 0, .int .i64 0, .int .i64 0, .int .i64 0, .int .i64 0], .agg #[.int .i64 0, .int .i64 0]], []⟩ 8 (by kernel_rfl) (by kernel_rfl) (by kernel_rfl) (by kernel_rfl)) ?_
  intro W base args ds gs before hval0 hW _ _
  have hval : ∀ (j : Nat) t v, Try.f4.params[j]? = some t → args[j]? = some v → Value.okWide Try.prog W .any base t v := hval0
  have hW' := hW
  obtain ⟨p, q, hA0, hV, rfl, hfz, hnd⟩ := hW
  have hA : DataW.TrodAll enc Try.prog W 0 (fun _ => true) true Try.f4.params.toList args.toList ds p := hA0
  rw [Try.params4] at hA hval
  obtain ⟨v0, v1, v2, d0, d1, d2, p0, p1, p2, rfl, rfl, rfl, h0, h1, h2⟩ := trodAll_three hA
  obtain ⟨rfl, rfl⟩ := trodVars_none hV
  obtain ⟨u0, u1, u2, u3, u4, u5, u6, u7, xs, ts, rfl, hT, hP⟩ := open_modS (hval 0 28 v0 rfl rfl) h0
  obtain ⟨s, rfl, hs⟩ := open_st (hval 1 45 v1 rfl rfl) h1
  obtain ⟨l0, l1, rfl⟩ := open_two (hval 2 49 v2 rfl rfl) h2
  have hlt := hW'.lt
  refine (sadds_any xs ts u0 u1 u2 u3 u4 u5 u6 u7 s l0 l1 W hT hP hs).mono fun e W' ⟨he, hw⟩ => ?_
  subst he
  have hb := below_of_only hw
  refine ⟨_, rfl, _, _, _, [], p0 ++ (p1 ++ p2), [], hW', ?_, ?_, ?_, hb.frame _, fun h => by cases h⟩
  · exact trodAll_mk1 (shut_bool Try.underlying4 true)
  · exact trodAll_mk3 (Below.trod (t := 28) prog_laidOut (by kernel_rfl) (by rw [prog_size]; decide) h0 hb (fun x hx => hlt x (by simp [hx]))) (Below.trod (t := 45) prog_laidOut (by kernel_rfl) (by rw [prog_size]; decide) h1 hb (fun x hx => hlt x (by simp [hx]))) (Below.trod (t := 49) prog_laidOut (by kernel_rfl) (by rw [prog_size]; decide) h2 hb (fun x hx => hlt x (by simp [hx])))
  · rfl

theorem sadd_holds : Rows.StateAddsSaid :=
  OpenClaim.holds_of_wide 4 Try.f4 rfl rfl rfl rfl rfl rfl rfl ⟨rfl, rfl, rfl, rfl, rfl⟩ rfl rfl rfl rfl rfl (by kernel_rfl) Try.func4 (by kernel_rfl)
    (of_decide_eq_true (by kernel_rfl)) (by unfold Func.isWrapper; rw [if_neg (of_decide_eq_false (by kernel_rfl))]; exact ⟨rfl, rfl⟩)
    (fun os started H enc _ => sadd_lifted os started H enc)
end Go.Proofs.Ytmhbmeckdbdhpaa

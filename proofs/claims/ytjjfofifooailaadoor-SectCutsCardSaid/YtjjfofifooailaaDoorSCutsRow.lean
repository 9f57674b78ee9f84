/- SectCuts' row: at whatever three texts, place and bytes, in whatever memory, the call returns true, and everything that was there is as it was; and its card. -/
import Derived.Test.YtjjfofifooailaaDoorRows
import Derived.Test.YtjjfofifooailaaDoorCards
import Derived.Test.YtjjfofifooailaaDoorTie
import Derived.Test.YtjjfofifooailaaDoorRowKit
import Derived.Test.YtjjfofifooailaaDoorSCuts
import Derived.OpenShut
import Derived.Test.YtjjfofifooailaaDoorArr
namespace Go.Proofs.YtjjfofifooailaaDoor
open Go.ChangeShapes Go.WideShapes Go.RowKit

set_option maxRecDepth 100000 in
theorem scuts_lifted (os : Os) (started : os.Started) (H : Type) (enc : TypeId × Value → H) :
    ReturnsInHanded {} Tryd.checked os 6 .any (fun w args => (Rows.sectCutsSpec.pre enc Tryd.prog Tryd.f6 [] false w args ∧ laidMetH Tryd.prog [("errors.errorType", Rows.laid_errors_errorType)] w) ∧ sizedMet enc Tryd.prog Tryd.f6 (OpenSpec.ofChange Rows.sectCutsSpec) false w args)
      (Rows.sectCutsSpec.post enc Tryd.prog Tryd.f6 false true false false) := by
  refine returnsInHanded_of_change_and (C := Tryd.checked) (X := fun w _ => laidMetH Tryd.prog [("errors.errorType", Rows.laid_errors_errorType)] w) (fun _ _ _ hh h => h.of_heap hh) prog_own started (by kernel_rfl) Tryd.func6
    (ChangeSpec.witness_at (enc := enc) (C := Tryd.checked) (os := os) (X := fun w _ => laidMetH Tryd.prog [("errors.errorType", Rows.laid_errors_errorType)] w) false (laidWorld os) #[.agg #[.string ⟨#[]⟩, .string ⟨#[]⟩, .string ⟨#[]⟩], .int .u16 0, .string ⟨#[]⟩] 8 rfl (by kernel_rfl) (by kernel_rfl) (by kernel_rfl) (by kernel_rfl) (by kernel_rfl) (laidWorld_met os _)) ?_
  intro W base args ds gs before hval0 hW _ _ hL _
  have hval : ∀ (j : Nat) t v, Tryd.f6.params[j]? = some t → args[j]? = some v → Value.okWide Tryd.prog W .any base t v := hval0
  have hW' := hW
  obtain ⟨p, q, hA0, hV, rfl, hfz, hnd⟩ := hW
  have hA : DataW.TrodAll enc Tryd.prog W 0 (fun _ => true) true Tryd.f6.params.toList args.toList ds p := hA0
  rw [Tryd.params6] at hA hval
  obtain ⟨v0, v1, v2, d0, d1, d2, p0, p1, p2, rfl, rfl, rfl, h0, h1, h2⟩ := trodAll_three hA
  obtain ⟨rfl, rfl⟩ := trodVars_none hV
  obtain ⟨s1, s2, s3, rfl⟩ := open_str3 (hval 0 22 v0 rfl rfl) h0
  obtain ⟨a, rfl, _, _, haw⟩ := open_int Tryd.underlying23 (hval 1 23 v1 rfl rfl) h1
  obtain ⟨s, rfl, _, _, _⟩ := Go.ChangeMaps.open_string Tryd.underlying9 (hval 2 9 v2 rfl rfl) h2
  have hab := bounds_u16 haw
  have hE := errType_of_laid hL
  have hlt := hW'.lt
  refine (scuts_any s1 s2 s3 a hab.1 (by have := hab.2; omega) s W hE).mono fun e W' ⟨he, hw⟩ => ?_
  subst he
  have hb := below_of_only hw
  refine ⟨_, rfl, _, _, _, [], p0 ++ (p1 ++ p2), [], hW', ?_, ?_, ?_, hb.frame _, fun h => by cases h⟩
  · exact trodAll_mk1 (shut_bool Tryd.underlying4 true)
  · exact trodAll_mk3 (Below.trod (t := 22) prog_laidOut (by kernel_rfl) (by rw [prog_size]; decide) h0 hb (fun x hx => hlt x (by simp [hx]))) (Below.trod (t := 23) prog_laidOut (by kernel_rfl) (by rw [prog_size]; decide) h1 hb (fun x hx => hlt x (by simp [hx]))) (Below.trod (t := 9) prog_laidOut (by kernel_rfl) (by rw [prog_size]; decide) h2 hb (fun x hx => hlt x (by simp [hx])))
  · rfl

theorem scuts_row : Rows.SectCutsSaid :=
  OpenClaim.holds_of_wide 6 Tryd.f6 rfl rfl rfl rfl rfl rfl rfl ⟨rfl, rfl, rfl, rfl, rfl⟩ rfl rfl rfl rfl rfl (by kernel_rfl) Tryd.func6 (by kernel_rfl)
    (of_decide_eq_true (by kernel_rfl)) (by unfold Func.isWrapper; rw [if_neg (of_decide_eq_false (by kernel_rfl))]; exact ⟨rfl, rfl⟩)
    (fun os started H enc _ => scuts_lifted os started H enc)

theorem scuts_holds : Rows.SectCutsCardSaid :=
  Claim7.holds_tied_plain_at .later [] [.handle] true (true, "bd720e42a12e4e79981035c35d597a6d8ec32d66676813cb2d9fb4c1fe3a021e") true
    scuts_row (fun _ h => by cases h) (by kernel_rfl) (fun _ h => by cases h) sectCuts_row_tie rfl ⟨rfl, rfl⟩ (by kernel_rfl) rfl
    (fun f fn hf hfn => by
      obtain rfl : f = 6 := Option.some.inj ((show Tryd.prog.funcNamed "colloquy/colloquylaw03.SectCuts" = some 6 by kernel_rfl).symm.trans hf) |>.symm
      obtain rfl : fn = Tryd.f6 := (Option.some.inj (Tryd.func6.symm.trans hfn)).symm
      exact ⟨by kernel_rfl, fun j t ht => by
        rw [Tryd.params6] at ht
        have hm : t ∈ [22, 23, 9] := by simpa using Array.mem_of_getElem? ht
        have hall : ([22, 23, 9].all fun u => !Tryd.prog.wantsStandIn u) = true := by kernel_rfl
        exact (show Tryd.prog.wantsStandIn t = false by simpa using List.all_eq_true.1 hall t hm)⟩)
    (by kernel_rfl)
end Go.Proofs.YtjjfofifooailaaDoor

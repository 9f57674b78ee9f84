/- UnfoldEquals' row: at whatever list of nodes, two types and depth, in whatever memory, the call returns true, and everything that was there is as it was; and its card. -/
import Derived.Test.YtoklaajiajilhaaDoorRows
import Derived.Test.YtoklaajiajilhaaDoorCards
import Derived.Test.YtoklaajiajilhaaDoorTie
import Derived.Test.YtoklaajiajilhaaDoorRkU
import Derived.Test.YtoklaajiajilhaaDoorZEqB
import Derived.OpenShut
import Derived.Test.YtoklaajiajilhaaDoorVCon
import Derived.Test.YtoklaajiajilhaaDoorOOpc
namespace Go.Proofs.YtoklaajiajilhaaDoor
open Go.ChangeShapes Go.WideShapes Go.RowKit

theorem cells_type : Tryd.prog.cellsOf 24 = 2 := by kernel_rfl
theorem cells_types : Tryd.prog.cellsOf 25 = 4 := by kernel_rfl
theorem cells_i1 : Tryd.prog.cellsOf 3 = 1 := by kernel_rfl
theorem array_four {cs : Array Value} (h : cs.size = 4) : ∃ c0 c1 c2 c3, cs = #[c0, c1, c2, c3] := by
  obtain ⟨l⟩ := cs
  match l, h with
  | [c0, c1, c2, c3], _ => exact ⟨c0, c1, c2, c3, rfl⟩
section
variable {H : Type} {enc : TypeId × Value → H} {W : World} {r : Reach} {b0 base : Nat} {sp : Nat → Bool} {held : Bool} {v : Value} {d : DataW H} {p : List MemPlace}
theorem int_at {m : Nat} {c : Value} {y : DataW H × List MemPlace} (h : DataW.trod enc Tryd.prog W base sp held m 3 [c] = some y) : ∃ a : Int, c = .int .i64 a ∧ -9223372036854775808 ≤ a ∧ a ≤ 9223372036854775807 := by
  obtain ⟨a, e0, hw, hw2⟩ := DataW.trod_int Tryd.underlying3 h
  simp only [List.cons.injEq, and_true] at e0
  have hb := bounds_i64 (by first | exact hw | exact hw2)
  exact ⟨a, e0, hb.1, hb.2⟩
theorem type_at {m : Nat} {c c1 : Value} {y : DataW H × List MemPlace} (h : DataW.trod enc Tryd.prog W base sp held m 24 [c, c1] = some y) : ∃ a o : Int, c = .int .i64 a ∧ c1 = .int .i64 o ∧ -9223372036854775808 ≤ a ∧ a ≤ 9223372036854775807 := by
  obtain ⟨y0, y1, n, _, _, h0, h1⟩ := trod_struct2 Tryd.underlying24 h
  obtain ⟨a, rfl, ha⟩ := int_at (by simpa [cells_i1] using h0)
  obtain ⟨o, rfl, _⟩ := int_at (by simpa [cells_i1] using h1)
  exact ⟨a, o, rfl, rfl, ha⟩
set_option maxRecDepth 100000 in
theorem open_types (hv : Value.okWide Tryd.prog W r b0 25 v) (h : DataW.Trod enc Tryd.prog W base sp held 25 v d p) : ∃ a o b q : Int, v = .agg #[.int .i64 a, .int .i64 o, .int .i64 b, .int .i64 q] ∧ (-9223372036854775808 ≤ a ∧ a ≤ 9223372036854775807) ∧ -9223372036854775808 ≤ b ∧ b ≤ 9223372036854775807 := by
  simp only [Value.okWide, Tryd.underlying25] at hv
  obtain ⟨cs, rfl, hs, _⟩ := hv
  obtain ⟨c0, c1, c2, c3, rfl⟩ := array_four (hs.trans cells_types)
  obtain ⟨fuel, hf⟩ := h
  obtain ⟨xs, m, _, _, _, hxl, hall⟩ := DataW.trod_array Tryd.underlying25 (by simpa [Value.cells] using hf)
  match xs, hxl with
  | [y0, y1], _ =>
    have h0 : DataW.trod enc Tryd.prog W base sp held m 24 [c0, c1] = some y0 := by simpa [cells_type] using hall 0 (by decide)
    have h1 : DataW.trod enc Tryd.prog W base sp held m 24 [c2, c3] = some y1 := by simpa [cells_type] using hall 1 (by decide)
    obtain ⟨a, o, rfl, rfl, ha⟩ := type_at h0
    obtain ⟨b, q, rfl, rfl, hb⟩ := type_at h1
    exact ⟨a, o, b, q, rfl, ha, hb⟩
end

set_option maxRecDepth 100000 in
theorem ueqs_lifted (os : Os) (started : os.Started) (H : Type) (enc : TypeId × Value → H) :
    ReturnsInHanded {} Tryd.checked os 3 .any (fun w args => (Rows.unfoldEqualsSpec.pre enc Tryd.prog Tryd.f3 [] false w args ∧ laidMetH Tryd.prog laidU w) ∧ sizedMet enc Tryd.prog Tryd.f3 (OpenSpec.ofChange Rows.unfoldEqualsSpec) false w args)
      (Rows.unfoldEqualsSpec.post enc Tryd.prog Tryd.f3 false true false false) := by
  refine returnsInHanded_of_change_and (C := Tryd.checked) (X := fun w _ => laidMetH Tryd.prog laidU w) (fun _ _ _ hh h => h.of_heap hh) prog_own started (by kernel_rfl) Tryd.func3
    (ChangeSpec.witness_at (enc := enc) (C := Tryd.checked) (os := os) (X := fun w _ => laidMetH Tryd.prog laidU w) false (laidWorldU os) #[.slice none 0 0, .agg #[.int .i64 0, .int .i64 0, .int .i64 0, .int .i64 0], .int .i64 0] 8 rfl (by kernel_rfl) (by kernel_rfl) (by kernel_rfl) (by kernel_rfl) (by kernel_rfl) (laidWorldU_met os _)) ?_
  intro W base args ds gs before hval0 hW _ _ hL _
  have hval : ∀ (j : Nat) t v, Tryd.f3.params[j]? = some t → args[j]? = some v → Value.okWide Tryd.prog W .any base t v := hval0
  have hW' := hW
  obtain ⟨p, q, hA0, hV, rfl, hfz, hnd⟩ := hW
  have hA : DataW.TrodAll enc Tryd.prog W 0 (fun _ => true) true Tryd.f3.params.toList args.toList ds p := hA0
  rw [Tryd.params3] at hA hval
  obtain ⟨v0, v1, v2, d0, d1, d2, p0, p1, p2, rfl, rfl, rfl, h0, h1, h2⟩ := trodAll_three hA
  obtain ⟨rfl, rfl⟩ := trodVars_none hV
  obtain ⟨A, n, c, rfl⟩ := okWide_slice Tryd.underlying22 (hval 0 22 v0 rfl rfl)
  obtain ⟨xs, rfl, hT, hc, _⟩ : ∃ xs : List Nd, n = xs.length ∧ TblC W (.slice A n c) xs ∧ n ≤ c ∧ c ≤ 9223372036854775807 := by
    obtain ⟨fuel, hf⟩ := h0
    exact tableC_of hf
  obtain ⟨a0, o0, a1, o1, rfl, _, _⟩ := open_types (hval 1 25 v1 rfl rfl) h1
  obtain ⟨d, rfl, _, _, _⟩ := open_int Tryd.underlying3 (hval 2 3 v2 rfl rfl) h2
  have hE := tabL_of_laid hL
  have hlt := hW'.lt
  refine (uequals_any xs A c a0 o0 a1 o1 d W hE hT).mono fun e W' ⟨he, hw⟩ => ?_
  subst he
  have hb := below_of_only hw
  refine ⟨_, rfl, _, _, _, [], p0 ++ (p1 ++ p2), [], hW', ?_, ?_, ?_, hb.frame _, fun h => by cases h⟩
  · exact trodAll_mk1 (shut_bool Tryd.underlying4 true)
  · exact trodAll_mk3 (Below.trod (t := 22) prog_laidOut (by kernel_rfl) (by rw [prog_size]; decide) h0 hb (fun x hx => hlt x (by simp [hx]))) (Below.trod (t := 25) prog_laidOut (by kernel_rfl) (by rw [prog_size]; decide) h1 hb (fun x hx => hlt x (by simp [hx]))) (Below.trod (t := 3) prog_laidOut (by kernel_rfl) (by rw [prog_size]; decide) h2 hb (fun x hx => hlt x (by simp [hx])))
  · rfl

theorem ueqs_row : Rows.UnfoldEqualsSaid :=
  OpenClaim.holds_of_wide 3 Tryd.f3 rfl rfl rfl rfl rfl rfl rfl ⟨rfl, rfl, rfl, rfl, rfl⟩ rfl rfl rfl rfl rfl (by kernel_rfl) Tryd.func3 (by kernel_rfl)
    (of_decide_eq_true (by kernel_rfl)) (by unfold Func.isWrapper; rw [if_neg (of_decide_eq_false (by kernel_rfl))]; exact ⟨rfl, rfl⟩)
    (fun os started H enc _ => ueqs_lifted os started H enc)

theorem ueqs_holds : Rows.UnfoldEqualsCardSaid :=
  Claim7.holds_tied_plain_at .later [] [.data, .data, .data] true (true, "42991c2688804f56f91b3cc5b5d421a6f6c4987ccb1c16f7c4c66582d307cd5d") false
    ueqs_row (fun _ h => by cases h) (by kernel_rfl) (fun _ h => by cases h) unfoldEquals_row_tie rfl ⟨rfl, rfl⟩ (by kernel_rfl) rfl
    (fun f fn hf hfn => by
      obtain rfl : f = 3 := Option.some.inj ((show Tryd.prog.funcNamed "colloquy/colloquylaw08.UnfoldEquals" = some 3 by kernel_rfl).symm.trans hf) |>.symm
      obtain rfl : fn = Tryd.f3 := (Option.some.inj (Tryd.func3.symm.trans hfn)).symm
      exact ⟨by kernel_rfl, fun j t ht => by
        rw [Tryd.params3] at ht
        have hm : t ∈ [22, 25, 3] := by simpa using Array.mem_of_getElem? ht
        have hall : ([22, 25, 3].all fun u => !Tryd.prog.wantsStandIn u) = true := by kernel_rfl
        exact (show Tryd.prog.wantsStandIn t = false by simpa using List.all_eq_true.1 hall t hm)⟩)
    (by kernel_rfl)
end Go.Proofs.YtoklaajiajilhaaDoor

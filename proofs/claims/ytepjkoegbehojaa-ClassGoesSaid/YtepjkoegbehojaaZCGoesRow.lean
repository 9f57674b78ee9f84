/- ClassGoes' row: at whatever list of nodes, type and three numbers, in whatever memory, the call returns true, and everything that was there is as it was. -/
import Derived.Test.YtepjkoegbehojaaRows
import Derived.Test.YtepjkoegbehojaaZMgAA
import Derived.Test.YtepjkoegbehojaaZCGoes
import Derived.ProofKit
import Derived.Test.YtepjkoegbehojaaZCOB
import Derived.Test.YtepjkoegbehojaaZMgAT
import Derived.Test.YtepjkoegbehojaaZCTyp
import Derived.Test.YtepjkoegbehojaaZCNxt
namespace Go.Proofs.Ytepjkoegbehojaa
open Go.ChangeShapes Go.WideShapes Go.ChangeAt Go.RowKit

theorem cells_type : Try.prog.cellsOf 35 = 2 := by kernel_rfl
theorem cells_tri : Try.prog.cellsOf 36 = 3 := by kernel_rfl
theorem cells_i1 : Try.prog.cellsOf 3 = 1 := by kernel_rfl
theorem array_three {cs : Array Value} (h : cs.size = 3) : ∃ c0 c1 c2, cs = #[c0, c1, c2] := by
  obtain ⟨l⟩ := cs
  match l, h with
  | [c0, c1, c2], _ => exact ⟨c0, c1, c2, rfl⟩
section
variable {H : Type} {enc : TypeId × Value → H} {W : World} {r : Reach} {b0 base : Nat} {sp : Nat → Bool} {held : Bool} {v : Value} {d : DataW H} {p : List MemPlace}
set_option maxRecDepth 100000 in
theorem open_type (hv : Value.okWide Try.prog W r b0 35 v) (h : DataW.Trod enc Try.prog W base sp held 35 v d p) : ∃ e : Ed, v = edV e ∧ -9223372036854775808 ≤ e.1 ∧ e.1 ≤ 9223372036854775807 := by
  obtain ⟨v0, v1, y0, y1, n, rfl, _, _, h0, h1⟩ := Go.Joins.open_agg2 Try.underlying35 (by kernel_rfl) cells_type hv h
  obtain ⟨a, e0, hw, hw2⟩ := DataW.trod_int Try.underlying3 h0
  obtain ⟨b, e1, _, _⟩ := DataW.trod_int Try.underlying3 h1
  simp only [List.cons.injEq, and_true] at e0 e1
  have hb := bounds_i64 (by first | exact hw | exact hw2)
  exact ⟨(a, b), by rw [e0, e1], hb.1, hb.2⟩
theorem int_at {m : Nat} {c : Value} {y : DataW H × List MemPlace} (h : DataW.trod enc Try.prog W base sp held m 3 [c] = some y) : ∃ a : Int, c = .int .i64 a ∧ -9223372036854775808 ≤ a ∧ a ≤ 9223372036854775807 := by
  obtain ⟨a, e0, hw, hw2⟩ := DataW.trod_int Try.underlying3 h
  simp only [List.cons.injEq, and_true] at e0
  have hb := bounds_i64 (by first | exact hw | exact hw2)
  exact ⟨a, e0, hb.1, hb.2⟩
set_option maxRecDepth 100000 in
theorem open_tri (hv : Value.okWide Try.prog W r b0 36 v) (h : DataW.Trod enc Try.prog W base sp held 36 v d p) : ∃ a b c : Int, v = .agg #[.int .i64 a, .int .i64 b, .int .i64 c] ∧ (-9223372036854775808 ≤ a ∧ a ≤ 9223372036854775807) ∧ -9223372036854775808 ≤ c ∧ c ≤ 9223372036854775807 := by
  simp only [Value.okWide, Try.underlying36] at hv
  obtain ⟨cs, rfl, hs, _⟩ := hv
  obtain ⟨c0, c1, c2, rfl⟩ := array_three (hs.trans cells_tri)
  obtain ⟨fuel, hf⟩ := h
  obtain ⟨xs, m, _, _, _, hxl, hall⟩ := DataW.trod_array Try.underlying36 (by simpa [Value.cells] using hf)
  match xs, hxl with
  | [y0, y1, y2], _ =>
    have h0 : DataW.trod enc Try.prog W base sp held m 3 [c0] = some y0 := by simpa [cells_i1] using hall 0 (by decide)
    have h1 : DataW.trod enc Try.prog W base sp held m 3 [c1] = some y1 := by simpa [cells_i1] using hall 1 (by decide)
    have h2 : DataW.trod enc Try.prog W base sp held m 3 [c2] = some y2 := by simpa [cells_i1] using hall 2 (by decide)
    obtain ⟨a, rfl, ha⟩ := int_at h0
    obtain ⟨b, rfl, _⟩ := int_at h1
    obtain ⟨c, rfl, hc⟩ := int_at h2
    exact ⟨a, b, c, rfl, ha, hc⟩
end

set_option maxRecDepth 100000 in
theorem cgoes_lifted (os : Os) (started : os.Started) (H : Type) (enc : TypeId × Value → H) :
    ReturnsInHanded {} Try.checked os 4 .any (Rows.classGoesSpec.pre6 enc Try.prog Try.f4 [] false) (Rows.classGoesSpec.post enc Try.prog Try.f4 false true false false) := by
  refine returnsInHanded_of_change (C := Try.checked) prog_own started (by kernel_rfl) Try.func4
    (ChangeSpec.witness6 (enc := enc) (C := Try.checked) false ⟨#[], #[.slice none 0 0, .agg #[.int .i64 0, .int .i64 0], .agg #[.int .i64 0, .int .i64 0, .int .i64 0]], []⟩ 8 (by kernel_rfl) (by kernel_rfl) (by kernel_rfl) (by kernel_rfl)) ?_
  intro W base args ds gs before hval0 hW _ _
  have hval : ∀ (j : Nat) t v, Try.f4.params[j]? = some t → args[j]? = some v → Value.okWide Try.prog W .any base t v := hval0
  have hW' := hW
  obtain ⟨p, q, hA0, hV, rfl, hfz, hnd⟩ := hW
  have hA : DataW.TrodAll enc Try.prog W 0 (fun _ => true) true Try.f4.params.toList args.toList ds p := hA0
  rw [Try.params4] at hA hval
  obtain ⟨v0, v1, v2, d0, d1, d2, p0, p1, p2, rfl, rfl, rfl, h0, h1, h2⟩ := trodAll_three hA
  obtain ⟨rfl, rfl⟩ := trodVars_none hV
  obtain ⟨A, n, c, rfl⟩ := okWide_slice Try.underlying22 (hval 0 22 v0 rfl rfl)
  obtain ⟨xs, rfl, hT, hc, _⟩ : ∃ xs : List Nd, n = xs.length ∧ TblC W (.slice A n c) xs ∧ n ≤ c ∧ c ≤ 9223372036854775807 := by
    obtain ⟨fuel, hf⟩ := h0
    exact tableC_of hf
  obtain ⟨ty, rfl, hy0, hy1⟩ := open_type (hval 1 35 v1 rfl rfl) h1
  obtain ⟨z0, z1, z2, rfl, hz0, hz2⟩ := open_tri (hval 2 36 v2 rfl rfl) h2
  have hlt := hW'.lt
  refine (cgoes_of cof_con ctype_con cnext_con cpay_con xs A c ty z0 z1 z2 W hT hy0 hy1 hz0 hz2).mono fun e W' ⟨he, hw⟩ => ?_
  subst he
  have hb := below_of_only hw
  refine ⟨_, rfl, _, _, _, [], p0 ++ (p1 ++ p2), [], hW', ?_, ?_, ?_, hb.frame _, fun h => by cases h⟩
  · exact trodAll_mk1 (shut_bool Try.underlying4 true)
  · exact trodAll_mk3 (Below.trod (t := 22) prog_laidOut (by kernel_rfl) (by rw [prog_size]; decide) h0 hb (fun x hx => hlt x (by simp [hx]))) (Below.trod (t := 35) prog_laidOut (by kernel_rfl) (by rw [prog_size]; decide) h1 hb (fun x hx => hlt x (by simp [hx]))) (Below.trod (t := 36) prog_laidOut (by kernel_rfl) (by rw [prog_size]; decide) h2 hb (fun x hx => hlt x (by simp [hx])))
  · rfl

theorem cgoes_holds : Rows.ClassGoesSaid :=
  OpenClaim.holds_of_wide 4 Try.f4 rfl rfl rfl rfl rfl rfl rfl ⟨rfl, rfl, rfl, rfl, rfl⟩ rfl rfl rfl rfl rfl (by kernel_rfl) Try.func4 (by kernel_rfl)
    (of_decide_eq_true (by kernel_rfl)) (by unfold Func.isWrapper; rw [if_neg (of_decide_eq_false (by kernel_rfl))]; exact ⟨rfl, rfl⟩)
    (fun os started H enc _ => cgoes_lifted os started H enc)
end Go.Proofs.Ytepjkoegbehojaa

/- BlocksCuts' row, its second form: at whatever code, rows and byte, of bulk at most the bound, in whatever memory, the call returns true, and everything that was there is as it was. -/
import Derived.Test.YtgdoklbcmgkllaaRows
import Derived.Test.YtgdoklbcmgkllaaBOpn
import Derived.Test.YtgdoklbcmgkllaaBBlk
import Derived.Test.YtgdoklbcmgkllaaBCts
import Derived.ProofKit
import Derived.OpenShut
import Derived.JoinedCond
namespace Go.Proofs.Ytgdoklbcmgkllaa
open Go.ChangeShapes Go.WideShapes Go.ChangeAt Go.RowKit

set_option maxRecDepth 100000 in
theorem bcts_said (H : Type) (enc : TypeId × Value → H) (W : World) (base : Nat) (args : Array Value) (ds gs : List (DataW H)) (before : List MemPlace) (hk : Rows.uptoSmall H (ds ++ gs) = true)
    (hval : ∀ (j : Nat) t v, Try.f3.params[j]? = some t → args[j]? = some v → Value.okWide Try.prog W .any base t v) (hW : DataW.Whole enc Try.prog Try.f3.params.toList Rows.blocksCutsSpec.vars false W args.toList ds gs before) :
    Calls Try.prog 3 args W fun e W' => ∃ v, e = .returned v ∧ Rows.blocksCutsSpec.post enc Try.prog Try.f3 false true false false W args v W' := by
  have hW' := hW
  obtain ⟨p, q, hA0, hV, rfl, hfz, hnd⟩ := hW
  have hA : DataW.TrodAll enc Try.prog W 0 (fun _ => true) true Try.f3.params.toList args.toList ds p := hA0
  rw [Try.params3] at hA hval
  obtain ⟨v0, v1, v2, d0, d1, d2, p0, p1, p2, rfl, rfl, rfl, h0, h1, h2⟩ := trodAll_three hA
  obtain ⟨rfl, rfl⟩ := trodVars_none hV
  have hbulk := of_decide_eq_true hk
  obtain ⟨A, nx, c, rfl⟩ := okWide_slice Try.underlying22 (hval 0 22 v0 rfl rfl)
  obtain ⟨cs, rfl, hX, hc1, hc2, hbk⟩ : ∃ cs : List Bi, nx = cs.length ∧ CodeA W (.slice A nx c) cs ∧ nx ≤ c ∧ c ≤ 9223372036854775807 ∧ ∀ x ∈ cs, x.2.length ≤ 1048576 := by
    obtain ⟨fuel, hf⟩ := h0
    obtain ⟨xs, e, hX⟩ := insns_of hf
    have h1 := list_bulk Try.underlying22 hf
    have h2 := insns_bulk hf hX
    refine ⟨biL xs, by simpa [biL] using e, hX.code, h1.2.1, h1.2.2, fun x hx => ?_⟩
    obtain ⟨y, hy, rfl⟩ := List.mem_map.1 hx
    exact Nat.le_trans (h2 y hy) (Nat.le_trans (bulk_in (d := d0) (by simp)) hbulk)
  obtain ⟨Ar, nr, cr, rfl⟩ := okWide_slice Try.underlying23 (hval 1 23 v1 rfl rfl)
  obtain ⟨rs, rfl, hR⟩ : ∃ rs : List Rw, nr = rs.length ∧ RowsA W (.slice Ar nr cr) rs := by
    obtain ⟨fuel, hf⟩ := h1
    exact rows_of hf
  obtain ⟨odd0, rfl, _, _, hoddw⟩ := open_int Try.underlying5 (hval 2 5 v2 rfl rfl) h2
  have hoddb := bounds_u8 hoddw
  obtain ⟨odd, rfl⟩ : ∃ n : Nat, odd0 = (n : Int) := ⟨odd0.toNat, by omega⟩
  have hlt := hW'.lt
  refine (bcuts_any cs A c rs odd _ W hX hc1 hc2 hbk hR (by omega)).mono fun e W' ⟨he, hw⟩ => ?_
  subst he
  have hb := below_of_only hw
  refine ⟨_, rfl, _, _, _, [], p0 ++ (p1 ++ p2), [], hW', ?_, ?_, ?_, hb.frame _, fun h => by cases h⟩
  · exact trodAll_mk1 (shut_bool Try.underlying4 true)
  · exact trodAll_mk3 (Below.trod (t := 22) prog_laidOut (by kernel_rfl) (by rw [prog_size]; decide) h0 hb (fun x hx => hlt x (by simp [hx]))) (Below.trod (t := 23) prog_laidOut (by kernel_rfl) (by rw [prog_size]; decide) h1 hb (fun x hx => hlt x (by simp [hx]))) (Below.trod (t := 5) prog_laidOut (by kernel_rfl) (by rw [prog_size]; decide) h2 hb (fun x hx => hlt x (by simp [hx])))
  · rfl
set_option maxRecDepth 100000 in
theorem bcts_lifted (os : Os) (started : os.Started) (H : Type) (enc : TypeId × Value → H) (F : Stop.Interp) :
    ReturnsInHanded {} Try.checked os 3 .any ((Rows.OpenSpec.upto Rows.blocksCutsSpec).pre6 enc Try.prog Try.f3 Rows.blocksCutsUptoRow.domain false) (((Rows.OpenSpec.upto Rows.blocksCutsSpec).at F).post enc Try.prog Try.f3 false true false false) := by
  refine returnsInHanded_of_cond (C := Try.checked) (s := Rows.OpenSpec.upto Rows.blocksCutsSpec) (k := Rows.uptoSmall) rfl prog_own started (by kernel_rfl) Try.func3
    (OpenSpec.witness (enc := enc) (C := Try.checked) (s := Rows.OpenSpec.upto Rows.blocksCutsSpec) (k := Rows.uptoSmall) rfl false ⟨#[], #[.slice none 0 0, .slice none 0 0, .int .u8 0], []⟩ 8 (by kernel_rfl) (by kernel_rfl) (by kernel_rfl)
      (x := ([.nil, .nil, .lit (.int .u8 0)], [], [])) (by kernel_rfl) rfl (by kernel_rfl)) ?_
  intro W base args ds gs before hval hW _ hk _
  exact bcts_said H enc W base args ds gs before hk hval hW

theorem bcts_holds : Rows.BlocksCutsUptoSaid :=
  OpenClaim.holds_of_cond 3 Try.f3 rfl rfl rfl rfl rfl rfl rfl ⟨rfl, rfl, rfl, rfl, rfl⟩ rfl rfl rfl rfl rfl (by kernel_rfl) Try.func3 (by kernel_rfl)
    (of_decide_eq_true (by kernel_rfl)) (by unfold Func.isWrapper; rw [if_neg (of_decide_eq_false (by kernel_rfl))]; exact ⟨rfl, rfl⟩)
    (fun os started H enc _ F => bcts_lifted os started H enc F)
end Go.Proofs.Ytgdoklbcmgkllaa

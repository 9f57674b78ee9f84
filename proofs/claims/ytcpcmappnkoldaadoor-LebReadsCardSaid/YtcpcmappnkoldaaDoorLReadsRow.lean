/- LebReads' row: at whatever bytes and calls, in whatever memory, the call returns true, and everything that was there is as it was; and its card. -/
import Derived.Test.YtcpcmappnkoldaaDoorRows
import Derived.Test.YtcpcmappnkoldaaDoorCards
import Derived.Test.YtcpcmappnkoldaaDoorTie
import Derived.Test.YtcpcmappnkoldaaDoorRowKit
import Derived.Test.YtcpcmappnkoldaaDoorLReads
import Derived.OpenShut
import Derived.Deep.SlicePairs
namespace Go.Proofs.YtcpcmappnkoldaaDoor
open Go.ChangeShapes Go.WideShapes Go.RowKit

theorem cells_ask : Tryd.prog.cellsOf 29 = 2 := by kernel_rfl
theorem cells_u8r : Tryd.prog.cellsOf 5 = 1 := by kernel_rfl
theorem cells_intr : Tryd.prog.cellsOf 3 = 1 := by kernel_rfl

/-- A slice of calls that was handed in reads as calls. -/
theorem asks_of {H : Type} {enc : TypeId × Value → H} {W : World} {sp : Nat → Bool} {A : Option Addr} {n c fuel : Nat} {x : DataW H × List MemPlace} (hsp : ∀ b, sp b = true)
    (h : DataW.trod enc Tryd.prog W 0 sp true fuel 22 [.slice A n c] = some x) : Asks W A n := by
  rcases Go.Deep.open_slice_pairs Tryd.underlying22 Tryd.underlying29 cells_ask rfl rfl cells_u8r cells_intr h with ⟨hcs, _⟩ | ⟨a, len, cap, m, f, V0, V1, D0, D1, P0, P1, hcs, _, hl, _, hm, _, hall⟩
  · intro k hk
    simp only [List.cons.injEq, and_true, Value.slice.injEq] at hcs
    omega
  · intro k hk
    simp only [List.cons.injEq, and_true, Value.slice.injEq] at hcs
    obtain ⟨rfl, rfl, rfl⟩ := hcs
    rw [hsp, if_pos rfl] at hm
    obtain ⟨b, off, spot⟩ := a
    obtain ⟨hc0, hc1, ht0, ht1⟩ := hall k (by omega)
    obtain ⟨z, hz, _, hzw⟩ := DataW.trod_int Tryd.underlying5 ht0
    obtain ⟨N, hN, _, hNw⟩ := DataW.trod_int Tryd.underlying3 ht1
    simp only [List.cons.injEq, and_true] at hz hN
    have hspot : spot = none := by simpa [Addr.add] using World.cell?_spot (hall 0 (by omega)).1
    subst hspot
    rw [add_plain] at hc0 hc1
    rw [hz] at hc0
    rw [hN] at hc1
    have hr : 0 ≤ z ∧ z ≤ 255 := bounds_u8 hzw
    have hR := bounds_i64 hNw
    have hlt := World.block_lt_of_cell? W _ hc0
    refine ⟨b, off, z.toNat, N, rfl, by omega, hlt, hR.1, hR.2, ?_, hc1⟩
    rw [Int.toNat_of_nonneg hr.1]; exact hc0

set_option maxRecDepth 100000 in
theorem lreads_lifted (os : Os) (started : os.Started) (H : Type) (enc : TypeId × Value → H) :
    ReturnsInHanded {} Tryd.checked os 3 .any (fun w args => (Rows.lebReadsSpec.pre enc Tryd.prog Tryd.f3 [] false w args ∧ laidMetH Tryd.prog [("errors.errorType", Rows.laid_errors_errorType)] w) ∧ sizedMet enc Tryd.prog Tryd.f3 (OpenSpec.ofChange Rows.lebReadsSpec) false w args)
      (Rows.lebReadsSpec.post enc Tryd.prog Tryd.f3 false true false false) := by
  refine returnsInHanded_of_change_and (C := Tryd.checked) (X := fun w _ => laidMetH Tryd.prog [("errors.errorType", Rows.laid_errors_errorType)] w) (fun _ _ _ hh h => h.of_heap hh) prog_own started (by kernel_rfl) Tryd.func3
    (ChangeSpec.witness_at (enc := enc) (C := Tryd.checked) (os := os) (X := fun w _ => laidMetH Tryd.prog [("errors.errorType", Rows.laid_errors_errorType)] w) false (laidWorld os) #[.string ⟨#[]⟩, .slice none 0 0] 8 rfl (by kernel_rfl) (by kernel_rfl) (by kernel_rfl) (by kernel_rfl) (by kernel_rfl) (laidWorld_met os _)) ?_
  intro W base args ds gs before hval0 hW _ _ hL _
  have hval : ∀ (j : Nat) t v, Tryd.f3.params[j]? = some t → args[j]? = some v → Value.okWide Tryd.prog W .any base t v := hval0
  have hW' := hW
  obtain ⟨p, q, hA0, hV, rfl, hfz, hnd⟩ := hW
  have hA : DataW.TrodAll enc Tryd.prog W 0 (fun _ => true) true Tryd.f3.params.toList args.toList ds p := hA0
  rw [Tryd.params3] at hA hval
  obtain ⟨v0, v1, d0, d1, p0, p1, rfl, rfl, rfl, h0, h1⟩ := trodAll_two hA
  obtain ⟨rfl, rfl⟩ := trodVars_none hV
  obtain ⟨s, rfl, _, _, _⟩ := Go.ChangeMaps.open_string Tryd.underlying9 (hval 0 9 v0 rfl rfl) h0
  obtain ⟨A, n, c, rfl⟩ := okWide_slice Tryd.underlying22 (hval 1 22 v1 rfl rfl)
  have hz : Asks W A n := by
    obtain ⟨fuel, hf⟩ := h1
    exact asks_of (fun _ => rfl) hf
  have hE := errType_of_laid hL
  have hlt := hW'.lt
  refine (lreads_any s A n c W hE hz).mono fun e W' ⟨he, hw⟩ => ?_
  subst he
  have hb := below_of_only hw
  refine ⟨_, rfl, _, _, _, [], p0 ++ p1, [], hW', ?_, ?_, ?_, hb.frame _, fun h => by cases h⟩
  · exact trodAll_mk1 (shut_bool Tryd.underlying4 true)
  · exact trodAll_mk2 (Below.trod (t := 9) prog_laidOut (by kernel_rfl) (by rw [prog_size]; decide) h0 hb (fun x hx => hlt x (by simp [hx]))) (Below.trod (t := 22) prog_laidOut (by kernel_rfl) (by rw [prog_size]; decide) h1 hb (fun x hx => hlt x (by simp [hx])))
  · rfl

theorem lreads_row : Rows.LebReadsSaid :=
  OpenClaim.holds_of_wide 3 Tryd.f3 rfl rfl rfl rfl rfl rfl rfl ⟨rfl, rfl, rfl, rfl, rfl⟩ rfl rfl rfl rfl rfl (by kernel_rfl) Tryd.func3 (by kernel_rfl)
    (of_decide_eq_true (by kernel_rfl)) (by unfold Func.isWrapper; rw [if_neg (of_decide_eq_false (by kernel_rfl))]; exact ⟨rfl, rfl⟩)
    (fun os started H enc _ => lreads_lifted os started H enc)

theorem lreads_holds : Rows.LebReadsCardSaid :=
  Claim7.holds_tied_plain_at .later [] [.handle] true (true, "b3a524f51fbbf218825209048a2b99511c48b35c210139ba1459512356cbb8cb") true
    lreads_row (fun _ h => by cases h) (by kernel_rfl) (fun _ h => by cases h) lebReads_row_tie rfl ⟨rfl, rfl⟩ (by kernel_rfl) rfl
    (fun f fn hf hfn => by
      obtain rfl : f = 3 := Option.some.inj ((show Tryd.prog.funcNamed "colloquy/colloquylaw02.LebReads" = some 3 by kernel_rfl).symm.trans hf) |>.symm
      obtain rfl : fn = Tryd.f3 := (Option.some.inj (Tryd.func3.symm.trans hfn)).symm
      exact ⟨by kernel_rfl, fun j t ht => by
        rw [Tryd.params3] at ht
        have hm : t ∈ [9, 22] := by simpa using Array.mem_of_getElem? ht
        have hall : ([9, 22].all fun u => !Tryd.prog.wantsStandIn u) = true := by kernel_rfl
        exact (show Tryd.prog.wantsStandIn t = false by simpa using List.all_eq_true.1 hall t hm)⟩)
    (by kernel_rfl)
end Go.Proofs.YtcpcmappnkoldaaDoor

/- unfold: to which depth what follows two nodes was looked at: a map whose keys are arrays of two numbers. -/
import Derived.Test.YtoklaajiajilhaaDoorVEqA
import Derived.Maps.OwnIn
import Derived.DeepKeys4
namespace Go.Proofs.YtoklaajiajilhaaDoor
open Go.RowKit Go.Maps

theorem arr_wide : (match Tryd.prog.underlying 49 with | some (.array _ _) | some (.struct _) => true | _ => false) = true := by kernel_rfl
theorem arr_laid : laidOutB Tryd.prog = true := by kernel_rfl
set_option maxRecDepth 100000 in
theorem arr_law : Keyed Tryd.prog 49 := Keyed.of_law (deep_law_laid arr_laid (m := 4) (by omega) (of_decide_eq_true (by kernel_rfl)) (by kernel_rfl) arr_wide)
theorem cells_arrU : Tryd.prog.cellsOf 49 = 2 := by kernel_rfl
theorem cells_intU : Tryd.prog.cellsOf 3 = 1 := by kernel_rfl
theorem lits_intU (d : Nat) {a : Int} (h : (Lit.int .i64 a).wf = true) : Tryd.prog.keyLits (d + 1) 3 [.int .i64 a] = some [.int .i64 a] := by
  unfold Program.keyLits
  rw [Tryd.underlying3]
  simp [h]
abbrev arV (k : Int × Int) : Value := .agg #[.int .i64 k.1, .int .i64 k.2]
/-- Both numbers fit. -/
def KW (k : Int × Int) : Prop := (Lit.int .i64 k.1).wf = true ∧ (Lit.int .i64 k.2).wf = true
theorem kw_of {k : Int × Int} (h0 : -1000000000 ≤ k.1 ∧ k.1 ≤ 1000000000) (h1 : -1000000000 ≤ k.2 ∧ k.2 ≤ 1000000000) : KW k := ⟨WalkArith.wf_i64 (by omega), WalkArith.wf_i64 (by omega)⟩
theorem lits_arr (d : Nat) {k : Int × Int} (h : KW k) : ∃ ls, Tryd.prog.keyLits (d + 2) 49 [.int .i64 k.1, .int .i64 k.2] = some ls := by
  unfold Program.keyLits
  rw [Tryd.underlying49]
  have hr : List.range 2 = [0, 1] := by decide
  have h0 := lits_intU d h.1
  have h1 := lits_intU d h.2
  simp [cells_arrU, cells_intU, hr, h0, h1]
theorem size_typesU : ∃ d, Tryd.prog.types.size + 1 = d + 2 := ⟨Tryd.prog.types.size - 1, by have : 1 ≤ Tryd.prog.types.size := of_decide_eq_true (by kernel_rfl); omega⟩
set_option maxRecDepth 100000 in
theorem arr_key {k : Int × Int} (h : KW k) : ∃ l, keyOf Tryd.prog 49 (arV k) = some l := by
  obtain ⟨d, hd⟩ := size_typesU
  obtain ⟨ls, hls⟩ := lits_arr d h
  have hf : (arV k).formed Tryd.prog 49 = true := by
    unfold Value.formed
    rw [Tryd.underlying49, cells_arrU]
    rfl
  have hkt : Tryd.prog.keyType 49 = true := by kernel_rfl
  refine ⟨.string (keyBytes ls), ?_⟩
  unfold keyOf
  rw [Tryd.underlying49, hkt, hf, hd]
  show Option.map _ (Tryd.prog.keyLits (d + 2) 49 [.int .i64 k.1, .int .i64 k.2]) = _
  rw [hls]; rfl
theorem arr_inj {k j : Int × Int} {l : Lit} (h : keyOf Tryd.prog 49 (arV k) = some l) (h' : keyOf Tryd.prog 49 (arV j) = some l) : k = j := by
  have := Value.agg.inj (arr_law.inj h h')
  simp only [Array.mk.injEq, List.cons.injEq, Value.int.injEq, true_and, and_true] at this
  exact Prod.ext this.1 this.2
def numElemU : Value → Option (DataW Unit × List MemPlace)
  | .int .i64 z => some (.lit (.int .i64 z), [])
  | _ => none
theorem numElemU_mk (z : Int) : numElemU (.int .i64 z) = some (.lit (.int .i64 z), []) := rfl
theorem numElemU_inv {v : Value} {z : Int} {ps : List MemPlace} (h : numElemU v = some (.lit (.int .i64 z), ps)) : v = .int .i64 z := by
  unfold numElemU at h
  split at h
  · simp only [Option.some.injEq, Prod.mk.injEq, DataW.lit.injEq, Lit.int.injEq, true_and] at h
    rw [h.1]
  · cases h
theorem num_zeroU (w : World) : (zeroValue 3).run Tryd.prog w = .ok (.int .i64 0) w := by kernel_rfl
/-- Block b is a map, of at most m entries: it tells K. -/
def PMap (W : World) (b m : Nat) (K : Int × Int → Nat) : Prop := ∃ D : DataW Unit, W.ownsMap Tryd.prog 49 numElemU b m D ∧ ∀ k l, KW k → keyOf Tryd.prog 49 (arV k) = some l → D.atKey l (.lit (.int .i64 0)) = .lit (.int .i64 (K k : Int))
theorem PMap.made (W : World) : PMap (W.alloc (.map #[] 0)) W.heap.size 0 (fun _ => 0) := ⟨.map [], World.ownsMap_made _ _ _ _, fun _ _ _ _ => rfl⟩
section
variable {W W' : World} {b m : Nat} {K : Int × Int → Nat}
theorem PMap.lt (h : PMap W b m K) : b < W.heap.size := by obtain ⟨D, h, _⟩ := h; exact h.lt
theorem PMap.kept {row : Option Nat} (h : PMap W b m K) (hg : W.grownBy W' row) (hne : some b ≠ row) : PMap W' b m K := by
  obtain ⟨D, h, h2⟩ := h; exact ⟨D, h.kept hg hne, h2⟩
theorem PMap.ne_blk {g : Nat} {t : TypeId} {cs : Array Value} (h : PMap W b m K) (hb : Blk W g t cs) : g ≠ b := fun e => by
  obtain ⟨D, h, _⟩ := h
  obtain ⟨es, clock, hm, _⟩ := h
  unfold Blk at hb
  rw [e, hm] at hb
  cases hb
theorem PMap.look (h : PMap W b m K) {k : Int × Int} (hk : KW k) : (Instr.lookup 41 (.map (some b)) (arV k) false).run Tryd.prog W = .ok (.int .i64 (K k : Int)) W := by
  obtain ⟨D, h, h2⟩ := h
  obtain ⟨l, hl⟩ := arr_key hk
  obtain ⟨v, ps, hrun, hv⟩ := h.lookup arr_law Tryd.underlying41 (num_zeroU _) (numElemU_mk 0) hl
  rw [h2 k l hk hl] at hv
  rw [numElemU_inv hv] at hrun
  exact hrun
theorem PMap.put (h : PMap W b m K) {k : Int × Int} (hk : KW k) (n : Nat) (hm : m ≤ 1000000) :
    ∃ W', (Instr.mapUpdate 41 (.map (some b)) (arV k) (.int .i64 (n : Int))).run Tryd.prog W = .ok () W' ∧ PMap W' b (m + 1) (setK K k n) ∧ W.mapTurned W' b := by
  obtain ⟨D, h, h2⟩ := h
  obtain ⟨l, hl⟩ := arr_key hk
  obtain ⟨W', hrun, h3, h4⟩ := h.store arr_law Tryd.underlying41 (by unfold maxLen; omega) hl (numElemU_mk (n : Int))
  refine ⟨W', hrun, ⟨_, h3, fun j lj hj hlj => ?_⟩, h4⟩
  have hmp := h.isMap
  have hkl : WideAt.IsKeyLit l := arr_law.key hl
  by_cases e : j = k
  · subst e
    obtain rfl : l = lj := Option.some.inj (hl.symm.trans hlj)
    rw [atKey_put_same hmp hkl]
    unfold setK
    rw [if_pos rfl]
  · have hne : lj ≠ l := fun e' => e (arr_inj hlj (by rw [e']; exact hl))
    rw [atKey_put_other hne, h2 j lj hj hlj]
    unfold setK
    rw [if_neg e]
end
end Go.Proofs.YtoklaajiajilhaaDoor

/- order: the map of ways, as a function of nodes. -/
import Derived.Test.YtablbgfleopbfaaODij
import Derived.Maps.OwnIn
namespace Go.Proofs.Ytablbgfleopbfaa
open Go.RowKit Go.Maps

abbrev wayZ : Value := .agg #[.int .i64 0, .bool false]
abbrev wayV (p : Option (Int × Bool)) : Value := match p with | none => .agg #[.int .i64 0, .bool false] | some (r, l) => .agg #[.int .i64 r, .bool l]
def wayD (p : Option (Int × Bool)) : DataW Unit := match p with | none => .agg [.lit (.int .i64 0), .lit (.bool false)] | some (r, l) => .agg [.lit (.int .i64 r), .lit (.bool l)]
/-- How an element reads. -/
def wayElem : Value → Option (DataW Unit × List MemPlace)
  | .agg ⟨[.int .i64 r, .bool l]⟩ => some (.agg [.lit (.int .i64 r), .lit (.bool l)], [])
  | _ => none
theorem wayElem_mk (r : Int) (l : Bool) : wayElem (.agg #[.int .i64 r, .bool l]) = some (.agg [.lit (.int .i64 r), .lit (.bool l)], []) := rfl
theorem wayElem_inv {v : Value} {p : Option (Int × Bool)} {ps : List MemPlace} (h : wayElem v = some (wayD p, ps)) : v = wayV p := by
  unfold wayElem at h
  split at h
  · rename_i r l
    cases p with
    | none =>
      simp only [wayD, Option.some.injEq, Prod.mk.injEq, DataW.agg.injEq, List.cons.injEq, DataW.lit.injEq, Lit.int.injEq, Lit.bool.injEq, true_and, and_true] at h
      obtain ⟨⟨rfl, rfl⟩, _⟩ := h
      rfl
    | some q =>
      obtain ⟨a, b⟩ := q
      simp only [wayD, Option.some.injEq, Prod.mk.injEq, DataW.agg.injEq, List.cons.injEq, DataW.lit.injEq, Lit.int.injEq, Lit.bool.injEq, true_and, and_true] at h
      obtain ⟨⟨rfl, rfl⟩, _⟩ := h
      rfl
  · cases h
theorem way_field0 (r : Int) (l : Bool) (w : World) : (Instr.field 62 (.agg #[.int .i64 r, .bool l]) 0).run Try.prog w = .ok (.int .i64 r) w := by kernel_rfl
theorem way_zero (w : World) : (zeroValue 62).run Try.prog w = .ok wayZ w := by kernel_rfl
theorem way_law : Keyed Try.prog 3 := int_keyed Try.underlying3
theorem way_key {i : Nat} (h : i ≤ 1000) : keyOf Try.prog 3 (.int .i64 (i : Int)) = some (.int .i64 (i : Int)) := keyOf_int_mk Try.underlying3 (WalkArith.wf_i64 (by omega))

/-- Block b is a map, of at most m entries, that tells M. -/
def WMap (W : World) (b m : Nat) (M : WMp) : Prop := ∃ D : DataW Unit, W.ownsMap Try.prog 3 wayElem b m D ∧ ∀ i : Nat, Maps.has D (.int .i64 (i : Int)) = (M i).isSome ∧ D.atKey (.int .i64 (i : Int)) (wayD none) = wayD (M i)
theorem WMap.lt {W : World} {b m : Nat} {M : WMp} (h : WMap W b m M) : b < W.heap.size := by obtain ⟨D, h, _⟩ := h; exact h.lt
theorem WMap.kept {W W' : World} {b m : Nat} {M : WMp} {row : Option Nat} (h : WMap W b m M) (hg : W.grownBy W' row) (hne : some b ≠ row) : WMap W' b m M := by
  obtain ⟨D, h, h2⟩ := h; exact ⟨D, h.kept hg hne, h2⟩
theorem WMap.mono {W : World} {b m m' : Nat} {M : WMp} (h : WMap W b m M) (hm : m ≤ m') : WMap W b m' M := by
  obtain ⟨D, h, h2⟩ := h; exact ⟨D, h.mono hm, h2⟩
theorem WMap.below {W W' : World} {b m B : Nat} {M : WMp} (h : WMap W b m M) (hb : Below B W W') (hB : b < B) : WMap W' b m M := by
  obtain ⟨D, ⟨es, clock, h1, h3⟩, h2⟩ := h
  exact ⟨D, ⟨es, clock, (hb.block b hB).trans h1, h3⟩, h2⟩
theorem WMap.made (W : World) : WMap (W.alloc (.map #[] 0)) W.heap.size 0 (fun _ => none) :=
  ⟨.map [], World.ownsMap_made _ _ _ _, fun _ => ⟨rfl, rfl⟩⟩
theorem WMap.setCell {W : World} {b m : Nat} {M : WMp} (h : WMap W b m M) {a : Addr} (ha : b ≠ a.block) (u : Value) : WMap (W.setCell a u) b m M := by
  obtain ⟨D, h, h2⟩ := h; exact ⟨D, h.setCell ha u, h2⟩
theorem WMap.look {W : World} {b m : Nat} {M : WMp} (h : WMap W b m M) {i : Nat} (hi : i ≤ 1000) :
    (Instr.lookup 60 (.map (some b)) (.int .i64 (i : Int)) true).run Try.prog W = .ok (.tuple #[wayV (M i), .bool (M i).isSome]) W := by
  obtain ⟨D, h, h2⟩ := h
  obtain ⟨v, ps, hrun, hv⟩ := h.look_ok way_law Try.underlying60 (way_zero _) (wayElem_mk 0 false) (way_key hi)
  have ha := (h2 i).2
  have hh := (h2 i).1
  rw [show (DataW.agg [.lit (.int .i64 0), .lit (.bool false)] : DataW Unit) = wayD none from rfl, ha] at hv
  rw [hh, wayElem_inv hv] at hrun
  exact hrun
theorem WMap.get {W : World} {b m : Nat} {M : WMp} (h : WMap W b m M) {i : Nat} (hi : i ≤ 1000) :
    (Instr.lookup 60 (.map (some b)) (.int .i64 (i : Int)) false).run Try.prog W = .ok (wayV (M i)) W := by
  obtain ⟨D, h, h2⟩ := h
  obtain ⟨v, ps, hrun, hv⟩ := h.lookup way_law Try.underlying60 (way_zero _) (wayElem_mk 0 false) (way_key hi)
  have ha := (h2 i).2
  rw [show (DataW.agg [.lit (.int .i64 0), .lit (.bool false)] : DataW Unit) = wayD none from rfl, ha] at hv
  rw [wayElem_inv hv] at hrun
  exact hrun
theorem WMap.put {W : World} {b m : Nat} {M : WMp} (h : WMap W b m M) {i : Nat} (hi : i ≤ 1000) (hm : m ≤ 1000000) (r : Int) (l : Bool) :
    ∃ W', (Instr.mapUpdate 60 (.map (some b)) (.int .i64 (i : Int)) (.agg #[.int .i64 r, .bool l])).run Try.prog W = .ok () W' ∧ WMap W' b (m + 1) (updM M i (r, l)) ∧ W.mapTurned W' b := by
  obtain ⟨D, h, h2⟩ := h
  obtain ⟨W', hrun, h3, h4⟩ := h.store way_law Try.underlying60 (by unfold maxLen; omega) (way_key hi) (wayElem_mk r l)
  refine ⟨W', hrun, ⟨_, h3, fun j => ?_⟩, h4⟩
  have hm := h.isMap
  by_cases e : j = i
  · subst e
    have hk : WideAt.IsKeyLit (.int .i64 (j : Int)) := by simp [WideAt.IsKeyLit]
    rw [updM_same, has_put_same hm hk, atKey_put_same hm hk]
    exact ⟨rfl, rfl⟩
  · have hne : (Lit.int .i64 (j : Int)) ≠ .int .i64 (i : Int) := fun e' => by simp only [Lit.int.injEq, true_and] at e'; omega
    rw [updM_other e, has_put_other hne, atKey_put_other hne]
    exact h2 j
theorem turned_cells {W W' : World} {b : Nat} (h : W.mapTurned W' b) : KeepsCells W W' := by
  obtain ⟨es, clock, es', clock', hb, rfl⟩ := h
  refine ⟨by simp [ChangeMaps.setBlock], fun k o hk ho => ?_⟩
  by_cases e : k = b
  · subst e; rw [hb] at hk; cases hk; cases ho
  · exact (ChangeMaps.heap_setBlock_other hb _ e).trans hk
end Go.Proofs.Ytablbgfleopbfaa

/- A map of numbers, as a function. -/
import Derived.Test.YtgdoklbcmgkllaaBTlk
import Derived.Maps.OwnIn
namespace Go.Proofs.Ytgdoklbcmgkllaa
open Go.RowKit Go.Maps

abbrev MMp := Nat → Option Int
def updI (M : MMp) (i : Nat) (r : Int) : MMp := fun j => if j = i then some r else M j
def intD (p : Option Int) : DataW Unit := .lit (.int .i64 (p.getD 0))
/-- How an element reads. -/
def intE : Value → Option (DataW Unit × List MemPlace)
  | .int .i64 r => some (.lit (.int .i64 r), [])
  | _ => none
theorem intE_mk (r : Int) : intE (.int .i64 r) = some (.lit (.int .i64 r), []) := rfl
theorem intE_inv {v : Value} {p : Option Int} {ps : List MemPlace} (h : intE v = some (intD p, ps)) : v = .int .i64 (p.getD 0) := by
  unfold intE at h
  split at h
  · rename_i r
    unfold intD at h
    simp only [Option.some.injEq, Prod.mk.injEq, DataW.lit.injEq, Lit.int.injEq, true_and] at h
    rw [h.1]
  · cases h
theorem int_zero (w : World) : (zeroValue 3).run Try.prog w = .ok (.int .i64 0) w := by kernel_rfl
theorem mm_law : Keyed Try.prog 3 := int_keyed Try.underlying3
theorem mm_key {i : Nat} (h : i ≤ 1000) : keyOf Try.prog 3 (.int .i64 (i : Int)) = some (.int .i64 (i : Int)) := keyOf_int_mk Try.underlying3 (WalkArith.wf_i64 (by omega))
/-- Block b is a map, of at most m entries, that tells M. -/
def MMap (W : World) (b m : Nat) (M : MMp) : Prop := ∃ D : DataW Unit, W.ownsMap Try.prog 3 intE b m D ∧ ∀ i : Nat, Maps.has D (.int .i64 (i : Int)) = (M i).isSome ∧ D.atKey (.int .i64 (i : Int)) (intD none) = intD (M i)
theorem MMap.lt {W : World} {b m : Nat} {M : MMp} (h : MMap W b m M) : b < W.heap.size := by obtain ⟨D, h, _⟩ := h; exact h.lt
theorem MMap.kept {W W' : World} {b m : Nat} {M : MMp} {row : Option Nat} (h : MMap W b m M) (hg : W.grownBy W' row) (hne : some b ≠ row) : MMap W' b m M := by
  obtain ⟨D, h, h2⟩ := h; exact ⟨D, h.kept hg hne, h2⟩
theorem MMap.none_ {W W' : World} {b m : Nat} {M : MMp} (h : MMap W b m M) (hg : W.grownBy W' none) : MMap W' b m M := h.kept hg (fun e => by cases e)
theorem MMap.mono {W : World} {b m m' : Nat} {M : MMp} (h : MMap W b m M) (hm : m ≤ m') : MMap W b m' M := by
  obtain ⟨D, h, h2⟩ := h; exact ⟨D, h.mono hm, h2⟩
theorem MMap.made (W : World) : MMap (W.alloc (.map #[] 0)) W.heap.size 0 (fun _ => none) :=
  ⟨.map [], World.ownsMap_made _ _ _ _, fun _ => ⟨rfl, rfl⟩⟩
theorem map_row {W W' : World} {b : Nat} {v : Value} {zs : List Int} {base : Nat} {m : Nat} {M : MMp} (hm : MMap W b m M) (h : BOwn base W v zs) (hg : W.grownBy W' (some b)) : BOwn base W' v zs := h.kept hg (by
  cases e : v.ownBlock with
  | none => exact .inl rfl
  | some g =>
    refine .inr fun e2 => ?_
    injection e2 with e2
    subst e2
    obtain ⟨_, cs', hb'⟩ := own_rowB h _ e
    obtain ⟨D, ⟨es, clock, h1, _⟩, _⟩ := hm
    unfold Blk at hb'
    rw [hb'] at h1
    cases h1)
theorem map_cells {W W' : World} {b m : Nat} {M : MMp} (hm : MMap W b m M) (hg : W.grownBy W' (some b)) : KeepsCells W W' := by
  refine ⟨hg.size, fun k o hk ho => (hg.block k (Array.getElem?_eq_some_iff.1 hk).1 (fun e => ?_)).trans hk⟩
  injection e with e
  subst e
  obtain ⟨D, ⟨es, clock, h1, _⟩, _⟩ := hm
  rw [h1] at hk
  cases hk
  cases ho
theorem CodeA.keepc {W W' : World} {v : Value} {cs : List Bi} (h : CodeA W v cs) (hk : KeepsCells W W') : CodeA W' v cs := by
  obtain ⟨A, c, h1, h2, h3⟩ := h
  refine ⟨A, c, h1, h2, fun hn => ?_⟩
  obtain ⟨b, off, h4, h5, h6⟩ := h3 hn
  refine ⟨b, off, h4, Nat.lt_of_lt_of_le h5 hk.size, fun i x hx => ?_⟩
  obtain ⟨s, e, ⟨A2, c2, k1, k2⟩, h8⟩ := h6 i x hx
  refine ⟨s, e, ⟨A2, c2, k1, fun hm => ?_⟩, fun j u hu => hk.cell (h8 j u hu)⟩
  obtain ⟨b2, off2, k3, k4, k5⟩ := k2 hm
  exact ⟨b2, off2, k3, Nat.lt_of_lt_of_le k4 hk.size, fun i z hz => hk.cell (k5 i z hz)⟩
end Go.Proofs.Ytgdoklbcmgkllaa

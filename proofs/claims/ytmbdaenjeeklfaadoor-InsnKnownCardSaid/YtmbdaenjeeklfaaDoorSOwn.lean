/- What stays of a state where blocks that hold no cells are turned (SecI has the same, for seats that hold sect). -/
import Derived.Test.YtmbdaenjeeklfaaDoorSt
import Derived.Test.YtmbdaenjeeklfaaDoorRng
namespace Go.Proofs.YtmbdaenjeeklfaaDoor
open Go.RowKit

/-! ### What stays of a state -/
theorem Blk.own {W W' : World} {row : Option Nat} {k : Nat} {t : TypeId} {cs : Array Value} (h : Blk W k t cs) (hg : W.grownBy W' row) (hr : ∀ r, row = some r → ∃ o : Obj, W.heap[r]? = some o ∧ o.isCells = false) : Blk W' k t cs := by
  refine h.grown hg (fun e => ?_)
  obtain ⟨o, ho, hc⟩ := hr k e.symm
  unfold Blk at h
  rw [h] at ho
  cases ho
  cases hc
theorem Rdr.own {W W' : World} {row : Option Nat} {g a bg : Nat} {bs : List UInt8} (h : Rdr W g bs a bg) (hg : W.grownBy W' row) (hr : ∀ r, row = some r → ∃ o : Obj, W.heap[r]? = some o ∧ o.isCells = false) : Rdr W' g bs a bg := by
  obtain ⟨bb, off, cap, h1, h2, h3⟩ := h
  refine ⟨bb, off, cap, h1.own hg hr, h2.grown hg (fun e => ?_), h3⟩
  obtain ⟨cs, fr, h4, _⟩ := h2
  obtain ⟨o, ho, hc⟩ := hr bb e.symm
  rw [h4] at ho
  cases ho
  cases hc
theorem St.own {w0 W W' : World} {rs : List RD} {fs : List FD} {row : Option Nat} (h : St w0 W rs fs) (hg : W.grownBy W' row) (hr : ∀ r, row = some r → w0.heap.size ≤ r ∧ ∃ o : Obj, W.heap[r]? = some o ∧ o.isCells = false) : St w0 W' rs fs := by
  have hr2 := fun r e => (hr r e).2
  refine ⟨h.err.kept hg (fun r e => ?_), h.err0, ?_, fun r hm => ⟨(h.rdr r hm).1, (h.rdr r hm).2.own hg hr2⟩, h.apart, fun f hf => (h.flt f hf).own hg hr2⟩
  · have := h.err0
    have := (hr r e).1
    omega
  · exact only_of_below ((below_of_only h.step).grown hg h.step.size (fun k e => (hr k e).1)) none
/-- Another block is turned: one of those laid since, that is neither bytes, nor a reader, nor a fault. -/
theorem St.turn {w0 W W' : World} {rs : List RD} {fs : List FD} {k : Nat} {t : TypeId} {cs : Array Value} (h : St w0 W rs fs) (hg : W.grownBy W' (some k)) (hk : w0.heap.size ≤ k) (hb : Blk W k t cs) (h1 : t ≠ 5) (h2 : t ≠ 87) (h3 : t ≠ 48) : St w0 W' rs fs := by
  refine ⟨h.err.kept hg (fun r e => ?_), h.err0, only_new h.step hg hk, fun r hm => ⟨(h.rdr r hm).1, ?_⟩, h.apart, fun f hf => ?_⟩
  · injection e with e
    have := h.err0
    omega
  · obtain ⟨cs', hb'⟩ := (h.rdr r hm).2.blk
    refine (h.rdr r hm).2.grown hg (fun e => Blk.ne_ hb' hb (Ne.symm h2) (by injection e)) (fun j e => ?_)
    injection e with e
    subst e
    exact ⟨_, _, hb, h1⟩
  · exact Blk.grown (h.flt f hf) hg (fun e => Blk.ne_ (h.flt f hf) hb (Ne.symm h3) (by injection e))
end Go.Proofs.YtmbdaenjeeklfaaDoor

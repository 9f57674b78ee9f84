/- Texts joined for the claim's sake: DRTab, OJum. -/
import Derived.Test.YtmhbmeckdbdhpaaZSAddRow8
import Derived.Test.YtmhbmeckdbdhpaaZSAddRow21
import Derived.Deep.CutBlock
import Derived.Deep.CutRange
import Derived.Test.YtmhbmeckdbdhpaaZSAddRow31
namespace Go.Proofs.Ytmhbmeckdbdhpaa
open Go.RowKit Go.Shelf

/-- A table that the call made. -/
def MadeT (w : World) (l : List Nd) (e : Ending) (w' : World) : Prop := (∃ u ns, e = .returned u ∧ OT w.heap.size w' u ns ∧ ns.map (·.1) = l) ∧ w.grownBy w' none
/-- Between two stores. -/
structure TS (w : World) (g n2 : Nat) (ns : List (Nd × Value)) (W : World) : Prop where
  len : ns.length = n2
  ot : OT w.heap.size W (.slice (some ⟨g, 0, none⟩) n2 n2) ns
  gr : w.grownBy W none
  gb : w.heap.size ≤ g
section
variable {w W : World} {g n2 k : Nat} {ns : List (Nd × Value)} {p : Nd × Value}
theorem TS.putc (h : TS w g n2 ns W) (hk : ns[k]? = some p) (j : Nat) (hj : j < 6) (u : Value) (x : Nd) (e : Value) (hset : (ndCells p.1 p.2).toList.set j u = (ndCells x e).toList) (hE : EdgesO w.heap.size W e x.next) :
    TS w g n2 (ns.set k (x, e)) (W.setCell ⟨g, k * 6 + j, none⟩ u) ∧ (∀ v es, EdgesO w.heap.size W v es → EdgesO w.heap.size (W.setCell ⟨g, k * 6 + j, none⟩ u) v es) ∧ g < (W.setCell ⟨g, k * 6 + j, none⟩ u).heap.size := by
  obtain ⟨h1, h2⟩ := h.ot.putc h.len hk j hj u x e hset hE
  exact ⟨⟨by rw [List.length_set]; exact h.len, h1, only_new h.gr h2 h.gb, h.gb⟩, (fun v es hv => h.ot.edges_kept hv h2), (World.ownsRow.lt h1.row g rfl).2⟩
end
end Go.Proofs.Ytmhbmeckdbdhpaa

namespace Go.Proofs.Ytmhbmeckdbdhpaa
open Go.RowKit Go.Shelf

theorem OKT.node {xs : List Nd} (hk : OKT xs) {e : Ed} (h : nodeB xs.length e.1 = true) (h0 : -9223372036854775808 ≤ e.2) (h1 : e.2 ≤ 9223372036854775807) : ∃ (m : Nat) (y : Nd) (o : Int), resolveL xs e = ((m : Int), o) ∧ xs[m]? = some y ∧ y.kind ≠ 5 := by
  obtain ⟨a0, a1⟩ := nodeB_true.1 h
  obtain ⟨m, y, s, hy, hk5, hs0, hs1, hm, hr⟩ := hk.goal a0 a1
  have hr0 : resolveL xs (e.1, 0) = ((m : Int), s) := by rw [hr 0 (by omega) (by omega), Int.add_zero]
  have := resolve_shift (xs := xs) (t := (e.1, 0)) (a := ((m : Int), s)) e.2 hr0 (nodeAt_nat.trans hy)
  simp only [Int.zero_add] at this
  rw [wrap_in h0 h1] at this
  exact ⟨m, y, _, this, hy, hk5⟩
end Go.Proofs.Ytmhbmeckdbdhpaa

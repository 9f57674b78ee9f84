/- Texts joined for the claim's sake: OJum, OJRf, ORCh. -/
import Derived.Test.YtmhbmeckdbdhpaaZSKnwRow29
namespace Go.Proofs.Ytmhbmeckdbdhpaa
open Go.RowKit Go.Shelf

theorem OKT.node {xs : List Nd} (hk : OKT xs) {e : Ed} (h : nodeB xs.length e.1 = true) (h0 : -9223372036854775808 ≤ e.2) (h1 : e.2 ≤ 9223372036854775807) : ∃ (m : Nat) (y : Nd) (o : Int), resolveL xs e = ((m : Int), o) ∧ xs[m]? = some y ∧ y.kind ≠ 5 := by
  obtain ⟨a0, a1⟩ := nodeB_true.1 h
  obtain ⟨m, y, s, hy, hk5, hs0, hs1, hm, hr⟩ := hk.goal a0 a1
  have hr0 : resolveL xs (e.1, 0) = ((m : Int), s) := by rw [hr 0 (by omega) (by omega), Int.add_zero]
  have := resolve_shift (xs := xs) (t := (e.1, 0)) (a := ((m : Int), s)) e.2 hr0 (nodeAt_nat.trans hy)
  simp only [Int.zero_add] at this
  rw [wrap_in h0 h1] at this
  exact ⟨m, y, _, this, hy, hk5⟩
end Go.Proofs.Ytmhbmeckdbdhpaa

namespace Go.Proofs.Ytmhbmeckdbdhpaa
open Go.RowKit Go.Shelf

def actR (k : Int) : Bool := decide (1 ≤ k) && decide (k ≤ 4)
theorem act_eq {k : Int} (h0 : 0 ≤ k) (h5 : k ≤ 5) : actR k = actB k := by
  unfold actR actB
  rcases (by omega : k = 0 ∨ k = 1 ∨ k = 2 ∨ k = 3 ∨ k = 4 ∨ k = 5) with rfl | rfl | rfl | rfl | rfl | rfl <;> decide
theorem OKT.act {xs : List Nd} {u : Nat} {x : Nd} (hk : OKT xs) (hx : xs[u]? = some x) : actR x.kind = actB x.kind := act_eq (hk.end_ hx).1.1 (hk.end_ hx).1.2
end Go.Proofs.Ytmhbmeckdbdhpaa

namespace Go.Proofs.Ytmhbmeckdbdhpaa
open Go.RowKit Go.Shelf

end Go.Proofs.Ytmhbmeckdbdhpaa

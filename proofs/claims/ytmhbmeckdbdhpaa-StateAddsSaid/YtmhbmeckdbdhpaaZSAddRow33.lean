/- Texts joined for the claim's sake: OJRf, ORCh. -/
import Derived.Test.YtmhbmeckdbdhpaaZSAddRow32
namespace Go.Proofs.Ytmhbmeckdbdhpaa
open Go.RowKit Go.Shelf

def actR (k : Int) : Bool := decide (1 ≤ k) && decide (k ≤ 4)
theorem act_eq {k : Int} (h0 : 0 ≤ k) (h5 : k ≤ 5) : actR k = actB k := by
  unfold actR actB
  rcases (by omega : k = 0 ∨ k = 1 ∨ k = 2 ∨ k = 3 ∨ k = 4 ∨ k = 5) with rfl | rfl | rfl | rfl | rfl | rfl <;> decide
theorem OKT.act {xs : List Nd} {u : Nat} {x : Nd} (hk : OKT xs) (hx : xs[u]? = some x) : actR x.kind = actB x.kind := act_eq (hk.end_ hx).1.1 (hk.end_ hx).1.2
end Go.Proofs.Ytmhbmeckdbdhpaa

namespace Go.Proofs.Ytmhbmeckdbdhpaa
open Go.RowKit Go.Shelf

end Go.Proofs.Ytmhbmeckdbdhpaa

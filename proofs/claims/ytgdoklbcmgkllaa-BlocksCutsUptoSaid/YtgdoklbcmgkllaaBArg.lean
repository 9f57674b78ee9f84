/- A list of instructions that was handed in, as a code. -/
import Derived.Test.YtgdoklbcmgkllaaIOpn
import Derived.Test.YtgdoklbcmgkllaaBGo
namespace Go.Proofs.Ytgdoklbcmgkllaa
open Go.RowKit

def biL (xs : List (Int × Sg)) : List Bi := xs.map fun y => (y.1, y.2.l)
theorem InsA.code {W : World} {v : Value} {xs : List (Int × Sg)} (h : InsA W v xs) : CodeA W v (biL xs) := by
  obtain ⟨A, c, rfl, hl, hA⟩ := h
  refine ⟨A, c, by simp [biL], by simpa [biL] using hl, fun hn => ?_⟩
  obtain ⟨b, off, rfl, hb, hat⟩ := hA (by intro e; subst e; exact hn rfl)
  refine ⟨b, off, rfl, hb, fun i x hx => ?_⟩
  unfold biL at hx
  rw [List.getElem?_map] at hx
  obtain ⟨y, hy, rfl⟩ := Option.map_eq_some_iff.1 hx
  obtain ⟨h1, _, h3⟩ := hat i y hy
  exact ⟨y.2, rfl, h1.1, h3⟩
/-- Its beginning. -/
theorem CodeA.take_ {W : World} {A : Option Addr} {n c : Nat} {cs : List Bi} (h : CodeA W (.slice A n c) cs) (m : Nat) (hm : m ≤ cs.length) : CodeA W (.slice A m c) (cs.take m) := by
  obtain ⟨A', c', e, hl, hA⟩ := h
  injection e with e1 e2 e3
  subst e1
  subst e3
  refine ⟨A, c, by rw [List.length_take, Nat.min_eq_left hm], by rw [List.length_take]; omega, fun hn => ?_⟩
  obtain ⟨b, off, h1, h2, h3⟩ := hA (by intro e; subst e; simp at hn)
  refine ⟨b, off, h1, h2, fun i x hx => h3 i x ?_⟩
  rw [List.getElem?_take] at hx
  split at hx
  · exact hx
  · cases hx
end Go.Proofs.Ytgdoklbcmgkllaa

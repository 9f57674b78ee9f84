/- GraphShapes: the walk. -/
import Derived.Test.YtacjkkhignjmnaaGRefD
import Derived.Test.YtacjkkhignjmnaaGWrk
namespace Go.Proofs.Ytacjkkhignjmnaa
open Go.RowKit Go.Shelf

theorem Tbl.take {w : World} {A : Option Addr} {c m : Nat} {xs : List Nd} (h : Tbl w (.slice A xs.length c) xs) (hm : m ≤ xs.length) : Tbl w (.slice A m c) (xs.take m) := by
  obtain ⟨A', c', hA, h2⟩ := h
  obtain ⟨rfl, rfl⟩ : A = A' ∧ c = c' := by simpa using hA
  refine ⟨A, c, by rw [List.length_take, Nat.min_eq_left hm], fun hn => ?_⟩
  obtain ⟨b, off, h3, h4⟩ := h2 (by intro e; rw [e] at hn; simp at hn)
  refine ⟨b, off, h3, fun i x hx => h4 i x ?_⟩
  rw [List.getElem?_take] at hx
  split at hx
  · exact hx
  · cases hx

end Go.Proofs.Ytacjkkhignjmnaa

/- The statements' own works: two aliases, and an end. -/
import Derived.Test.YtacjkkhignjmnaaGChk
namespace Go.Proofs.Ytacjkkhignjmnaa
open Go.RowKit Go.Shelf

abbrev wk : List Nd := [⟨5, 0, false, (0, 0), [(1, 2)]⟩, ⟨5, 0, false, (0, 0), [(2, 3)]⟩, ⟨0, 0, false, (0, 0), []⟩]
abbrev wk1 : List Nd := [⟨0, 1, false, (0, 0), []⟩]
theorem wk_check : checkL wk = (-1, 0) := by decide
theorem wk1_check : checkL wk1 = (0, 7) := by decide
theorem wk_resolve : resolveL wk (0, 4) = (2, 9) := by kernel_rfl
/-- One edge in a block of its own. -/
theorem edges_one {W : World} {g : Nat} {t : TypeId} {e : Ed} {c : Nat} (h : Blk W g t (edCells e)) : Edges W (.slice (some ⟨g, 0, none⟩) 1 c) [e] :=
  ⟨_, _, rfl, by simp, fun _ => ⟨g, 0, rfl, fun i x hx => by
    match i, hx with
    | 0, hx => cases hx; exact ⟨h.cell 0, h.cell 1⟩
    | i + 1, hx => simp at hx⟩⟩

end Go.Proofs.Ytacjkkhignjmnaa

/- Texts joined for the claim's sake: CPla, CUnl. -/
import Derived.Test.YtmhbmeckdbdhpaaZSAddRow11
import Derived.Test.YtmhbmeckdbdhpaaZSAddRow5
import Derived.Test.YtmhbmeckdbdhpaaZSAddRow20
namespace Go.Proofs.Ytmhbmeckdbdhpaa
open Go.RowKit Go.Shelf

end Go.Proofs.Ytmhbmeckdbdhpaa

namespace Go.Proofs.Ytmhbmeckdbdhpaa
open Go.RowKit Go.Shelf

/-- A list of lists of bools that reads as a table. -/
def MatV (W : World) (v : Value) (N : Nat) (M : Nat → Nat → Bool) : Prop := ∃ b off cap, v = .slice (some ⟨b, off, none⟩) N cap ∧ ∀ a, a < N → ∃ ba oa ca, W.cell? ⟨b, off + a, none⟩ = some (.slice (some ⟨ba, oa, none⟩) N ca) ∧ ∀ c, c < N → W.cell? ⟨ba, oa + c, none⟩ = some (.bool (M a c))
theorem MatV.keep {W W' : World} {v : Value} {N : Nat} {M : Nat → Nat → Bool} (h : MatV W v N M) (hk : Keeps W W') : MatV W' v N M := by
  obtain ⟨b, off, cap, h1, h2⟩ := h
  refine ⟨b, off, cap, h1, fun a ha => ?_⟩
  obtain ⟨ba, oa, ca, h3, h4⟩ := h2 a ha
  exact ⟨ba, oa, ca, hk _ _ h3, fun c hc => hk _ _ (h4 c hc)⟩

section
variable {L : List Nd} {M : Nat → Nat → Bool} {a b : Nat} {x y : Nd}
end

/-- What stands: both nodes' boxes, the table, what is told apart. -/
structure U2 (w : World) (L : List Nd) (v mv : Value) (M : Nat → Nat → Bool) (Bx By : Nat) (x y : Nd) (vx vy : Value) (W : World) : Prop where
  gr : w.grownBy W none
  bx : Blk W Bx 70 (ndCells x vx)
  by_ : Blk W By 70 (ndCells y vy)
  ex : Edges W vx x.next
  ey : Edges W vy y.next
  mt : MatV W mv L.length M
  tb : Tbl W v L
theorem U2.kept {w W W' : World} {L : List Nd} {v mv : Value} {M : Nat → Nat → Bool} {Bx By : Nat} {x y : Nd} {vx vy : Value} (h : U2 w L v mv M Bx By x y vx vy W) (hg : W.grownBy W' none) : U2 w L v mv M Bx By x y vx vy W' :=
  ⟨only_trans h.gr hg, h.bx.kept hg, h.by_.kept hg, h.ex.keep (.grown hg), h.ey.keep (.grown hg), h.mt.keep (.grown hg), h.tb.keep (.grown hg)⟩

end Go.Proofs.Ytmhbmeckdbdhpaa

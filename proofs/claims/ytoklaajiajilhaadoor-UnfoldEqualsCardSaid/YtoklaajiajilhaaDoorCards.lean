/-
  DERIVED. GIVEN WITH THE SEED: THE CARDS: each row of YtoklaajiajilhaaDoorRows.lean that lists a variable, with what it lists TIED to the program's text (the seventh form; the later family's looks); each row that meets fmt, with fmt's text TOLD by the authors' own Lean function (tested against real Go, not proved from fmt's source: count such statements apart). THE CARD IS WHAT COUNTS. Prove the row's statement (the work); the ties are given (YtoklaajiajilhaaDoorTie.lean); close each card by the builder's one call (the guide's Derived/Test/ToyasCard.lean, 'card_holds'). Laid BY PROGRAM, IN A SANDBOX (cutbox-door.mjs). By AI agents, Wed Nov 11 2026. No macro, syntax, notation, axiom, sorry.
-/
import Derived.Test.YtoklaajiajilhaaDoorRows
import GoSem.ClaimSeven
namespace Go.Proofs.YtoklaajiajilhaaDoor
namespace Rows

/-- THE TIED CARD OF 'colloquylaw08.UnfoldEquals'. -/
def unfoldEqualsCard : Claim7 := { stood := { row := unfoldEqualsRow, standIns := [], harness := (true, "42991c2688804f56f91b3cc5b5d421a6f6c4987ccb1c16f7c4c66582d307cd5d"), looks := false }, kinds := [], alts := [], laidByText := true, laidKinds := [.data, .data, .data], laidTests := true, laidLooks := .later }
def UnfoldEqualsCardSaid : Prop := Claim7.holds Tryd.pinned (.plain (OpenSpec.ofChange unfoldEqualsSpec)) unfoldEqualsCard

/-- THE TIED CARD OF 'colloquylaw08.UnfoldDepths'. -/
def unfoldDepthsCard : Claim7 := { stood := { row := unfoldDepthsRow, standIns := [], harness := (true, "42991c2688804f56f91b3cc5b5d421a6f6c4987ccb1c16f7c4c66582d307cd5d"), looks := false }, kinds := [], alts := [], laidByText := true, laidKinds := [.data, .data, .data], laidTests := true, laidLooks := .later }
def UnfoldDepthsCardSaid : Prop := Claim7.holds Tryd.pinned (.plain (OpenSpec.ofChange unfoldDepthsSpec)) unfoldDepthsCard

/-- THE TIED CARD OF 'colloquylaw08.UnfoldSteady'. -/
def unfoldSteadyCard : Claim7 := { stood := { row := unfoldSteadyRow, standIns := [], harness := (true, "42991c2688804f56f91b3cc5b5d421a6f6c4987ccb1c16f7c4c66582d307cd5d"), looks := false }, kinds := [], alts := [], laidByText := true, laidKinds := [.data, .data, .data], laidTests := true, laidLooks := .later }
def UnfoldSteadyCardSaid : Prop := Claim7.holds Tryd.pinned (.plain (OpenSpec.ofChange unfoldSteadySpec)) unfoldSteadyCard

/-- THE TIED CARD OF 'colloquylaw08.UnfoldKnown'. -/
def unfoldKnownCard : Claim7 := { stood := { row := unfoldKnownRow, standIns := [], harness := (true, "42991c2688804f56f91b3cc5b5d421a6f6c4987ccb1c16f7c4c66582d307cd5d"), looks := false }, kinds := [], alts := [], laidByText := true, laidKinds := [.data, .data, .data], laidTests := true, laidLooks := .later }
def UnfoldKnownCardSaid : Prop := Claim7.holds Tryd.pinned (.plain (OpenSpec.ofChange unfoldKnownSpec)) unfoldKnownCard

/-- THE SECOND FORM's CARD OF 'colloquylaw08.UnfoldEquals'. -/
def unfoldEqualsUptoCard : Claim7 := { stood := { row := unfoldEqualsUptoRow, standIns := [], harness := (true, "42991c2688804f56f91b3cc5b5d421a6f6c4987ccb1c16f7c4c66582d307cd5d"), looks := false }, kinds := [], alts := [], laidByText := true, laidKinds := [.data, .data, .data], laidTests := true, laidLooks := .later }
def UnfoldEqualsUptoCardSaid : Prop := Claim7.holds Tryd.pinned (.plain (OpenSpec.upto unfoldEqualsSpec)) unfoldEqualsUptoCard

/-- THE SECOND FORM's CARD OF 'colloquylaw08.UnfoldDepths'. -/
def unfoldDepthsUptoCard : Claim7 := { stood := { row := unfoldDepthsUptoRow, standIns := [], harness := (true, "42991c2688804f56f91b3cc5b5d421a6f6c4987ccb1c16f7c4c66582d307cd5d"), looks := false }, kinds := [], alts := [], laidByText := true, laidKinds := [.data, .data, .data], laidTests := true, laidLooks := .later }
def UnfoldDepthsUptoCardSaid : Prop := Claim7.holds Tryd.pinned (.plain (OpenSpec.upto unfoldDepthsSpec)) unfoldDepthsUptoCard

/-- THE SECOND FORM's CARD OF 'colloquylaw08.UnfoldSteady'. -/
def unfoldSteadyUptoCard : Claim7 := { stood := { row := unfoldSteadyUptoRow, standIns := [], harness := (true, "42991c2688804f56f91b3cc5b5d421a6f6c4987ccb1c16f7c4c66582d307cd5d"), looks := false }, kinds := [], alts := [], laidByText := true, laidKinds := [.data, .data, .data], laidTests := true, laidLooks := .later }
def UnfoldSteadyUptoCardSaid : Prop := Claim7.holds Tryd.pinned (.plain (OpenSpec.upto unfoldSteadySpec)) unfoldSteadyUptoCard

/-- THE SECOND FORM's CARD OF 'colloquylaw08.UnfoldKnown'. -/
def unfoldKnownUptoCard : Claim7 := { stood := { row := unfoldKnownUptoRow, standIns := [], harness := (true, "42991c2688804f56f91b3cc5b5d421a6f6c4987ccb1c16f7c4c66582d307cd5d"), looks := false }, kinds := [], alts := [], laidByText := true, laidKinds := [.data, .data, .data], laidTests := true, laidLooks := .later }
def UnfoldKnownUptoCardSaid : Prop := Claim7.holds Tryd.pinned (.plain (OpenSpec.upto unfoldKnownSpec)) unfoldKnownUptoCard
end Rows
end Go.Proofs.YtoklaajiajilhaaDoor

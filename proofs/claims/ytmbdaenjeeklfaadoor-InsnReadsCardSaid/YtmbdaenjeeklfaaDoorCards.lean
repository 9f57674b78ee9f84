/-
  DERIVED. GIVEN WITH THE SEED: THE CARDS: each row of YtmbdaenjeeklfaaDoorRows.lean that lists a variable, with what it lists TIED to the program's text (the seventh form; the later family's looks); each row that meets fmt, with fmt's text TOLD by the authors' own Lean function (tested against real Go, not proved from fmt's source: count such statements apart). THE CARD IS WHAT COUNTS. Prove the row's statement (the work); the ties are given (YtmbdaenjeeklfaaDoorTie.lean); close each card by the builder's one call (the guide's Derived/Test/ToyasCard.lean, 'card_holds'). Laid BY PROGRAM, IN A SANDBOX (cutbox-door.mjs). By AI agents, Wed Nov 11 2026. No macro, syntax, notation, axiom, sorry.
-/
import Derived.Test.YtmbdaenjeeklfaaDoorRows
import GoSem.ClaimSeven
namespace Go.Proofs.YtmbdaenjeeklfaaDoor
namespace Rows

/-- THE TIED CARD OF 'colloquylaw09.InsnPuts'. -/
def insnPutsCard : Claim7 := { stood := { row := insnPutsRow, standIns := [], harness := (true, "d0fe63ac6b40507d02b2fd160f4be14bbf6a3e1e4da6a2070684c502d51cec8c"), looks := true }, kinds := [], alts := [], laidByText := true, laidKinds := [.handle], laidTests := true, laidLooks := .later }
def InsnPutsCardSaid : Prop := Claim7.holds Tryd.pinned (.plain (OpenSpec.ofChange insnPutsSpec)) insnPutsCard

/-- THE TIED CARD OF 'colloquylaw09.InsnReads'. -/
def insnReadsCard : Claim7 := { stood := { row := insnReadsRow, standIns := [], harness := (true, "d0fe63ac6b40507d02b2fd160f4be14bbf6a3e1e4da6a2070684c502d51cec8c"), looks := true }, kinds := [], alts := [], laidByText := true, laidKinds := [.handle], laidTests := true, laidLooks := .later }
def InsnReadsCardSaid : Prop := Claim7.holds Tryd.pinned (.plain (OpenSpec.ofChange insnReadsSpec)) insnReadsCard

/-- THE TIED CARD OF 'colloquylaw09.InsnBack'. -/
def insnBackCard : Claim7 := { stood := { row := insnBackRow, standIns := [], harness := (true, "d0fe63ac6b40507d02b2fd160f4be14bbf6a3e1e4da6a2070684c502d51cec8c"), looks := true }, kinds := [], alts := [], laidByText := true, laidKinds := [.handle], laidTests := true, laidLooks := .later }
def InsnBackCardSaid : Prop := Claim7.holds Tryd.pinned (.plain (OpenSpec.ofChange insnBackSpec)) insnBackCard

/-- THE TIED CARD OF 'colloquylaw09.InsnCuts'. -/
def insnCutsCard : Claim7 := { stood := { row := insnCutsRow, standIns := [], harness := (true, "d0fe63ac6b40507d02b2fd160f4be14bbf6a3e1e4da6a2070684c502d51cec8c"), looks := true }, kinds := [], alts := [], laidByText := true, laidKinds := [.handle], laidTests := true, laidLooks := .later }
def InsnCutsCardSaid : Prop := Claim7.holds Tryd.pinned (.plain (OpenSpec.ofChange insnCutsSpec)) insnCutsCard

/-- THE TIED CARD OF 'colloquylaw09.InsnKnown'. -/
def insnKnownCard : Claim7 := { stood := { row := insnKnownRow, standIns := [], harness := (true, "d0fe63ac6b40507d02b2fd160f4be14bbf6a3e1e4da6a2070684c502d51cec8c"), looks := true }, kinds := [], alts := [], laidByText := true, laidKinds := [.handle], laidTests := true, laidLooks := .later }
def InsnKnownCardSaid : Prop := Claim7.holds Tryd.pinned (.plain (OpenSpec.ofChange insnKnownSpec)) insnKnownCard

/-- THE SECOND FORM's CARD OF 'colloquylaw09.InsnPuts'. -/
def insnPutsUptoCard : Claim7 := { stood := { row := insnPutsUptoRow, standIns := [], harness := (true, "d0fe63ac6b40507d02b2fd160f4be14bbf6a3e1e4da6a2070684c502d51cec8c"), looks := true }, kinds := [], alts := [], laidByText := true, laidKinds := [.handle], laidTests := true, laidLooks := .later }
def InsnPutsUptoCardSaid : Prop := Claim7.holds Tryd.pinned (.plain (OpenSpec.upto insnPutsSpec)) insnPutsUptoCard

/-- THE SECOND FORM's CARD OF 'colloquylaw09.InsnReads'. -/
def insnReadsUptoCard : Claim7 := { stood := { row := insnReadsUptoRow, standIns := [], harness := (true, "d0fe63ac6b40507d02b2fd160f4be14bbf6a3e1e4da6a2070684c502d51cec8c"), looks := true }, kinds := [], alts := [], laidByText := true, laidKinds := [.handle], laidTests := true, laidLooks := .later }
def InsnReadsUptoCardSaid : Prop := Claim7.holds Tryd.pinned (.plain (OpenSpec.upto insnReadsSpec)) insnReadsUptoCard

/-- THE SECOND FORM's CARD OF 'colloquylaw09.InsnBack'. -/
def insnBackUptoCard : Claim7 := { stood := { row := insnBackUptoRow, standIns := [], harness := (true, "d0fe63ac6b40507d02b2fd160f4be14bbf6a3e1e4da6a2070684c502d51cec8c"), looks := true }, kinds := [], alts := [], laidByText := true, laidKinds := [.handle], laidTests := true, laidLooks := .later }
def InsnBackUptoCardSaid : Prop := Claim7.holds Tryd.pinned (.plain (OpenSpec.upto insnBackSpec)) insnBackUptoCard

/-- THE SECOND FORM's CARD OF 'colloquylaw09.InsnCuts'. -/
def insnCutsUptoCard : Claim7 := { stood := { row := insnCutsUptoRow, standIns := [], harness := (true, "d0fe63ac6b40507d02b2fd160f4be14bbf6a3e1e4da6a2070684c502d51cec8c"), looks := true }, kinds := [], alts := [], laidByText := true, laidKinds := [.handle], laidTests := true, laidLooks := .later }
def InsnCutsUptoCardSaid : Prop := Claim7.holds Tryd.pinned (.plain (OpenSpec.upto insnCutsSpec)) insnCutsUptoCard

/-- THE SECOND FORM's CARD OF 'colloquylaw09.InsnKnown'. -/
def insnKnownUptoCard : Claim7 := { stood := { row := insnKnownUptoRow, standIns := [], harness := (true, "d0fe63ac6b40507d02b2fd160f4be14bbf6a3e1e4da6a2070684c502d51cec8c"), looks := true }, kinds := [], alts := [], laidByText := true, laidKinds := [.handle], laidTests := true, laidLooks := .later }
def InsnKnownUptoCardSaid : Prop := Claim7.holds Tryd.pinned (.plain (OpenSpec.upto insnKnownSpec)) insnKnownUptoCard
end Rows
end Go.Proofs.YtmbdaenjeeklfaaDoor

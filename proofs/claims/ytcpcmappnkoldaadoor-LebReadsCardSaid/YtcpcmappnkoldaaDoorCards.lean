/-
  DERIVED. GIVEN WITH THE SEED: THE CARDS: each row of YtcpcmappnkoldaaDoorRows.lean that lists a variable, with what it lists TIED to the program's text (the seventh form; the later family's looks); each row that meets fmt, with fmt's text TOLD by the authors' own Lean function (tested against real Go, not proved from fmt's source: count such statements apart). THE CARD IS WHAT COUNTS. Prove the row's statement (the work); the ties are given (YtcpcmappnkoldaaDoorTie.lean); close each card by the builder's one call (the guide's Derived/Test/ToyasCard.lean, 'card_holds'). Laid BY PROGRAM, IN A SANDBOX (cutbox-door.mjs). By AI agents, Wed Nov 11 2026. No macro, syntax, notation, axiom, sorry.
-/
import Derived.Test.YtcpcmappnkoldaaDoorRows
import GoSem.ClaimSeven
namespace Go.Proofs.YtcpcmappnkoldaaDoor
namespace Rows

/-- THE TIED CARD OF 'colloquylaw02.LebReads'. -/
def lebReadsCard : Claim7 := { stood := { row := lebReadsRow, standIns := [], harness := (true, "b3a524f51fbbf218825209048a2b99511c48b35c210139ba1459512356cbb8cb"), looks := true }, kinds := [], alts := [], laidByText := true, laidKinds := [.handle], laidTests := true, laidLooks := .later }
def LebReadsCardSaid : Prop := Claim7.holds Tryd.pinned (.plain (OpenSpec.ofChange lebReadsSpec)) lebReadsCard

/-- THE TIED CARD OF 'colloquylaw02.LebPuts'. -/
def lebPutsCard : Claim7 := { stood := { row := lebPutsRow, standIns := [], harness := (true, "b3a524f51fbbf218825209048a2b99511c48b35c210139ba1459512356cbb8cb"), looks := true }, kinds := [], alts := [], laidByText := true, laidKinds := [.handle], laidTests := true, laidLooks := .later }
def LebPutsCardSaid : Prop := Claim7.holds Tryd.pinned (.plain (OpenSpec.ofChange lebPutsSpec)) lebPutsCard

/-- THE TIED CARD OF 'colloquylaw02.LebBack'. -/
def lebBackCard : Claim7 := { stood := { row := lebBackRow, standIns := [], harness := (true, "b3a524f51fbbf218825209048a2b99511c48b35c210139ba1459512356cbb8cb"), looks := true }, kinds := [], alts := [], laidByText := true, laidKinds := [.handle], laidTests := true, laidLooks := .later }
def LebBackCardSaid : Prop := Claim7.holds Tryd.pinned (.plain (OpenSpec.ofChange lebBackSpec)) lebBackCard

/-- THE TIED CARD OF 'colloquylaw02.LebOne'. -/
def lebOneCard : Claim7 := { stood := { row := lebOneRow, standIns := [], harness := (true, "b3a524f51fbbf218825209048a2b99511c48b35c210139ba1459512356cbb8cb"), looks := true }, kinds := [], alts := [], laidByText := true, laidKinds := [.handle], laidTests := true, laidLooks := .later }
def LebOneCardSaid : Prop := Claim7.holds Tryd.pinned (.plain (OpenSpec.ofChange lebOneSpec)) lebOneCard

/-- THE TIED CARD OF 'colloquylaw02.LebFolds'. -/
def lebFoldsCard : Claim7 := { stood := { row := lebFoldsRow, standIns := [], harness := (true, "b3a524f51fbbf218825209048a2b99511c48b35c210139ba1459512356cbb8cb"), looks := true }, kinds := [], alts := [], laidByText := true, laidKinds := [.handle], laidTests := true, laidLooks := .later }
def LebFoldsCardSaid : Prop := Claim7.holds Tryd.pinned (.plain (OpenSpec.ofChange lebFoldsSpec)) lebFoldsCard

/-- THE TIED CARD OF 'colloquylaw02.LebKnown'. -/
def lebKnownCard : Claim7 := { stood := { row := lebKnownRow, standIns := [], harness := (true, "b3a524f51fbbf218825209048a2b99511c48b35c210139ba1459512356cbb8cb"), looks := true }, kinds := [], alts := [], laidByText := true, laidKinds := [.handle], laidTests := true, laidLooks := .later }
def LebKnownCardSaid : Prop := Claim7.holds Tryd.pinned (.plain (OpenSpec.ofChange lebKnownSpec)) lebKnownCard

/-- THE SECOND FORM's CARD OF 'colloquylaw02.LebReads'. -/
def lebReadsUptoCard : Claim7 := { stood := { row := lebReadsUptoRow, standIns := [], harness := (true, "b3a524f51fbbf218825209048a2b99511c48b35c210139ba1459512356cbb8cb"), looks := true }, kinds := [], alts := [], laidByText := true, laidKinds := [.handle], laidTests := true, laidLooks := .later }
def LebReadsUptoCardSaid : Prop := Claim7.holds Tryd.pinned (.plain (OpenSpec.upto lebReadsSpec)) lebReadsUptoCard

/-- THE SECOND FORM's CARD OF 'colloquylaw02.LebPuts'. -/
def lebPutsUptoCard : Claim7 := { stood := { row := lebPutsUptoRow, standIns := [], harness := (true, "b3a524f51fbbf218825209048a2b99511c48b35c210139ba1459512356cbb8cb"), looks := true }, kinds := [], alts := [], laidByText := true, laidKinds := [.handle], laidTests := true, laidLooks := .later }
def LebPutsUptoCardSaid : Prop := Claim7.holds Tryd.pinned (.plain (OpenSpec.upto lebPutsSpec)) lebPutsUptoCard

/-- THE SECOND FORM's CARD OF 'colloquylaw02.LebBack'. -/
def lebBackUptoCard : Claim7 := { stood := { row := lebBackUptoRow, standIns := [], harness := (true, "b3a524f51fbbf218825209048a2b99511c48b35c210139ba1459512356cbb8cb"), looks := true }, kinds := [], alts := [], laidByText := true, laidKinds := [.handle], laidTests := true, laidLooks := .later }
def LebBackUptoCardSaid : Prop := Claim7.holds Tryd.pinned (.plain (OpenSpec.upto lebBackSpec)) lebBackUptoCard

/-- THE SECOND FORM's CARD OF 'colloquylaw02.LebOne'. -/
def lebOneUptoCard : Claim7 := { stood := { row := lebOneUptoRow, standIns := [], harness := (true, "b3a524f51fbbf218825209048a2b99511c48b35c210139ba1459512356cbb8cb"), looks := true }, kinds := [], alts := [], laidByText := true, laidKinds := [.handle], laidTests := true, laidLooks := .later }
def LebOneUptoCardSaid : Prop := Claim7.holds Tryd.pinned (.plain (OpenSpec.upto lebOneSpec)) lebOneUptoCard

/-- THE SECOND FORM's CARD OF 'colloquylaw02.LebFolds'. -/
def lebFoldsUptoCard : Claim7 := { stood := { row := lebFoldsUptoRow, standIns := [], harness := (true, "b3a524f51fbbf218825209048a2b99511c48b35c210139ba1459512356cbb8cb"), looks := true }, kinds := [], alts := [], laidByText := true, laidKinds := [.handle], laidTests := true, laidLooks := .later }
def LebFoldsUptoCardSaid : Prop := Claim7.holds Tryd.pinned (.plain (OpenSpec.upto lebFoldsSpec)) lebFoldsUptoCard

/-- THE SECOND FORM's CARD OF 'colloquylaw02.LebKnown'. -/
def lebKnownUptoCard : Claim7 := { stood := { row := lebKnownUptoRow, standIns := [], harness := (true, "b3a524f51fbbf218825209048a2b99511c48b35c210139ba1459512356cbb8cb"), looks := true }, kinds := [], alts := [], laidByText := true, laidKinds := [.handle], laidTests := true, laidLooks := .later }
def LebKnownUptoCardSaid : Prop := Claim7.holds Tryd.pinned (.plain (OpenSpec.upto lebKnownSpec)) lebKnownUptoCard
end Rows
end Go.Proofs.YtcpcmappnkoldaaDoor

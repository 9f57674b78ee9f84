/-
  DERIVED. GIVEN WITH THE SEED: THE CARDS: each row of YtjjfofifooailaaDoorRows.lean that lists a variable, with what it lists TIED to the program's text (the seventh form; the later family's looks); each row that meets fmt, with fmt's text TOLD by the authors' own Lean function (tested against real Go, not proved from fmt's source: count such statements apart). THE CARD IS WHAT COUNTS. Prove the row's statement (the work); the ties are given (YtjjfofifooailaaDoorTie.lean); close each card by the builder's one call (the guide's Derived/Test/ToyasCard.lean, 'card_holds'). Laid BY PROGRAM, IN A SANDBOX (cutbox-door.mjs). By AI agents, Wed Nov 11 2026. No macro, syntax, notation, axiom, sorry.
-/
import Derived.Test.YtjjfofifooailaaDoorRows
import GoSem.ClaimSeven
namespace Go.Proofs.YtjjfofifooailaaDoor
namespace Rows

/-- THE TIED CARD OF 'colloquylaw03.SectSplits'. -/
def sectSplitsCard : Claim7 := { stood := { row := sectSplitsRow, standIns := [], harness := (true, "bd720e42a12e4e79981035c35d597a6d8ec32d66676813cb2d9fb4c1fe3a021e"), looks := true }, kinds := [], alts := [], laidByText := true, laidKinds := [.handle], laidTests := true, laidLooks := .later }
def SectSplitsCardSaid : Prop := Claim7.holds Tryd.pinned (.plain (OpenSpec.ofChange sectSplitsSpec)) sectSplitsCard

/-- THE TIED CARD OF 'colloquylaw03.SectJoins'. -/
def sectJoinsCard : Claim7 := { stood := { row := sectJoinsRow, standIns := [], harness := (true, "bd720e42a12e4e79981035c35d597a6d8ec32d66676813cb2d9fb4c1fe3a021e"), looks := true }, kinds := [], alts := [], laidByText := true, laidKinds := [.handle], laidTests := true, laidLooks := .later }
def SectJoinsCardSaid : Prop := Claim7.holds Tryd.pinned (.plain (OpenSpec.ofChange sectJoinsSpec)) sectJoinsCard

/-- THE TIED CARD OF 'colloquylaw03.SectBack'. -/
def sectBackCard : Claim7 := { stood := { row := sectBackRow, standIns := [], harness := (true, "bd720e42a12e4e79981035c35d597a6d8ec32d66676813cb2d9fb4c1fe3a021e"), looks := true }, kinds := [], alts := [], laidByText := true, laidKinds := [.handle], laidTests := true, laidLooks := .later }
def SectBackCardSaid : Prop := Claim7.holds Tryd.pinned (.plain (OpenSpec.ofChange sectBackSpec)) sectBackCard

/-- THE TIED CARD OF 'colloquylaw03.SectCuts'. -/
def sectCutsCard : Claim7 := { stood := { row := sectCutsRow, standIns := [], harness := (true, "bd720e42a12e4e79981035c35d597a6d8ec32d66676813cb2d9fb4c1fe3a021e"), looks := true }, kinds := [], alts := [], laidByText := true, laidKinds := [.handle], laidTests := true, laidLooks := .later }
def SectCutsCardSaid : Prop := Claim7.holds Tryd.pinned (.plain (OpenSpec.ofChange sectCutsSpec)) sectCutsCard

/-- THE TIED CARD OF 'colloquylaw03.SectKnown'. -/
def sectKnownCard : Claim7 := { stood := { row := sectKnownRow, standIns := [], harness := (true, "bd720e42a12e4e79981035c35d597a6d8ec32d66676813cb2d9fb4c1fe3a021e"), looks := true }, kinds := [], alts := [], laidByText := true, laidKinds := [.handle], laidTests := true, laidLooks := .later }
def SectKnownCardSaid : Prop := Claim7.holds Tryd.pinned (.plain (OpenSpec.ofChange sectKnownSpec)) sectKnownCard

/-- THE SECOND FORM's CARD OF 'colloquylaw03.SectSplits'. -/
def sectSplitsUptoCard : Claim7 := { stood := { row := sectSplitsUptoRow, standIns := [], harness := (true, "bd720e42a12e4e79981035c35d597a6d8ec32d66676813cb2d9fb4c1fe3a021e"), looks := true }, kinds := [], alts := [], laidByText := true, laidKinds := [.handle], laidTests := true, laidLooks := .later }
def SectSplitsUptoCardSaid : Prop := Claim7.holds Tryd.pinned (.plain (OpenSpec.upto sectSplitsSpec)) sectSplitsUptoCard

/-- THE SECOND FORM's CARD OF 'colloquylaw03.SectJoins'. -/
def sectJoinsUptoCard : Claim7 := { stood := { row := sectJoinsUptoRow, standIns := [], harness := (true, "bd720e42a12e4e79981035c35d597a6d8ec32d66676813cb2d9fb4c1fe3a021e"), looks := true }, kinds := [], alts := [], laidByText := true, laidKinds := [.handle], laidTests := true, laidLooks := .later }
def SectJoinsUptoCardSaid : Prop := Claim7.holds Tryd.pinned (.plain (OpenSpec.upto sectJoinsSpec)) sectJoinsUptoCard

/-- THE SECOND FORM's CARD OF 'colloquylaw03.SectBack'. -/
def sectBackUptoCard : Claim7 := { stood := { row := sectBackUptoRow, standIns := [], harness := (true, "bd720e42a12e4e79981035c35d597a6d8ec32d66676813cb2d9fb4c1fe3a021e"), looks := true }, kinds := [], alts := [], laidByText := true, laidKinds := [.handle], laidTests := true, laidLooks := .later }
def SectBackUptoCardSaid : Prop := Claim7.holds Tryd.pinned (.plain (OpenSpec.upto sectBackSpec)) sectBackUptoCard

/-- THE SECOND FORM's CARD OF 'colloquylaw03.SectCuts'. -/
def sectCutsUptoCard : Claim7 := { stood := { row := sectCutsUptoRow, standIns := [], harness := (true, "bd720e42a12e4e79981035c35d597a6d8ec32d66676813cb2d9fb4c1fe3a021e"), looks := true }, kinds := [], alts := [], laidByText := true, laidKinds := [.handle], laidTests := true, laidLooks := .later }
def SectCutsUptoCardSaid : Prop := Claim7.holds Tryd.pinned (.plain (OpenSpec.upto sectCutsSpec)) sectCutsUptoCard

/-- THE SECOND FORM's CARD OF 'colloquylaw03.SectKnown'. -/
def sectKnownUptoCard : Claim7 := { stood := { row := sectKnownUptoRow, standIns := [], harness := (true, "bd720e42a12e4e79981035c35d597a6d8ec32d66676813cb2d9fb4c1fe3a021e"), looks := true }, kinds := [], alts := [], laidByText := true, laidKinds := [.handle], laidTests := true, laidLooks := .later }
def SectKnownUptoCardSaid : Prop := Claim7.holds Tryd.pinned (.plain (OpenSpec.upto sectKnownSpec)) sectKnownUptoCard
end Rows
end Go.Proofs.YtjjfofifooailaaDoor

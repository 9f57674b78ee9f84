/-
  No cell of these rows narrows 'for every input' (looked for: loops, veiled, ifaces, maps, wideKeys, modest, calm, conditions, laid).
  DERIVED. THE GIVEN ROWS OF THIS SEAT. 4 by the template 'for every input the law returns true; each argument reads behind the call as it read before'; 0 by the template 'total and deterministic' (their statements: YtacjkkhignjmnaaTotals.lean).
  GIVEN WITH THE SEED: the statements are not yours to turn. If you find one false, say at which input.
  Laid BY PROGRAM, IN A SANDBOX (cutbox-rows.mjs): the forced cells as the released guide's own fill.sh prints them over the translation 20ec35240d8f3d85… (all of the seat's roots in one cut). By AI agents, Wed Nov 11 2026. No macro, syntax, notation, axiom, sorry.
-/
import Derived.Test.YtacjkkhignjmnaaChecked
import GoSem.Claim
import GoSem.ClaimJoined
import GoSem.ClaimMapViews
import Derived.JoinedTies
import Derived.KernelRfl
namespace Go.Proofs.Ytacjkkhignjmnaa
/- THE CELL 'sum', in the pinned program and in every row, IS THE sha256 OF THE DUMP (.gsa) THAT YtacjkkhignjmnaaProg.lean LOADS. Nothing in Lean hashes anything: it is a label: what it is worth is what the hold of that sum in a sandbox is worth. -/
noncomputable def Try.pinned : Pinned := { name := "ytacjkkhignjmnaa", sum := "20ec35240d8f3d857fa56c494c3cce576ac4b927c76f6778e8960adedf0e5ba4", checked := Try.checked }
namespace Rows
def none {H : Type} : Left H := { results := [], args := [] }

/-- 'colloquylaw06.DualTables': WHATEVER THE INPUT: true; the input reads as it did. -/
def dualTablesSpec : ChangeSpec := { name := "dualTables", fn := fun _ => fun
  | [d1, d2, d3] => { results := [.lit (.bool true)], args := [d1, d2, d3] }
  | _ => none }
def dualTablesRow : OpenClaim := { program := "ytacjkkhignjmnaa", sum := "20ec35240d8f3d857fa56c494c3cce576ac4b927c76f6778e8960adedf0e5ba4", func := "colloquy/colloquylaw06.DualTables", spec := "dualTables", unfollowed := true, recurses := true, apart := false }
def DualTablesSaid : Prop := dualTablesRow.holds Try.pinned (OpenSpec.ofChange dualTablesSpec)

/-- ITS FALSE NEIGHBOUR: 'it returns false'. Refute it at one input. -/
def dualTablesWrong : ChangeSpec := { name := "dualTables", fn := fun _ => fun
  | [d1, d2, d3] => { results := [.lit (.bool false)], args := [d1, d2, d3] }
  | _ => none }
def DualTablesWrongFalsely : Prop := dualTablesRow.holds Try.pinned (OpenSpec.ofChange dualTablesWrong)

/-- 'colloquylaw06.DualTwice': WHATEVER THE INPUT: true; the input reads as it did. -/
def dualTwiceSpec : ChangeSpec := { name := "dualTwice", fn := fun _ => fun
  | [d] => { results := [.lit (.bool true)], args := [d] }
  | _ => none }
def dualTwiceRow : OpenClaim := { program := "ytacjkkhignjmnaa", sum := "20ec35240d8f3d857fa56c494c3cce576ac4b927c76f6778e8960adedf0e5ba4", func := "colloquy/colloquylaw06.DualTwice", spec := "dualTwice", unfollowed := true, recurses := true, apart := false }
def DualTwiceSaid : Prop := dualTwiceRow.holds Try.pinned (OpenSpec.ofChange dualTwiceSpec)

/-- ITS FALSE NEIGHBOUR: 'it returns false'. Refute it at one input. -/
def dualTwiceWrong : ChangeSpec := { name := "dualTwice", fn := fun _ => fun
  | [d] => { results := [.lit (.bool false)], args := [d] }
  | _ => none }
def DualTwiceWrongFalsely : Prop := dualTwiceRow.holds Try.pinned (OpenSpec.ofChange dualTwiceWrong)

/-- 'colloquylaw06.DualWalks': WHATEVER THE INPUT: true; the input reads as it did. -/
def dualWalksSpec : ChangeSpec := { name := "dualWalks", fn := fun _ => fun
  | [d1, d2, d3] => { results := [.lit (.bool true)], args := [d1, d2, d3] }
  | _ => none }
def dualWalksRow : OpenClaim := { program := "ytacjkkhignjmnaa", sum := "20ec35240d8f3d857fa56c494c3cce576ac4b927c76f6778e8960adedf0e5ba4", func := "colloquy/colloquylaw06.DualWalks", spec := "dualWalks", unfollowed := true, recurses := true, apart := false }
def DualWalksSaid : Prop := dualWalksRow.holds Try.pinned (OpenSpec.ofChange dualWalksSpec)

/-- ITS FALSE NEIGHBOUR: 'it returns false'. Refute it at one input. -/
def dualWalksWrong : ChangeSpec := { name := "dualWalks", fn := fun _ => fun
  | [d1, d2, d3] => { results := [.lit (.bool false)], args := [d1, d2, d3] }
  | _ => none }
def DualWalksWrongFalsely : Prop := dualWalksRow.holds Try.pinned (OpenSpec.ofChange dualWalksWrong)

/-- 'colloquylaw06.DualKnown': WHATEVER THE INPUT: true; the input reads as it did. -/
def dualKnownSpec : ChangeSpec := { name := "dualKnown", fn := fun _ => fun
  | [] => { results := [.lit (.bool true)], args := [] }
  | _ => none }
def dualKnownRow : OpenClaim := { program := "ytacjkkhignjmnaa", sum := "20ec35240d8f3d857fa56c494c3cce576ac4b927c76f6778e8960adedf0e5ba4", func := "colloquy/colloquylaw06.DualKnown", spec := "dualKnown", unfollowed := true, recurses := true, apart := false }
def DualKnownSaid : Prop := dualKnownRow.holds Try.pinned (OpenSpec.ofChange dualKnownSpec)

/-- ITS FALSE NEIGHBOUR: 'it returns false'. Refute it at one input. -/
def dualKnownWrong : ChangeSpec := { name := "dualKnown", fn := fun _ => fun
  | [] => { results := [.lit (.bool false)], args := [] }
  | _ => none }
def DualKnownWrongFalsely : Prop := dualKnownRow.holds Try.pinned (OpenSpec.ofChange dualKnownWrong)

/- THE SECOND FORM. 'bulk': how many values and letters a reading holds, each counted each time it is reached (what is shared counts as often as it is met; a slice's spare places count too). A statement '..UptoSaid' is the law's where the arguments, and the package variables that the reading takes, are together of bulk at most 1048576: NARROWER than '..Said'. Prove '..Said' where nothing that the law and all that it calls make is longer than what came in: it says more and counts as full. Else prove '..UptoSaid'. A law counts once. -/
mutual
def uptoBulk {H : Type} : DataW H → Nat
  | .lit (.string bytes) => bytes.length + 1
  | .lit _ => 1
  | .nil => 1
  | .ptr d => uptoBulk d + 1
  | .slice elems spare => uptoBulkAll elems + uptoBulkAll spare + 1
  | .agg parts => uptoBulkAll parts + 1
  | .iface _ d => uptoBulk d + 1
  | .map entries => uptoBulkEntries entries + 1
  | .held _ => 1
def uptoBulkAll {H : Type} : List (DataW H) → Nat
  | [] => 0
  | d :: r => uptoBulk d + uptoBulkAll r
def uptoBulkEntries {H : Type} : List (Lit × DataW H) → Nat
  | [] => 0
  | x :: r => uptoBulkEntry x + uptoBulkEntries r
def uptoBulkEntry {H : Type} : Lit × DataW H → Nat
  | (.string bytes, d) => bytes.length + uptoBulk d + 1
  | (_, d) => uptoBulk d + 1
 end
def uptoSmall : (H : Type) → List (DataW H) → Bool := fun _ ds => decide (uptoBulkAll ds ≤ 1048576)
def OpenSpec.upto (s : _root_.Go.ChangeSpec) : _root_.Go.OpenSpec := { _root_.Go.OpenSpec.ofChange s with cond := some uptoSmall }

/-- 'colloquylaw06.DualTables', WHERE WHAT IT READS IS OF BULK AT MOST 1048576: true; the input reads as it did. -/
def dualTablesUptoRow : OpenClaim := { program := "ytacjkkhignjmnaa", sum := "20ec35240d8f3d857fa56c494c3cce576ac4b927c76f6778e8960adedf0e5ba4", func := "colloquy/colloquylaw06.DualTables", spec := "dualTables", unfollowed := true, recurses := true, apart := false, narrowed := true }
def DualTablesUptoSaid : Prop := dualTablesUptoRow.holds Try.pinned (OpenSpec.upto dualTablesSpec)

/-- 'colloquylaw06.DualTwice', WHERE WHAT IT READS IS OF BULK AT MOST 1048576: true; the input reads as it did. -/
def dualTwiceUptoRow : OpenClaim := { program := "ytacjkkhignjmnaa", sum := "20ec35240d8f3d857fa56c494c3cce576ac4b927c76f6778e8960adedf0e5ba4", func := "colloquy/colloquylaw06.DualTwice", spec := "dualTwice", unfollowed := true, recurses := true, apart := false, narrowed := true }
def DualTwiceUptoSaid : Prop := dualTwiceUptoRow.holds Try.pinned (OpenSpec.upto dualTwiceSpec)

/-- 'colloquylaw06.DualWalks', WHERE WHAT IT READS IS OF BULK AT MOST 1048576: true; the input reads as it did. -/
def dualWalksUptoRow : OpenClaim := { program := "ytacjkkhignjmnaa", sum := "20ec35240d8f3d857fa56c494c3cce576ac4b927c76f6778e8960adedf0e5ba4", func := "colloquy/colloquylaw06.DualWalks", spec := "dualWalks", unfollowed := true, recurses := true, apart := false, narrowed := true }
def DualWalksUptoSaid : Prop := dualWalksUptoRow.holds Try.pinned (OpenSpec.upto dualWalksSpec)

/-- 'colloquylaw06.DualKnown', WHERE WHAT IT READS IS OF BULK AT MOST 1048576: true; the input reads as it did. -/
def dualKnownUptoRow : OpenClaim := { program := "ytacjkkhignjmnaa", sum := "20ec35240d8f3d857fa56c494c3cce576ac4b927c76f6778e8960adedf0e5ba4", func := "colloquy/colloquylaw06.DualKnown", spec := "dualKnown", unfollowed := true, recurses := true, apart := false, narrowed := true }
def DualKnownUptoSaid : Prop := dualKnownUptoRow.holds Try.pinned (OpenSpec.upto dualKnownSpec)

end Rows
end Go.Proofs.Ytacjkkhignjmnaa

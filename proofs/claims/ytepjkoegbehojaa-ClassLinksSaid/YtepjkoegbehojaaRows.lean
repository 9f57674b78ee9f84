/-
  No cell of these rows narrows 'for every input' (looked for: loops, veiled, ifaces, maps, wideKeys, modest, calm, conditions, laid).
  DERIVED. THE GIVEN ROWS OF THIS SEAT. 5 by the template 'for every input the law returns true; each argument reads behind the call as it read before'; 0 by the template 'total and deterministic' (their statements: YtepjkoegbehojaaTotals.lean).
  GIVEN WITH THE SEED: the statements are not yours to turn. If you find one false, say at which input.
  Laid BY PROGRAM, IN A SANDBOX (cutbox-rows.mjs): the forced cells as the released guide's own fill.sh prints them over the translation 294e29f0b2d81daa… (all of the seat's roots in one cut). By AI agents, Wed Nov 11 2026. No macro, syntax, notation, axiom, sorry.
-/
import Derived.Test.YtepjkoegbehojaaChecked
import GoSem.Claim
import GoSem.ClaimJoined
import GoSem.ClaimMapViews
import Derived.JoinedTies
import Derived.KernelRfl
namespace Go.Proofs.Ytepjkoegbehojaa
/- THE CELL 'sum', in the pinned program and in every row, IS THE sha256 OF THE DUMP (.gsa) THAT YtepjkoegbehojaaProg.lean LOADS. Nothing in Lean hashes anything: it is a label: what it is worth is what the hold of that sum in a sandbox is worth. -/
noncomputable def Try.pinned : Pinned := { name := "ytepjkoegbehojaa", sum := "294e29f0b2d81daa946a426bc1b559f983adc00a2c0238ca98269f921def4738", checked := Try.checked }
namespace Rows
def none {H : Type} : Left H := { results := [], args := [] }

/-- 'colloquylaw07.ClassTables': WHATEVER THE INPUT: true; the input reads as it did. -/
def classTablesSpec : ChangeSpec := { name := "classTables", fn := fun _ => fun
  | [d] => { results := [.lit (.bool true)], args := [d] }
  | _ => none }
def classTablesRow : OpenClaim := { program := "ytepjkoegbehojaa", sum := "294e29f0b2d81daa946a426bc1b559f983adc00a2c0238ca98269f921def4738", func := "colloquy/colloquylaw07.ClassTables", spec := "classTables", unfollowed := true, recurses := true, plainKeys := false, apart := false }
def ClassTablesSaid : Prop := classTablesRow.holds Try.pinned (OpenSpec.ofChange classTablesSpec)

/-- ITS FALSE NEIGHBOUR: 'it returns false'. Refute it at one input. -/
def classTablesWrong : ChangeSpec := { name := "classTables", fn := fun _ => fun
  | [d] => { results := [.lit (.bool false)], args := [d] }
  | _ => none }
def ClassTablesWrongFalsely : Prop := classTablesRow.holds Try.pinned (OpenSpec.ofChange classTablesWrong)

/-- 'colloquylaw07.ClassGoes': WHATEVER THE INPUT: true; the input reads as it did. -/
def classGoesSpec : ChangeSpec := { name := "classGoes", fn := fun _ => fun
  | [d1, d2, d3] => { results := [.lit (.bool true)], args := [d1, d2, d3] }
  | _ => none }
def classGoesRow : OpenClaim := { program := "ytepjkoegbehojaa", sum := "294e29f0b2d81daa946a426bc1b559f983adc00a2c0238ca98269f921def4738", func := "colloquy/colloquylaw07.ClassGoes", spec := "classGoes", unfollowed := true, recurses := true, plainKeys := false, apart := false }
def ClassGoesSaid : Prop := classGoesRow.holds Try.pinned (OpenSpec.ofChange classGoesSpec)

/-- ITS FALSE NEIGHBOUR: 'it returns false'. Refute it at one input. -/
def classGoesWrong : ChangeSpec := { name := "classGoes", fn := fun _ => fun
  | [d1, d2, d3] => { results := [.lit (.bool false)], args := [d1, d2, d3] }
  | _ => none }
def ClassGoesWrongFalsely : Prop := classGoesRow.holds Try.pinned (OpenSpec.ofChange classGoesWrong)

/-- 'colloquylaw07.ClassApart': WHATEVER THE INPUT: true; the input reads as it did. -/
def classApartSpec : ChangeSpec := { name := "classApart", fn := fun _ => fun
  | [d1, d2, d3] => { results := [.lit (.bool true)], args := [d1, d2, d3] }
  | _ => none }
def classApartRow : OpenClaim := { program := "ytepjkoegbehojaa", sum := "294e29f0b2d81daa946a426bc1b559f983adc00a2c0238ca98269f921def4738", func := "colloquy/colloquylaw07.ClassApart", spec := "classApart", unfollowed := true, recurses := true, plainKeys := false, apart := false }
def ClassApartSaid : Prop := classApartRow.holds Try.pinned (OpenSpec.ofChange classApartSpec)

/-- ITS FALSE NEIGHBOUR: 'it returns false'. Refute it at one input. -/
def classApartWrong : ChangeSpec := { name := "classApart", fn := fun _ => fun
  | [d1, d2, d3] => { results := [.lit (.bool false)], args := [d1, d2, d3] }
  | _ => none }
def ClassApartWrongFalsely : Prop := classApartRow.holds Try.pinned (OpenSpec.ofChange classApartWrong)

/-- 'colloquylaw07.ClassLinks': WHATEVER THE INPUT: true; the input reads as it did. -/
def classLinksSpec : ChangeSpec := { name := "classLinks", fn := fun _ => fun
  | [d1, d2] => { results := [.lit (.bool true)], args := [d1, d2] }
  | _ => none }
def classLinksRow : OpenClaim := { program := "ytepjkoegbehojaa", sum := "294e29f0b2d81daa946a426bc1b559f983adc00a2c0238ca98269f921def4738", func := "colloquy/colloquylaw07.ClassLinks", spec := "classLinks", unfollowed := true, recurses := true, plainKeys := false, apart := false }
def ClassLinksSaid : Prop := classLinksRow.holds Try.pinned (OpenSpec.ofChange classLinksSpec)

/-- ITS FALSE NEIGHBOUR: 'it returns false'. Refute it at one input. -/
def classLinksWrong : ChangeSpec := { name := "classLinks", fn := fun _ => fun
  | [d1, d2] => { results := [.lit (.bool false)], args := [d1, d2] }
  | _ => none }
def ClassLinksWrongFalsely : Prop := classLinksRow.holds Try.pinned (OpenSpec.ofChange classLinksWrong)

/-- 'colloquylaw07.ClassKnown': WHATEVER THE INPUT: true; the input reads as it did. -/
def classKnownSpec : ChangeSpec := { name := "classKnown", fn := fun _ => fun
  | [] => { results := [.lit (.bool true)], args := [] }
  | _ => none }
def classKnownRow : OpenClaim := { program := "ytepjkoegbehojaa", sum := "294e29f0b2d81daa946a426bc1b559f983adc00a2c0238ca98269f921def4738", func := "colloquy/colloquylaw07.ClassKnown", spec := "classKnown", unfollowed := true, recurses := true, plainKeys := false, apart := false }
def ClassKnownSaid : Prop := classKnownRow.holds Try.pinned (OpenSpec.ofChange classKnownSpec)

/-- ITS FALSE NEIGHBOUR: 'it returns false'. Refute it at one input. -/
def classKnownWrong : ChangeSpec := { name := "classKnown", fn := fun _ => fun
  | [] => { results := [.lit (.bool false)], args := [] }
  | _ => none }
def ClassKnownWrongFalsely : Prop := classKnownRow.holds Try.pinned (OpenSpec.ofChange classKnownWrong)

/- THE SECOND FORM. 'bulk': how many values and letters a reading holds, each counted each time it is reached (what is shared counts as often as it is met; a slice's spare places count too). A statement '..UptoSaid' is the law's where the arguments, and the package variables that the reading takes, are together of bulk at most 1048576: NARROWER than '..Said'. Prove '..Said' where nothing that the law and all that it calls make is longer than what came in: it says more and counts as full. Else prove '..UptoSaid'. A law counts once. -/
mutual
def uptoBulk {H : Type} : DataW H → Nat
  | .lit (.string bytes) => bytes.length + 1
  | .lit _ => 1
  | .nil => 1
  | .ptr d => uptoBulk d + 1
  | .slice elems spare => uptoBulkAll elems + uptoBulkAll spare + 1
  | .agg parts => uptoBulkAll parts + 1
  | .iface _ d => uptoBulk d + 1
  | .map entries => uptoBulkEntries entries + 1
  | .held _ => 1
def uptoBulkAll {H : Type} : List (DataW H) → Nat
  | [] => 0
  | d :: r => uptoBulk d + uptoBulkAll r
def uptoBulkEntries {H : Type} : List (Lit × DataW H) → Nat
  | [] => 0
  | x :: r => uptoBulkEntry x + uptoBulkEntries r
def uptoBulkEntry {H : Type} : Lit × DataW H → Nat
  | (.string bytes, d) => bytes.length + uptoBulk d + 1
  | (_, d) => uptoBulk d + 1
 end
def uptoSmall : (H : Type) → List (DataW H) → Bool := fun _ ds => decide (uptoBulkAll ds ≤ 1048576)
def OpenSpec.upto (s : _root_.Go.ChangeSpec) : _root_.Go.OpenSpec := { _root_.Go.OpenSpec.ofChange s with cond := some uptoSmall }

/-- 'colloquylaw07.ClassTables', WHERE WHAT IT READS IS OF BULK AT MOST 1048576: true; the input reads as it did. -/
def classTablesUptoRow : OpenClaim := { program := "ytepjkoegbehojaa", sum := "294e29f0b2d81daa946a426bc1b559f983adc00a2c0238ca98269f921def4738", func := "colloquy/colloquylaw07.ClassTables", spec := "classTables", unfollowed := true, recurses := true, plainKeys := false, apart := false, narrowed := true }
def ClassTablesUptoSaid : Prop := classTablesUptoRow.holds Try.pinned (OpenSpec.upto classTablesSpec)

/-- 'colloquylaw07.ClassGoes', WHERE WHAT IT READS IS OF BULK AT MOST 1048576: true; the input reads as it did. -/
def classGoesUptoRow : OpenClaim := { program := "ytepjkoegbehojaa", sum := "294e29f0b2d81daa946a426bc1b559f983adc00a2c0238ca98269f921def4738", func := "colloquy/colloquylaw07.ClassGoes", spec := "classGoes", unfollowed := true, recurses := true, plainKeys := false, apart := false, narrowed := true }
def ClassGoesUptoSaid : Prop := classGoesUptoRow.holds Try.pinned (OpenSpec.upto classGoesSpec)

/-- 'colloquylaw07.ClassApart', WHERE WHAT IT READS IS OF BULK AT MOST 1048576: true; the input reads as it did. -/
def classApartUptoRow : OpenClaim := { program := "ytepjkoegbehojaa", sum := "294e29f0b2d81daa946a426bc1b559f983adc00a2c0238ca98269f921def4738", func := "colloquy/colloquylaw07.ClassApart", spec := "classApart", unfollowed := true, recurses := true, plainKeys := false, apart := false, narrowed := true }
def ClassApartUptoSaid : Prop := classApartUptoRow.holds Try.pinned (OpenSpec.upto classApartSpec)

/-- 'colloquylaw07.ClassLinks', WHERE WHAT IT READS IS OF BULK AT MOST 1048576: true; the input reads as it did. -/
def classLinksUptoRow : OpenClaim := { program := "ytepjkoegbehojaa", sum := "294e29f0b2d81daa946a426bc1b559f983adc00a2c0238ca98269f921def4738", func := "colloquy/colloquylaw07.ClassLinks", spec := "classLinks", unfollowed := true, recurses := true, plainKeys := false, apart := false, narrowed := true }
def ClassLinksUptoSaid : Prop := classLinksUptoRow.holds Try.pinned (OpenSpec.upto classLinksSpec)

/-- 'colloquylaw07.ClassKnown', WHERE WHAT IT READS IS OF BULK AT MOST 1048576: true; the input reads as it did. -/
def classKnownUptoRow : OpenClaim := { program := "ytepjkoegbehojaa", sum := "294e29f0b2d81daa946a426bc1b559f983adc00a2c0238ca98269f921def4738", func := "colloquy/colloquylaw07.ClassKnown", spec := "classKnown", unfollowed := true, recurses := true, plainKeys := false, apart := false, narrowed := true }
def ClassKnownUptoSaid : Prop := classKnownUptoRow.holds Try.pinned (OpenSpec.upto classKnownSpec)

end Rows
end Go.Proofs.Ytepjkoegbehojaa

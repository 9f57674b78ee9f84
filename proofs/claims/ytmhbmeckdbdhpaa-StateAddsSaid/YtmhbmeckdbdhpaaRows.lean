/-
  No cell of these rows narrows 'for every input' (looked for: loops, veiled, ifaces, maps, wideKeys, modest, calm, conditions, laid).
  DERIVED. THE GIVEN ROWS OF THIS SEAT. 3 by the template 'for every input the law returns true; each argument reads behind the call as it read before'; 0 by the template 'total and deterministic' (their statements: YtmhbmeckdbdhpaaTotals.lean).
  GIVEN WITH THE SEED: the statements are not yours to turn. If you find one false, say at which input.
  Laid BY PROGRAM, IN A SANDBOX (cutbox-rows.mjs): the forced cells as the released guide's own fill.sh prints them over the translation 50efea1c6ef69eea… (all of the seat's roots in one cut). By AI agents, Wed Nov 11 2026. No macro, syntax, notation, axiom, sorry.
-/
import Derived.Test.YtmhbmeckdbdhpaaChecked
import GoSem.Claim
import GoSem.ClaimJoined
import GoSem.ClaimMapViews
import Derived.JoinedTies
import Derived.KernelRfl
namespace Go.Proofs.Ytmhbmeckdbdhpaa
/- THE CELL 'sum', in the pinned program and in every row, IS THE sha256 OF THE DUMP (.gsa) THAT YtmhbmeckdbdhpaaProg.lean LOADS. Nothing in Lean hashes anything: it is a label: what it is worth is what the hold of that sum in a sandbox is worth. -/
noncomputable def Try.pinned : Pinned := { name := "ytmhbmeckdbdhpaa", sum := "50efea1c6ef69eea188981c5654f774c379c900b646f2b2a6bdf1316a255b96a", checked := Try.checked }
namespace Rows
def none {H : Type} : Left H := { results := [], args := [] }

/-- 'colloquylaw13.StateFacts': WHATEVER THE INPUT: true; the input reads as it did. -/
def stateFactsSpec : ChangeSpec := { name := "stateFacts", fn := fun _ => fun
  | [d1, d2] => { results := [.lit (.bool true)], args := [d1, d2] }
  | _ => none }
def stateFactsRow : OpenClaim := { program := "ytmhbmeckdbdhpaa", sum := "50efea1c6ef69eea188981c5654f774c379c900b646f2b2a6bdf1316a255b96a", func := "colloquy/colloquylaw13.StateFacts", spec := "stateFacts", unfollowed := true, recurses := true, plainKeys := false, apart := false }
def StateFactsSaid : Prop := stateFactsRow.holds Try.pinned (OpenSpec.ofChange stateFactsSpec)

/-- ITS FALSE NEIGHBOUR: 'it returns false'. Refute it at one input. -/
def stateFactsWrong : ChangeSpec := { name := "stateFacts", fn := fun _ => fun
  | [d1, d2] => { results := [.lit (.bool false)], args := [d1, d2] }
  | _ => none }
def StateFactsWrongFalsely : Prop := stateFactsRow.holds Try.pinned (OpenSpec.ofChange stateFactsWrong)

/-- 'colloquylaw13.StateAdds': WHATEVER THE INPUT: true; the input reads as it did. -/
def stateAddsSpec : ChangeSpec := { name := "stateAdds", fn := fun _ => fun
  | [d1, d2, d3] => { results := [.lit (.bool true)], args := [d1, d2, d3] }
  | _ => none }
def stateAddsRow : OpenClaim := { program := "ytmhbmeckdbdhpaa", sum := "50efea1c6ef69eea188981c5654f774c379c900b646f2b2a6bdf1316a255b96a", func := "colloquy/colloquylaw13.StateAdds", spec := "stateAdds", unfollowed := true, recurses := true, plainKeys := false, apart := false }
def StateAddsSaid : Prop := stateAddsRow.holds Try.pinned (OpenSpec.ofChange stateAddsSpec)

/-- ITS FALSE NEIGHBOUR: 'it returns false'. Refute it at one input. -/
def stateAddsWrong : ChangeSpec := { name := "stateAdds", fn := fun _ => fun
  | [d1, d2, d3] => { results := [.lit (.bool false)], args := [d1, d2, d3] }
  | _ => none }
def StateAddsWrongFalsely : Prop := stateAddsRow.holds Try.pinned (OpenSpec.ofChange stateAddsWrong)

/-- 'colloquylaw13.StateKnown': WHATEVER THE INPUT: true; the input reads as it did. -/
def stateKnownSpec : ChangeSpec := { name := "stateKnown", fn := fun _ => fun
  | [] => { results := [.lit (.bool true)], args := [] }
  | _ => none }
def stateKnownRow : OpenClaim := { program := "ytmhbmeckdbdhpaa", sum := "50efea1c6ef69eea188981c5654f774c379c900b646f2b2a6bdf1316a255b96a", func := "colloquy/colloquylaw13.StateKnown", spec := "stateKnown", unfollowed := true, recurses := true, plainKeys := false, apart := false }
def StateKnownSaid : Prop := stateKnownRow.holds Try.pinned (OpenSpec.ofChange stateKnownSpec)

/-- ITS FALSE NEIGHBOUR: 'it returns false'. Refute it at one input. -/
def stateKnownWrong : ChangeSpec := { name := "stateKnown", fn := fun _ => fun
  | [] => { results := [.lit (.bool false)], args := [] }
  | _ => none }
def StateKnownWrongFalsely : Prop := stateKnownRow.holds Try.pinned (OpenSpec.ofChange stateKnownWrong)

/- THE SECOND FORM. 'bulk': how many values and letters a reading holds, each counted each time it is reached (what is shared counts as often as it is met; a slice's spare places count too). A statement '..UptoSaid' is the law's where the arguments, and the package variables that the reading takes, are together of bulk at most 1048576: NARROWER than '..Said'. Prove '..Said' where nothing that the law and all that it calls make is longer than what came in: it says more and counts as full. Else prove '..UptoSaid'. A law counts once. -/
mutual
def uptoBulk {H : Type} : DataW H → Nat
  | .lit (.string bytes) => bytes.length + 1
  | .lit _ => 1
  | .nil => 1
  | .ptr d => uptoBulk d + 1
  | .slice elems spare => uptoBulkAll elems + uptoBulkAll spare + 1
  | .agg parts => uptoBulkAll parts + 1
  | .iface _ d => uptoBulk d + 1
  | .map entries => uptoBulkEntries entries + 1
  | .held _ => 1
def uptoBulkAll {H : Type} : List (DataW H) → Nat
  | [] => 0
  | d :: r => uptoBulk d + uptoBulkAll r
def uptoBulkEntries {H : Type} : List (Lit × DataW H) → Nat
  | [] => 0
  | x :: r => uptoBulkEntry x + uptoBulkEntries r
def uptoBulkEntry {H : Type} : Lit × DataW H → Nat
  | (.string bytes, d) => bytes.length + uptoBulk d + 1
  | (_, d) => uptoBulk d + 1
 end
def uptoSmall : (H : Type) → List (DataW H) → Bool := fun _ ds => decide (uptoBulkAll ds ≤ 1048576)
def OpenSpec.upto (s : _root_.Go.ChangeSpec) : _root_.Go.OpenSpec := { _root_.Go.OpenSpec.ofChange s with cond := some uptoSmall }

/-- 'colloquylaw13.StateFacts', WHERE WHAT IT READS IS OF BULK AT MOST 1048576: true; the input reads as it did. -/
def stateFactsUptoRow : OpenClaim := { program := "ytmhbmeckdbdhpaa", sum := "50efea1c6ef69eea188981c5654f774c379c900b646f2b2a6bdf1316a255b96a", func := "colloquy/colloquylaw13.StateFacts", spec := "stateFacts", unfollowed := true, recurses := true, plainKeys := false, apart := false, narrowed := true }
def StateFactsUptoSaid : Prop := stateFactsUptoRow.holds Try.pinned (OpenSpec.upto stateFactsSpec)

/-- 'colloquylaw13.StateAdds', WHERE WHAT IT READS IS OF BULK AT MOST 1048576: true; the input reads as it did. -/
def stateAddsUptoRow : OpenClaim := { program := "ytmhbmeckdbdhpaa", sum := "50efea1c6ef69eea188981c5654f774c379c900b646f2b2a6bdf1316a255b96a", func := "colloquy/colloquylaw13.StateAdds", spec := "stateAdds", unfollowed := true, recurses := true, plainKeys := false, apart := false, narrowed := true }
def StateAddsUptoSaid : Prop := stateAddsUptoRow.holds Try.pinned (OpenSpec.upto stateAddsSpec)

/-- 'colloquylaw13.StateKnown', WHERE WHAT IT READS IS OF BULK AT MOST 1048576: true; the input reads as it did. -/
def stateKnownUptoRow : OpenClaim := { program := "ytmhbmeckdbdhpaa", sum := "50efea1c6ef69eea188981c5654f774c379c900b646f2b2a6bdf1316a255b96a", func := "colloquy/colloquylaw13.StateKnown", spec := "stateKnown", unfollowed := true, recurses := true, plainKeys := false, apart := false, narrowed := true }
def StateKnownUptoSaid : Prop := stateKnownUptoRow.holds Try.pinned (OpenSpec.upto stateKnownSpec)

end Rows
end Go.Proofs.Ytmhbmeckdbdhpaa

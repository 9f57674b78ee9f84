/- For the rows of a seat whose rows list three tables of the library: what its walks need of them, and a world that meets the condition. -/
import Derived.Test.YtoklaajiajilhaaDoorRows
import Derived.Test.YtoklaajiajilhaaDoorVFtx
import Derived.Test.YtoklaajiajilhaaDoorGOpen
import Derived.ChangeSame
import Derived.ChangeVars
import Derived.JoinedOf
import Derived.RowKit
import Derived.RowKitTokens
import Derived.LaidLaws
import Derived.LaidHandle
import Derived.Stop.LaidErr
import Derived.Lib.LaidTab
import Derived.ProofKit
namespace Go.Proofs.YtoklaajiajilhaaDoor
open Go.ChangeShapes Go.WideShapes Go.RowKit

abbrev laidU : List (String × DataW Unit) := Rows.unfoldEqualsRow.laid
theorem laid_plain {W : World} (h : laidMetH Tryd.prog laidU W) : laidMet Tryd.prog laidU W := by
  have e : (laidU.filter fun x => x.2.handleName?.isSome) = [] := by kernel_rfl
  unfold laidMetH at h
  rw [e] at h
  exact h
theorem tabL_of_laid {W : World} (h : laidMetH Tryd.prog laidU W) : TabL W := by
  have h3 : laidMet Tryd.prog [(powN, Lib.tabData .u64 Lib.pow10Tab)] W := laidMet.tail (laidMet.tail (laid_plain h))
  exact Lib.tabIs_of_head (g := 0) (by kernel_rfl) (by kernel_rfl) Tryd.underlying94 Tryd.underlying84 (by kernel_rfl) (by kernel_rfl) h3

/-- A table's cells. -/
def litV : DataW Unit → Value
  | .lit (.int k z) => .int k z
  | _ => .bool false
def aggV : DataW Unit → Array Value
  | .agg xs => (xs.map litV).toArray
  | _ => #[]
/-- A world that meets the condition: the settled one, the three tables laid. -/
noncomputable def laidWorldU (os : Os) : World :=
  let w0 := World.holding Tryd.prog os ⟨#[], #[], []⟩
  { w0 with heap := ((w0.heap.modify 2 fun
      | .cells _ t frozen => .cells (aggV Rows.laid_math_bits_deBruijn32tab) t frozen
      | o => o).modify 3 fun
      | .cells _ t frozen => .cells (aggV Rows.laid_math_bits_deBruijn64tab) t frozen
      | o => o).modify 0 fun
      | .cells _ t frozen => .cells (aggV Rows.laid_internal_strconv_uint64pow10) t frozen
      | o => o }
theorem laidWorldU_met (os : Os) (args : Array Value) : laidMetH Tryd.prog laidU ((laidWorldU os).forCall (fun _ _ => 0) ⟨#[], args, []⟩).memory :=
  laidMetH_of_parts (laidMet_of_run' 8 (by kernel_rfl) (by kernel_rfl)) (by kernel_rfl)
end Go.Proofs.YtoklaajiajilhaaDoor

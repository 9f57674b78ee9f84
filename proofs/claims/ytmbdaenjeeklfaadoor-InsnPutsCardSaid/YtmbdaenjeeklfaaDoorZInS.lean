/- What single operations on texts and numbers answer, in a region that draws its order (stage 9). No walk. -/
import Derived.Test.YtmbdaenjeeklfaaDoorZInO
namespace Go.Proofs.YtmbdaenjeeklfaaDoor
open Go.RowKit

section
variable {vals : List (Tmp × Value)} {w : World} {o : Oper}
theorem ov_cat_t {s i : Tmp} {T U : ByteArray} {ty : TypeId} (ho : o.op = .binOp .add 9 (.tmp s) (.tmp i) ty) (h0 : vals.lookup s = some (.string T)) (h1 : vals.lookup i = some (.string U)) (hl : T.size + U.size ≤ 9223372036854775807) : OpVal Tryd.prog o vals w (.string (T ++ U)) := fun b' W hg hr => by
  have e0 := hr s _ (by rw [ho]; simp [Op.operands]) h0
  have e1 := hr i _ (by rw [ho]; simp [Op.operands]) h1
  have hcc : ¬ (9223372036854775807 < (T.size : Int) + (U.size : Int)) := by omega
  have hcc2 : ¬ (IntKind.i64.max < (T.size : Int) + (U.size : Int)) := hcc
  obtain ⟨dst, op, type, pos, after, guard⟩ := o
  dsimp only at ho
  subst ho
  refine .inl ?_
  simp only [execOp, e0, e1]
  go_simp
theorem ov_conv64 {t : Tmp} {p : Int} (ho : o.op = .convert 3 79 (.tmp t)) (h : vals.lookup t = some (.int .i64 p)) (hp : IntKind.u64.wrap p = p) : OpVal Tryd.prog o vals w (.int .u64 p) := fun b W hg hr => by
  have he := hr t _ (by rw [ho]; simp [Op.operands]) h
  obtain ⟨dst, op, type, pos, after, guard⟩ := o
  dsimp only at ho
  subst ho
  refine .inl ?_
  simp only [execOp, he]
  go_simp
theorem ov_fld_insn {t : Tmp} {g off k : Nat} (hk : k < 6) (ho : o.op = .fieldAddr 24 (.tmp t) k) (h0 : vals.lookup t = some (.pointer (some ⟨g, off, none⟩))) : OpVal Tryd.prog o vals w (.pointer (some ⟨g, off + k, none⟩)) := fun b' W hg hr => by
  have e0 := hr t _ (by rw [ho]; simp [Op.operands]) h0
  obtain ⟨dst, op, type, pos, after, guard⟩ := o
  dsimp only at ho
  subst ho
  refine .inl ?_
  rcases (by omega : k = 0 ∨ k = 1 ∨ k = 2 ∨ k = 3 ∨ k = 4 ∨ k = 5) with rfl | rfl | rfl | rfl | rfl | rfl <;> (simp only [execOp, e0]; go_simp)
theorem ov_eql_text {s i : Tmp} {T : ByteArray} {ty : TypeId} (ho : o.op = .binOp .eql 9 (.tmp s) (.tmp i) ty) (h0 : vals.lookup s = some (.string T)) (h1 : vals.lookup i = some (.string T)) : OpVal Tryd.prog o vals w (.bool true) := fun b' W hg hr => by
  have e0 := hr s _ (by rw [ho]; simp [Op.operands]) h0
  have e1 := hr i _ (by rw [ho]; simp [Op.operands]) h1
  obtain ⟨dst, op, type, pos, after, guard⟩ := o
  dsimp only at ho
  subst ho
  refine .inl ?_
  simp only [execOp, e0, e1]
  go_simp
end
end Go.Proofs.YtmbdaenjeeklfaaDoor

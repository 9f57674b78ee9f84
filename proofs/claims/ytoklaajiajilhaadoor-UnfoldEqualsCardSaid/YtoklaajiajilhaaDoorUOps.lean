/- What single operations of stage 8 answer, in a region that draws its order. No walk. -/
import Derived.Test.YtoklaajiajilhaaDoorOvt
namespace Go.Proofs.YtoklaajiajilhaaDoor
open Go.RowKit

section
variable {vals : List (Tmp × Value)} {w : World} {o : Oper}
theorem ov_build_type {s i : Tmp} {a c : Int} (ho : o.op = .build 24 #[(0, .tmp s), (1, .tmp i)]) (h0 : vals.lookup s = some (.int .i64 a)) (h1 : vals.lookup i = some (.int .i64 c)) : OpVal Tryd.prog o vals w (.agg #[.int .i64 a, .int .i64 c]) := fun b' W hg hr => by
  have e0 := hr s _ (by rw [ho]; simp [Op.operands]) h0
  have e1 := hr i _ (by rw [ho]; simp [Op.operands]) h1
  obtain ⟨dst, op, type, pos, after, guard⟩ := o
  dsimp only at ho
  subst ho
  refine .inl ?_
  have hb : (Instr.build 24 #[(0, .int .i64 a), (1, .int .i64 c)]).run Tryd.prog W = .ok (.agg #[.int .i64 a, .int .i64 c]) W := run_build W _ _ _ (by kernel_rfl)
  generalize b'.eval = ev at e0 e1 ⊢
  simp [execOp, e0, e1, hb]
theorem ov_not {t : Tmp} {a c : Bool} {ty : TypeId} (ho : o.op = .unOp .not ty (.tmp t)) (h0 : vals.lookup t = some (.bool a)) (hb : (!a) = c) : OpVal Tryd.prog o vals w (.bool c) := fun b' W hg hr => by
  have e0 := hr t _ (by rw [ho]; simp [Op.operands]) h0
  obtain ⟨dst, op, type, pos, after, guard⟩ := o
  dsimp only at ho
  subst ho
  subst hb
  refine .inl ?_
  simp only [execOp, e0]
  go_simp
theorem ov_add_w {s i : Tmp} {a c : Int} {ty : TypeId} (ho : o.op = .binOp .add 3 (.tmp s) (.tmp i) ty) (h0 : vals.lookup s = some (.int .i64 a)) (h1 : vals.lookup i = some (.int .i64 c)) : OpVal Tryd.prog o vals w (.int .i64 (wrap64 (a + c))) := fun b' W hg hr => by
  have e0 := hr s _ (by rw [ho]; simp [Op.operands]) h0
  have e1 := hr i _ (by rw [ho]; simp [Op.operands]) h1
  obtain ⟨dst, op, type, pos, after, guard⟩ := o
  dsimp only at ho
  subst ho
  refine .inl ?_
  simp only [execOp, e0, e1]
  go_simp
  unfold wrap64
  exact IntKind.wrap_i64 _
end
/-- Two boxes that a region made. -/
def BoxesB (W0 : World) (t : TypeId) (cs ds : Array Value) (x y : Value) (W : World) : Prop := ∃ Bx By, x = .pointer (some ⟨Bx, 0, none⟩) ∧ y = .pointer (some ⟨By, 0, none⟩) ∧ Bx ≠ By ∧ Blk W Bx t cs ∧ Blk W By t ds ∧ W0.grownBy W none
end Go.Proofs.YtoklaajiajilhaaDoor

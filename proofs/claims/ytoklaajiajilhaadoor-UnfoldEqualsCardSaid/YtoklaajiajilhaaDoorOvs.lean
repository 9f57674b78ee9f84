/- What more single operations answer, in a region that draws its order. No walk. -/
import Derived.Test.YtoklaajiajilhaaDoorGrd
namespace Go.Proofs.YtoklaajiajilhaaDoor
open Go.RowKit

section
variable {vals : List (Tmp × Value)} {w : World} {o : Oper}
theorem ov_eql_bool {s i : Tmp} {a c : Bool} {b : Bool} {ty : TypeId} (ho : o.op = .binOp .eql 4 (.tmp s) (.tmp i) ty) (hs : vals.lookup s = some (.bool a)) (hi : vals.lookup i = some (.bool c)) (hb : (a == c) = b) : OpVal Tryd.prog o vals w (.bool b) := fun b' W hg hr => by
  have he := hr s _ (by rw [ho]; simp [Op.operands]) hs
  have hf := hr i _ (by rw [ho]; simp [Op.operands]) hi
  obtain ⟨dst, op, type, pos, after, guard⟩ := o
  dsimp only at ho
  subst ho
  subst hb
  refine .inl ?_
  simp only [execOp, he, hf]
  cases a <;> cases c <;> go_simp
theorem ov_assign {t : Tmp} {c : Value} (ho : o.op = .assign (.tmp t)) (hv : vals.lookup t = some c) : OpVal Tryd.prog o vals w c := fun b W _ hr => by
  have e := hr t c (by rw [ho]; simp [Op.operands]) hv
  obtain ⟨dst, op, type, pos, after, guard⟩ := o
  dsimp only at ho
  subst ho
  exact .inl (by simp only [execOp, e, Sem.run_pure])
/-- A call of three arguments and a constant one. -/
theorem ov_call3c {f : FuncId} {t1 t2 t3 : Tmp} {c1 c2 c3 c4 r : Value} {ts : Array TypeId} (ho : o.op = .call { callee := .value (.func f), args := #[.tmp t1, .tmp t2, .tmp t3, .const c4], argTypes := ts }) (h1 : vals.lookup t1 = some c1) (h2 : vals.lookup t2 = some c2) (h3 : vals.lookup t3 = some c3) (hrun : ∀ W, (callFunc f #[c1, c2, c3, c4]).run Tryd.prog W = .ok (.enter f #[c1, c2, c3, c4]) W)
    (hc : ∀ W, w.grownBy W none → Calls Tryd.prog f #[c1, c2, c3, c4] W fun e w'' => e = .returned r ∧ W.grownBy w'' none) : OpVal Tryd.prog o vals w r := fun b W hg hr => by
  have e1 := hr t1 _ (by rw [ho]; simp [Op.operands, Call.operands]) h1
  have e2 := hr t2 _ (by rw [ho]; simp [Op.operands, Call.operands]) h2
  have e3 := hr t3 _ (by rw [ho]; simp [Op.operands, Call.operands]) h3
  obtain ⟨dst, op, type, pos, after, guard⟩ := o
  dsimp only at ho
  subst ho
  refine .inr ⟨f, #[c1, c2, c3, c4], ?_, hc W hg⟩
  have e1' : b.tmps[t1]?.getD undef = c1 := by simpa [Act.eval] using e1
  have e2' : b.tmps[t2]?.getD undef = c2 := by simpa [Act.eval] using e2
  have e3' : b.tmps[t3]?.getD undef = c3 := by simpa [Act.eval] using e3
  simp [execOp, resolve, Deferred.ofValue, invoke, Act.eval, e1', e2', e3', hrun W]
end
end Go.Proofs.YtoklaajiajilhaaDoor

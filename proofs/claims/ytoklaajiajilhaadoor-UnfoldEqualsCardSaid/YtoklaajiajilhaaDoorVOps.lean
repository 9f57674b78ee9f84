/- What single operations of stage 8's texts answer, in a region that draws its order. No walk. -/
import Derived.Test.YtoklaajiajilhaaDoorUOps
import Derived.Test.YtoklaajiajilhaaDoorVGrw
import Derived.Test.YtoklaajiajilhaaDoorVFn
namespace Go.Proofs.YtoklaajiajilhaaDoor
open Go.RowKit

section
variable {vals : List (Tmp × Value)} {w : World} {o : Oper}
theorem cat_bytes (a b : List UInt8) : (⟨a.toArray⟩ : ByteArray) ++ ⟨b.toArray⟩ = ⟨(a ++ b).toArray⟩ := by
  ext1
  rw [ByteArray.data_append]
  simp
theorem ov_cat {s i : Tmp} {a b : List UInt8} {ty : TypeId} (ho : o.op = .binOp .add 9 (.tmp s) (.tmp i) ty) (h0 : vals.lookup s = some (strV a)) (h1 : vals.lookup i = some (strV b)) (hl : a.length + b.length ≤ 9223372036854775807) : OpVal Tryd.prog o vals w (strV (a ++ b)) := fun b' W hg hr => by
  have e0 := hr s _ (by rw [ho]; simp [Op.operands]) h0
  have e1 := hr i _ (by rw [ho]; simp [Op.operands]) h1
  obtain ⟨dst, op, type, pos, after, guard⟩ := o
  dsimp only at ho
  subst ho
  refine .inl ?_
  generalize b'.eval = ev at e0 e1 ⊢
  have hz : ¬ 9223372036854775807 < a.length + b.length := by omega
  simp [execOp, e0, e1, go_sem, hz]
  exact cat_bytes a b
theorem ov_cat_c {s : Tmp} {a b : List UInt8} {ty : TypeId} (ho : o.op = .binOp .add 9 (.tmp s) (.const (strV b)) ty) (h0 : vals.lookup s = some (strV a)) (hl : a.length + b.length ≤ 9223372036854775807) : OpVal Tryd.prog o vals w (strV (a ++ b)) := fun b' W hg hr => by
  have e0 := hr s _ (by rw [ho]; simp [Op.operands]) h0
  obtain ⟨dst, op, type, pos, after, guard⟩ := o
  dsimp only at ho
  subst ho
  refine .inl ?_
  have e1 : b'.eval (.const (strV b)) = strV b := rfl
  generalize b'.eval = ev at e0 e1 ⊢
  have hz : ¬ 9223372036854775807 < a.length + b.length := by omega
  simp [execOp, e0, e1, go_sem, hz]
  exact cat_bytes a b
theorem ov_fld_face {t : Tmp} {g i : Nat} (hi : i < 5) (ho : o.op = .fieldAddr 47 (.tmp t) i) (h0 : vals.lookup t = some (.pointer (some ⟨g, 0, none⟩))) : OpVal Tryd.prog o vals w (.pointer (some ⟨g, i, none⟩)) := fun b' W hg hr => by
  have e0 := hr t _ (by rw [ho]; simp [Op.operands]) h0
  obtain ⟨dst, op, type, pos, after, guard⟩ := o
  dsimp only at ho
  subst ho
  refine .inl ?_
  simp only [execOp, e0]
  match i, hi with
  | 0, _ => go_simp
  | 1, _ => go_simp
  | 2, _ => go_simp
  | 3, _ => go_simp
  | 4, _ => go_simp
theorem ov_call1 {f : FuncId} {t : Tmp} {c r : Value} {ts : Array TypeId} (ho : o.op = .call { callee := .value (.func f), args := #[.tmp t], argTypes := ts }) (ht : vals.lookup t = some c) (hrun : ∀ W, (callFunc f #[c]).run Tryd.prog W = .ok (.enter f #[c]) W)
    (hc : ∀ W, w.grownBy W none → Calls Tryd.prog f #[c] W fun e w'' => e = .returned r ∧ W.grownBy w'' none) : OpVal Tryd.prog o vals w r := fun b W hg hr => by
  have he := hr t _ (by rw [ho]; simp [Op.operands, Call.operands]) ht
  obtain ⟨dst, op, type, pos, after, guard⟩ := o
  dsimp only at ho
  subst ho
  refine .inr ⟨f, #[c], ?_, hc W hg⟩
  have he' : b.tmps[t]?.getD undef = c := by simpa [Act.eval] using he
  simp [execOp, resolve, Deferred.ofValue, invoke, Act.eval, he', hrun W]
theorem ov_call1c {f : FuncId} {t : Tmp} {c d r : Value} {ts : Array TypeId} (ho : o.op = .call { callee := .value (.func f), args := #[.tmp t, .const d], argTypes := ts }) (ht : vals.lookup t = some c) (hrun : ∀ W, (callFunc f #[c, d]).run Tryd.prog W = .ok (.enter f #[c, d]) W)
    (hc : ∀ W, w.grownBy W none → Calls Tryd.prog f #[c, d] W fun e w'' => e = .returned r ∧ W.grownBy w'' none) : OpVal Tryd.prog o vals w r := fun b W hg hr => by
  have he := hr t _ (by rw [ho]; simp [Op.operands, Call.operands]) ht
  obtain ⟨dst, op, type, pos, after, guard⟩ := o
  dsimp only at ho
  subst ho
  refine .inr ⟨f, #[c, d], ?_, hc W hg⟩
  have he' : b.tmps[t]?.getD undef = c := by simpa [Act.eval] using he
  simp [execOp, resolve, Deferred.ofValue, invoke, Act.eval, he', hrun W]
end
end Go.Proofs.YtoklaajiajilhaaDoor

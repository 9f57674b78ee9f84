/- append of a row of pairs onto another one; what single operations of Equal answer. No walk. -/
import Derived.Test.YtoklaajiajilhaaDoorVOps
import Derived.Test.YtoklaajiajilhaaDoorDOwn
import Derived.Deep.AppendSrc
namespace Go.Proofs.YtoklaajiajilhaaDoor
open Go.RowKit

theorem wpList_append_kids {ops : Array Oper} {rest : List Oper} {o : Oper} {a : Act} {W : World} {Q : Exit → Act → World → Prop} (hgd : o.guard = none) (s x : Operand)
    (ho : o.op = .call { callee := .builtin .append, args := #[s, x], argTypes := #[44, 44] })
    {base base' : Nat} {v vv : Value} {ps ks : List (Ed × Ed)} (hs : a.eval s = v) (hx : a.eval x = vv) (hot : W.ownsRow base 43 4 v ps.length (prAll ps)) (hkt : W.ownsRow base' 43 4 vv ks.length (prAll ks)) (hn : ps.length + ks.length ≤ 1000000) (hbase : base ≤ W.heap.size)
    (h : ∀ v' W', W'.ownsRow base 43 4 v' (ps ++ ks).length (prAll (ps ++ ks)) → W.grownBy W' v.ownBlock → (∀ g, v'.ownBlock = some g → v.ownBlock = some g ∨ W.heap.size ≤ g) → wpList Tryd.prog ops Q rest (a.put o.dst v') W') : wpList Tryd.prog ops Q (o :: rest) a W := by
  obtain ⟨i0, hi, hz0, hz1, hz2⟩ := info_parts pair_info
  have hkt' := hkt
  rcases hkt.2 with ⟨rfl, hk0⟩ | ⟨g, cap, cur, rfl, _, _, _⟩
  · obtain rfl : ks = [] := List.length_eq_zero_iff.1 hk0
    have hsrc : Src Tryd.prog i0.size 44 (.slice none 0 0) 0 [] W := Src.ofNil W Tryd.underlying44 0
    have hr : (Builtin.append_ #[44, 44] o.type #[v, .slice none 0 0]).run Tryd.prog W = .ok v W := by
      rcases hot.2 with ⟨rfl, hp0⟩ | ⟨g, cap, cur, rfl, _, _, hc, _⟩
      · simp [Builtin.append_, run_underlying Tryd.underlying44, sizeOf, typeInfo, hi, hsrc.len, hsrc.cells]
      · have := run_append_room_src W 44 44 o.type 43 i0 Tryd.underlying44 hi g 0 ps.length cap (.slice none 0 0) 0 [] hsrc (by omega) (fun j hj => by simp at hj) (fun j hj => by simp at hj)
        rw [this]
        simp [World.setCells]
    refine wpList_plain hgd fun K hK => ?_
    unfold Oper.wp execOp
    simp only [ho, resolve, invoke, builtin, Sem.run_bind, Sem.run_pure, Result.andThen_ok, List.map_toArray, List.map_cons, List.map_nil, hs, hx, hr]
    exact hK _ _ (h v W (by rw [List.append_nil]; exact hot) (only_weak (only_refl _ _) _) (fun g hg => .inl hg))
  · have hnews : ∀ j u, (prAll ks)[j]? = some u → W.cell? ((⟨g, 0, none⟩ : Addr).add j) = some u := hkt'.cells (g := g) rfl
    have hown : W.ownsRow base 43 i0.size v ps.length (prAll ps) := by rw [hz1]; exact hot
    have hbk := fun {v' : Value} {W' : World} => append_blockG (W := W) (ty := o.type) (t := 44) Tryd.underlying44 hi hz0 (by rw [hz1]; decide) hown (a := ⟨g, 0, none⟩) (m := ks.length) (c := cap) (by rw [hz1]; exact prAll_len ks) hnews prAll_one (by rw [hz1]; rfl) (by unfold maxLen; omega) (by rw [hz2]; omega) (v' := v') (W' := W')
    refine wpList_plain hgd fun K hK => ?_
    obtain ⟨v', W', hr, h2, h3, _⟩ := run_append_own (P := Tryd.prog) W base 44 o.type 43 i0 _ 4 32 Tryd.underlying44 hi hz0 hz1 hz2 rfl (by decide) v ps.length (prAll ps) hot ⟨g, 0, none⟩ ks.length cap (prAll ks) (prAll_len ks) hnews prAll_one (by unfold maxLen; omega) (by omega) hbase
    have hbl := hbk hr
    unfold Oper.wp execOp
    simp only [ho, resolve, invoke, builtin, Sem.run_bind, Sem.run_pure, Result.andThen_ok, List.map_toArray, List.map_cons, List.map_nil, hs, hx, hr]
    refine hK _ _ (h v' W' ?_ h3 hbl)
    rw [List.length_append, prAll_app]; exact h2

section
variable {vals : List (Tmp × Value)} {w : World} {o : Oper}
theorem ov_fld_pair0 {t : Tmp} {g : Nat} (ho : o.op = .fieldAddr 43 (.tmp t) 0) (h0 : vals.lookup t = some (.pointer (some ⟨g, 0, none⟩))) : OpVal Tryd.prog o vals w (.pointer (some ⟨g, 0, none⟩)) := fun b' W hg hr => by
  have e0 := hr t _ (by rw [ho]; simp [Op.operands]) h0
  obtain ⟨dst, op, type, pos, after, guard⟩ := o
  dsimp only at ho
  subst ho
  refine .inl ?_
  simp only [execOp, e0]
  go_simp
theorem ov_fld_pair1 {t : Tmp} {g : Nat} (ho : o.op = .fieldAddr 43 (.tmp t) 1) (h0 : vals.lookup t = some (.pointer (some ⟨g, 0, none⟩))) : OpVal Tryd.prog o vals w (.pointer (some ⟨g, 2, none⟩)) := fun b' W hg hr => by
  have e0 := hr t _ (by rw [ho]; simp [Op.operands]) h0
  obtain ⟨dst, op, type, pos, after, guard⟩ := o
  dsimp only at ho
  subst ho
  refine .inl ?_
  simp only [execOp, e0]
  go_simp
theorem ov_ld_typeA {t : Tmp} {g off : Nat} {e : Ed} (ho : o.op = .load 24 (.tmp t)) (h0 : vals.lookup t = some (.pointer (some ⟨g, off, none⟩))) (hc : w.cell? ⟨g, off, none⟩ = some (.int .i64 e.1)) (hd : w.cell? ⟨g, off + 1, none⟩ = some (.int .i64 e.2)) : OpVal Tryd.prog o vals w (edV e) := fun b' W hg hr => by
  have e0 := hr t _ (by rw [ho]; simp [Op.operands]) h0
  have c0 := Keeps.grown hg _ _ hc
  have c1 := Keeps.grown hg _ _ hd
  obtain ⟨dst, op, type, pos, after, guard⟩ := o
  dsimp only at ho
  subst ho
  refine .inl ?_
  simp only [execOp, e0]
  go_simp
theorem ov_neq_face {s i : Tmp} {f g : Fc} {b : Bool} {ty : TypeId} (ho : o.op = .binOp .neq 47 (.tmp s) (.tmp i) ty) (h0 : vals.lookup s = some (fcV f)) (h1 : vals.lookup i = some (fcV g)) (hb : decide (f ≠ g) = b) : OpVal Tryd.prog o vals w (.bool b) := fun b' W hg hr => by
  have e0 := hr s _ (by rw [ho]; simp [Op.operands]) h0
  have e1 := hr i _ (by rw [ho]; simp [Op.operands]) h1
  obtain ⟨dst, op, type, pos, after, guard⟩ := o
  dsimp only at ho
  subst ho
  refine .inl ?_
  obtain ⟨f0, f1, f2, f3, f4⟩ := f
  obtain ⟨g0, g1, g2, g3, g4⟩ := g
  simp only [execOp, e0, e1]
  go_simp
  rw [← hb]
  by_cases a0 : f0 = g0 <;> by_cases a1 : f1 = g1 <;> by_cases a2 : f2 = g2 <;> by_cases a3 : f3 = g3 <;> by_cases a4 : f4 = g4 <;> simp [a0, a1, a2, a3, a4]
end
end Go.Proofs.YtoklaajiajilhaaDoor

/- Texts joined for the claim's sake: SRai, SOp. -/
import Derived.Test.YtmhbmeckdbdhpaaZSAddRow18
import Derived.Test.YtmhbmeckdbdhpaaZSAddRow22
namespace Go.Proofs.Ytmhbmeckdbdhpaa
open Go.RowKit Go.Shelf

theorem zero_st : stC zeroT = #[.int .i64 0, .int .i64 0, .int .i64 0, .int .i64 0, .int .i64 0, .int .i64 0, .int .i64 0, .int .i64 0, .int .i64 0, .int .i64 0, .int .i64 0, .int .i64 0, .int .i64 0, .int .i64 0, .int .i64 0, .int .i64 0, .int .i64 0, .int .i64 0, .int .i64 0, .int .i64 0, .int .i64 0, .int .i64 0, .int .i64 0, .int .i64 0, .int .i64 0, .int .i64 0, .int .i64 0, .int .i64 0, .int .i64 0, .int .i64 0, .int .i64 0, .int .i64 0, .int .i64 0, .int .i64 0, .int .i64 0, .int .i64 0, .int .i64 0, .int .i64 0, .int .i64 0, .int .i64 0, .int .i64 0, .int .i64 0, .int .i64 0, .int .i64 0, .int .i64 0, .int .i64 0, .int .i64 0, .int .i64 0, .int .i64 0, .int .i64 0] := rfl
theorem Blk.rowM {W : World} {g : Nat} {t : TypeId} {cs : Array Value} (h : Blk W g t cs) (cs' : Array Value) : Blk (W.setRow g cs') g t cs' := by
  unfold Blk at h ⊢
  simp [World.setRow, Array.getElem?_modify, h]
theorem only_rowM (W : World) (g : Nat) (cs : Array Value) : W.grownBy (W.setRow g cs) (some g) :=
  ⟨rfl, rfl, rfl, by simp, fun i _ hne => setRow_other W g i cs (fun e => hne (by rw [e]))⟩
theorem StB.setLv {W : World} {g : Nat} {s : StT} (h : StB W g s) (m : Int) : StB (W.setCell ⟨g, 0, none⟩ (.int .i64 m)) g { s with lv := m } := by
  have := h.set_ 0 (.int .i64 m)
  have e : (stC s).setIfInBounds 0 (.int .i64 m) = stC { s with lv := m } := by
    unfold stC stL
    rw [List.setIfInBounds_toArray, List.set_cons_zero]
  rwa [e] at this
theorem results_st {fn : Func} {p : Tmp} (h : fn.results = #[.cell p 45]) {tmps : Array Value} {W : World} {g : Nat} {s : StT} (hp : tmps.getD p undef = .pointer (some ⟨g, 0, none⟩)) (hb : StB W g s) (hs : s.regs.length = 16) : (results fn tmps).run Try.prog W = .ok (stV s) W :=
  results_cell_row h tmps W g 45 (stC s) _ _ hp hb Try.underlying45 rfl (by rw [info_st, st_size hs])
set_option maxRecDepth 100000 in
set_option maxHeartbeats 4000000 in
theorem sraise_any (xs : List Nd) (vc vo vp vq : Value) (s : StT) (w : World) (hT : Tbl w vc xs) (hl : xs.length ≤ 1000000) (hs : s.regs.length = 16) :
    Calls Try.prog 15 #[.agg #[vc, vo, vp, vq], stV s] w fun e w' => e = .returned (stV (raiseA xs s)) ∧ w.grownBy w' none := by
  have HT := Lib.hid hT
  have HL := Lib.hid hl
  have HS := Lib.hid hs
  clear hT hl hs
  go_enter Try.func15, Try.ntmps15
  go_upto_region 1 with fail
  rw [← zero_st]
  obtain ⟨W0, hW0⟩ : ∃ W0, (((w.alloc (.cells #[vc, vo, vp, vq] 35)).alloc (.cells (stC s) 45)).alloc (.cells (stC zeroT) 45)) = W0 := ⟨_, rfl⟩
  have hg0 : Hid (w.grownBy W0 none) := Lib.hid (by rw [← hW0]; exact only_alloc (only_alloc (only_alloc (only_refl _ _) _) _) _)
  have hbf : Blk W0 w.heap.size 35 #[vc, vo, vp, vq] := by rw [← hW0]; exact ((Blk.new _ _ _).alloc _).alloc _
  have HB3 : Hid (StB W0 (w.heap.size + 1) s) := Lib.hid (by rw [← hW0]; exact (blk_at (by simp) _ _).alloc _)
  have HB4 : Hid (StB W0 (w.heap.size + 1 + 1) zeroT) := Lib.hid (by rw [← hW0]; exact blk_at (by simp) _ _)
  have f0 := hbf.cell 0
  have f1 := hbf.cell 1
  have f2 := hbf.cell 2
  have f3 := hbf.cell 3
  rw [hW0]
  clear hW0 hbf
  obtain ⟨o, ho⟩ : ∃ o, leastA xs s = o := ⟨_, rfl⟩
  have HO := Lib.hid ho
  clear ho
  refine wp_region_lit ?_
  cases o with
  | none =>
    have HR : Hid (raiseA xs s = s) := Lib.hid (by unfold raiseA; rw [HO.out])
    go_upto_region 4 with (first | (refine wpList_load_st rfl (.tmp 3) rfl rfl HS.out HB3.out ?_) | (go_at_call 16; go_must (refine (sleast_any xs vc vo vp vq s _ (HT.out.keep (.grown hg0.out)) HL.out HS.out).mono ?_; rw [HO.out]; rintro e w5 ⟨rfl, hg⟩; have HG5 := Lib.hid hg; clear hg)))
    refine wp_region_lit ?_
    refine wpList_load_st rfl (.tmp 3) rfl rfl HS.out (HB3.out.kept HG5.out) ?_
    refine wpList_store_st rfl (.tmp 4) (.tmp 16) rfl rfl rfl HS.out rfl (HB4.out.kept HG5.out) ?_
    simp only [Act.put]
    have hst := (HB4.out.kept HG5.out).rowM (stC s)
    have HST := Lib.hid hst
    have HGK : Hid (w.grownBy (w5.setRow (w.heap.size + 1 + 1) (stC s)) none) := Lib.hid (only_new (only_trans hg0.out HG5.out) (only_rowM _ _ _) (by omega))
    clear hst
    generalize (w5.setRow _ _) = w6 at *
    go_wp2_with fail
    exact bodyPost_ret (results_st rfl rfl HST.out HS.out) rfl ⟨by rw [HR.out], HGK.out⟩
  | some m =>
    have HR : Hid (raiseA xs s = { s with lv := m }) := Lib.hid (by unfold raiseA; rw [HO.out])
    go_upto_region 4 with (first | (refine wpList_load_st rfl (.tmp 3) rfl rfl HS.out HB3.out ?_) | (go_at_call 16; go_must (refine (sleast_any xs vc vo vp vq s _ (HT.out.keep (.grown hg0.out)) HL.out HS.out).mono ?_; rw [HO.out]; rintro e w5 ⟨rfl, hg⟩; have HG5 := Lib.hid hg; have c3 := StB.lv (HB3.out.kept hg); have fr3 := (HB3.out.kept hg).frozen 0; clear hg)))
    refine wp_region_lit ?_
    have hb3 : StB (w5.setCell ⟨w.heap.size + 1, 0, none⟩ (.int .i64 m)) (w.heap.size + 1) { s with lv := m } := StB.setLv (HB3.out.kept HG5.out) m
    have hb4 : StB (w5.setCell ⟨w.heap.size + 1, 0, none⟩ (.int .i64 m)) (w.heap.size + 1 + 1) zeroT := (HB4.out.kept HG5.out).far (p := ⟨w.heap.size + 1, 0, none⟩) (by simp) _
    have hs' : ({ s with lv := m } : StT).regs.length = 16 := HS.out
    have HGS : Hid (w.grownBy (w5.setCell ⟨w.heap.size + 1, 0, none⟩ (.int .i64 m)) none) := Lib.hid (only_setNew (only_trans hg0.out HG5.out) (by simp) _)
    generalize (w5.setCell _ _) = w6 at *
    refine wpList_load_st rfl (.tmp 3) rfl rfl hs' hb3 ?_
    refine wpList_store_st rfl (.tmp 4) (.tmp 16) rfl rfl rfl hs' rfl hb4 ?_
    simp only [Act.put]
    have HST := Lib.hid (hb4.rowM (stC { s with lv := m }))
    have HGK : Hid (w.grownBy (w6.setRow (w.heap.size + 1 + 1) (stC { s with lv := m })) none) := Lib.hid (only_new HGS.out (only_rowM _ _ _) (by omega))
    clear hb3 hb4
    generalize (w6.setRow _ _) = w7 at *
    go_wp2_with fail
    exact bodyPost_ret (results_st rfl rfl HST.out hs') rfl ⟨by rw [HR.out], HGK.out⟩
end Go.Proofs.Ytmhbmeckdbdhpaa

namespace Go.Proofs.Ytmhbmeckdbdhpaa
open Go.RowKit Go.Shelf

section
variable {b : Act} {W : World} {o : Oper} {t s : Tmp} {K : Act → World → Prop} {Q : Exit → Act → World → Prop}
theorem rs_move {v : Value} (ho : o.op = .move (.tmp t)) (h1 : b.eval (.tmp t) = v) : (execOp b.eval o).run Try.prog W = .ok (.value v) W := by
  obtain ⟨dst, op, type, pos, after, guard⟩ := o
  dsimp only at ho
  subst ho
  simp only [execOp, h1]
  go_simp
theorem rs_regs {g : Nat} (ho : o.op = .fieldAddr 45 (.tmp t) 2) (h1 : b.eval (.tmp t) = .pointer (some ⟨g, 0, none⟩)) : (execOp b.eval o).run Try.prog W = .ok (.value (.pointer (some ⟨g, 2, none⟩))) W := by
  obtain ⟨dst, op, type, pos, after, guard⟩ := o
  dsimp only at ho
  subst ho
  simp only [execOp, h1]
  go_simp
theorem rs_idx {g k : Nat} (ho : o.op = .indexAddr 43 (.tmp s) (.tmp t)) (h1 : b.eval (.tmp s) = .pointer (some ⟨g, 2, none⟩)) (h2 : b.eval (.tmp t) = .int .i64 (k : Int)) (hk : k < 16) : (execOp b.eval o).run Try.prog W = .ok (.value (.pointer (some ⟨g, 2 + k * 3, none⟩))) W := by
  have hk0 : (0 : Int) ≤ (k : Int) := by omega
  have hk1 : (k : Int) < 16 := by omega
  obtain ⟨dst, op, type, pos, after, guard⟩ := o
  dsimp only at ho
  subst ho
  simp only [execOp, h1, h2]
  go_simp
theorem rs_prio {g off : Nat} (ho : o.op = .fieldAddr 42 (.tmp t) 2) (h1 : b.eval (.tmp t) = .pointer (some ⟨g, off, none⟩)) : (execOp b.eval o).run Try.prog W = .ok (.value (.pointer (some ⟨g, off + 2, none⟩))) W := by
  obtain ⟨dst, op, type, pos, after, guard⟩ := o
  dsimp only at ho
  subst ho
  simp only [execOp, h1]
  go_simp
theorem rs_int {p : Addr} {z : Int} (ho : o.op = .load 3 (.tmp t)) (h1 : b.eval (.tmp t) = .pointer (some p)) (hc : W.cell? p = some (.int .i64 z)) : (execOp b.eval o).run Try.prog W = .ok (.value (.int .i64 z)) W := by
  obtain ⟨dst, op, type, pos, after, guard⟩ := o
  dsimp only at ho
  subst ho
  simp only [execOp, h1]
  go_simp
theorem rs_add {x y : Int} (ho : o.op = .binOp .add 3 (.tmp s) (.tmp t) 3) (h1 : b.eval (.tmp s) = .int .i64 x) (h2 : b.eval (.tmp t) = .int .i64 y) : (execOp b.eval o).run Try.prog W = .ok (.value (.int .i64 (wrap64 (x + y)))) W := by
  obtain ⟨dst, op, type, pos, after, guard⟩ := o
  dsimp only at ho
  subst ho
  simp only [execOp, h1, h2]
  go_simp
  rw [IntWalk.i64_left]
theorem ws_int {g k : Nat} {z z0 : Int} (ho : o.op = .store 3 (.tmp s) (.tmp t)) (h1 : b.eval (.tmp s) = .pointer (some ⟨g, k, none⟩)) (h2 : b.eval (.tmp t) = .int .i64 z) (hc : W.cell? ⟨g, k, none⟩ = some (.int .i64 z0)) (hf : W.frozen? ⟨g, k, none⟩ = false)
    (hK : K (b.put o.dst undef) (W.setCell ⟨g, k, none⟩ (.int .i64 z))) : o.wp Try.prog b W K Q := by
  obtain ⟨dst, op, type, pos, after, guard⟩ := o
  dsimp only at ho
  subst ho
  unfold Oper.wp
  simp only [execOp, h1, h2]
  go_simp
  exact hK
end
section
variable {F : Fence} {n : Nat} {ops : Array Oper} {rest : List Oper} {o : Oper} {a : Act} {w : World} {Q : Exit → Act → World → Prop}
theorem wpListIn_load_rgG (hw : Region.wanted o (yielded ops a.tmps) = true) (x : Operand) (ho : o.op = .load 43 x) {g : Nat} (hx : a.eval x = .pointer (some ⟨g, 2, none⟩)) {s : StT} (hs : s.regs.length = 16) (hb : StB w g s)
    (h : wpListIn F n Try.prog ops Q rest (a.put o.dst (rgV s.regs)) w) : wpListIn F n Try.prog ops Q (o :: rest) a w := by
  refine wpListIn_step fun K hK => ?_
  rw [if_pos hw]
  unfold Oper.wpIn
  refine ⟨by simp [Oper.about, ho], ?_⟩
  rw [Oper.semAt_plain F _ _ (by rw [ho]; intro c hc; cases hc)]
  unfold execOp
  simp only [ho, hx, Instr.loadAt, Instr.sureAddr, Sem.run_bind, Sem.run_pure, Result.andThen_ok, run_loadVar_mid w g 2 43 (rgL s.regs) _ (rg_range hb) Try.underlying43 rfl (by rw [info_rg, rgL_len, hs])]
  exact hK _ _ h
theorem wpListIn_ne_rgG (hw : Region.wanted o (yielded ops a.tmps) = true) (x y : Operand) (t : TypeId) (ho : o.op = .binOp .neq 43 x y t) {s u : List Slt} (hx : a.eval x = rgV s) (hy : a.eval y = rgV u) (hs : s.length = 16) (hu : u.length = 16)
    (h : wpListIn F n Try.prog ops Q rest (a.put o.dst (.bool (!decide (s = u)))) w) : wpListIn F n Try.prog ops Q (o :: rest) a w := by
  refine wpListIn_step fun K hK => ?_
  rw [if_pos hw]
  unfold Oper.wpIn
  refine ⟨by simp [Oper.about, ho], ?_⟩
  rw [Oper.semAt_plain F _ _ (by rw [ho]; intro c hc; cases hc)]
  unfold execOp
  simp only [ho, hx, hy, Sem.run_bind, run_eqGuard_agg _ _ _ _ _ _ _ guard_rg, run_neq_struct, eq_rgs 9997 hs hu w, Result.andThen_ok]
  exact hK _ _ h
end
end Go.Proofs.Ytmhbmeckdbdhpaa

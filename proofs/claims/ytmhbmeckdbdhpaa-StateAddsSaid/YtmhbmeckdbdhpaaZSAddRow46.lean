/- Texts joined for the claim's sake: SOv, SFur. -/
import Derived.Test.YtmhbmeckdbdhpaaZSAddRow43
import Derived.Test.YtmhbmeckdbdhpaaZSAddRow45
import Derived.Test.YtmhbmeckdbdhpaaZSAddRow23
import Derived.Test.YtmhbmeckdbdhpaaZSAddRow44
namespace Go.Proofs.Ytmhbmeckdbdhpaa
open Go.RowKit Go.Shelf

theorem slot_size : (Try.prog.info? 42).map (·.size) = some 3 := by kernel_rfl
section
variable {vals : List (Tmp × Value)} {w : World} {o : Oper}
theorem sv_of {c : Value} (h : ∀ (b : Act) (W : World), w.grownBy W none → (∀ t v, Operand.tmp t ∈ o.op.operands → vals.lookup t = some v → b.eval (.tmp t) = v) → (execOp b.eval o).run Try.prog W = .ok (.value c) W) : OpVal Try.prog o vals w c := fun b W hg hr => .inl (h b W hg hr)
theorem sv_move {t : Tmp} {c : Value} (ho : o.op = .move (.tmp t)) (hv : vals.lookup t = some c) : OpVal Try.prog o vals w c := sv_of fun b W hg hr => rs_move ho (hr t _ (by rw [ho]; simp [Op.operands]) hv)
theorem sv_regs {t : Tmp} {g : Nat} (ho : o.op = .fieldAddr 45 (.tmp t) 2) (hv : vals.lookup t = some (.pointer (some ⟨g, 0, none⟩))) : OpVal Try.prog o vals w (.pointer (some ⟨g, 2, none⟩)) := sv_of fun b W hg hr => rs_regs ho (hr t _ (by rw [ho]; simp [Op.operands]) hv)
theorem sv_idx {s t : Tmp} {g k : Nat} (ho : o.op = .indexAddr 43 (.tmp s) (.tmp t)) (hv : vals.lookup s = some (.pointer (some ⟨g, 2, none⟩))) (hu : vals.lookup t = some (.int .i64 (k : Int))) (hk : k < 16) : OpVal Try.prog o vals w (.pointer (some ⟨g, 2 + k * 3, none⟩)) :=
  sv_of fun b W hg hr => rs_idx ho (hr s _ (by rw [ho]; simp [Op.operands]) hv) (hr t _ (by rw [ho]; simp [Op.operands]) hu) hk
theorem sv_prio {t : Tmp} {g off : Nat} (ho : o.op = .fieldAddr 42 (.tmp t) 2) (hv : vals.lookup t = some (.pointer (some ⟨g, off, none⟩))) : OpVal Try.prog o vals w (.pointer (some ⟨g, off + 2, none⟩)) := sv_of fun b W hg hr => rs_prio ho (hr t _ (by rw [ho]; simp [Op.operands]) hv)
theorem sv_int {t : Tmp} {p : Addr} {z : Int} (ho : o.op = .load 3 (.tmp t)) (hv : vals.lookup t = some (.pointer (some p))) (hc : w.cell? p = some (.int .i64 z)) : OpVal Try.prog o vals w (.int .i64 z) :=
  sv_of fun b W hg hr => rs_int ho (hr t _ (by rw [ho]; simp [Op.operands]) hv) (Keeps.grown hg _ _ hc)
theorem sv_lv {t : Tmp} {g : Nat} (ho : o.op = .fieldAddr 45 (.tmp t) 0) (hv : vals.lookup t = some (.pointer (some ⟨g, 0, none⟩))) : OpVal Try.prog o vals w (.pointer (some ⟨g, 0, none⟩)) := sv_of fun b W hg hr => by
  have he := hr t _ (by rw [ho]; simp [Op.operands]) hv
  obtain ⟨dst, op, type, pos, after, guard⟩ := o
  dsimp only at ho
  subst ho
  simp only [execOp, he]
  go_simp
theorem sv_not {t : Tmp} {y : Bool} (ho : o.op = .unOp .not 4 (.tmp t)) (hv : vals.lookup t = some (.bool y)) : OpVal Try.prog o vals w (.bool (!y)) := sv_of fun b W hg hr => by
  have he := hr t _ (by rw [ho]; simp [Op.operands]) hv
  obtain ⟨dst, op, type, pos, after, guard⟩ := o
  dsimp only at ho
  subst ho
  simp only [execOp, he]
  go_simp
theorem sv_pick {t s : Tmp} {y z : Bool} {r : Value} (ho : o.op = .pick (.tmp t) (.tmp s) (.const (.bool false))) (hv : vals.lookup t = some (.bool y)) (hs : y = true → vals.lookup s = some (.bool z)) (hr' : r = .bool (y && z)) : OpVal Try.prog o vals w r := sv_of fun b W hg hr => by
  have he := hr t _ (by rw [ho]; simp [Op.operands]) hv
  have he2 : y = true → b.eval (.tmp s) = .bool z := fun e => hr s _ (by rw [ho]; simp [Op.operands]) (hs e)
  subst hr'
  obtain ⟨dst, op, type, pos, after, guard⟩ := o
  dsimp only at ho
  subst ho
  cases y with
  | true =>
    have he3 := he2 rfl
    simp only [execOp, he, he3]
    go_simp
  | false =>
    simp only [execOp, he]
    go_simp
theorem sv_ldFac {t : Tmp} {g : Nat} {vc vo vp vq : Value} (ho : o.op = .load 35 (.tmp t)) (hv : vals.lookup t = some (.pointer (some ⟨g, 0, none⟩))) (hb : Blk w g 35 #[vc, vo, vp, vq]) : OpVal Try.prog o vals w (.agg #[vc, vo, vp, vq]) := sv_of fun b W hg hr => by
  have he := hr t _ (by rw [ho]; simp [Op.operands]) hv
  have hb' := hb.kept hg
  obtain ⟨dst, op, type, pos, after, guard⟩ := o
  dsimp only at ho
  subst ho
  unfold execOp
  simp only [he, Instr.loadAt, Instr.sureAddr, Sem.run_bind, Sem.run_pure, Result.andThen_ok, run_loadVar_row W g _ 35 _ _ _ hb' Try.underlying35 rfl fac_info]
theorem sv_ldSlot {t : Tmp} {g k : Nat} {s : StT} {x : Slt} (ho : o.op = .load 42 (.tmp t)) (hv : vals.lookup t = some (.pointer (some ⟨g, 2 + k * 3, none⟩))) (hb : StB w g s) (hx : s.regs[k]? = some x) : OpVal Try.prog o vals w (slV x) := sv_of fun b W hg hr => by
  have he := hr t _ (by rw [ho]; simp [Op.operands]) hv
  obtain ⟨h0, h1, h2⟩ := StB.reg (hb.kept hg) hx
  have hr2 : W.rangeAt g (2 + k * 3) (slL x) := fun i u hi => by
    match i, hi with
    | 0, hi => cases hi; exact h0
    | 1, hi => cases hi; exact h1
    | 2, hi => cases hi; exact h2
    | i + 3, hi => simp at hi
  obtain ⟨dst, op, type, pos, after, guard⟩ := o
  dsimp only at ho
  subst ho
  unfold execOp
  simp only [he, Instr.loadAt, Instr.sureAddr, Sem.run_bind, Sem.run_pure, Result.andThen_ok, run_loadVar_mid W g (2 + k * 3) 42 (slL x) _ hr2 Try.underlying42 rfl slot_size]
theorem sv_call2 {f : FuncId} {t1 t2 : Tmp} {c1 c2 c : Value} {ts : Array TypeId} (ho : o.op = .call { callee := .value (.func f), args := #[.tmp t1, .tmp t2], argTypes := ts }) (h1 : vals.lookup t1 = some c1) (h2 : vals.lookup t2 = some c2)
    (hrun : ∀ args W, (callFunc f args).run Try.prog W = .ok (.enter f args) W) (hc : ∀ W, w.grownBy W none → Calls Try.prog f #[c1, c2] W fun e w' => e = .returned c ∧ W.grownBy w' none) : OpVal Try.prog o vals w c := fun b W hg hr => by
  have e1 := hr t1 _ (by rw [ho]; simp [Op.operands, Call.operands]) h1
  have e2 := hr t2 _ (by rw [ho]; simp [Op.operands, Call.operands]) h2
  have e1' : b.tmps[t1]?.getD undef = c1 := by simpa [Act.eval] using e1
  have e2' : b.tmps[t2]?.getD undef = c2 := by simpa [Act.eval] using e2
  obtain ⟨dst, op, type, pos, after, guard⟩ := o
  dsimp only at ho
  subst ho
  exact .inr ⟨f, #[c1, c2], by simp [execOp, resolve, Deferred.ofValue, invoke, Act.eval, e1', e2', hrun], hc W hg⟩
theorem sv_call3 {f : FuncId} {t1 t2 t3 : Tmp} {c1 c2 c3 c : Value} {ts : Array TypeId} (ho : o.op = .call { callee := .value (.func f), args := #[.tmp t1, .tmp t2, .tmp t3], argTypes := ts }) (h1 : vals.lookup t1 = some c1) (h2 : vals.lookup t2 = some c2) (h3 : vals.lookup t3 = some c3)
    (hrun : ∀ args W, (callFunc f args).run Try.prog W = .ok (.enter f args) W) (hc : ∀ W, w.grownBy W none → Calls Try.prog f #[c1, c2, c3] W fun e w' => e = .returned c ∧ W.grownBy w' none) : OpVal Try.prog o vals w c := fun b W hg hr => by
  have e1 := hr t1 _ (by rw [ho]; simp [Op.operands, Call.operands]) h1
  have e2 := hr t2 _ (by rw [ho]; simp [Op.operands, Call.operands]) h2
  have e3 := hr t3 _ (by rw [ho]; simp [Op.operands, Call.operands]) h3
  have e1' : b.tmps[t1]?.getD undef = c1 := by simpa [Act.eval] using e1
  have e2' : b.tmps[t2]?.getD undef = c2 := by simpa [Act.eval] using e2
  have e3' : b.tmps[t3]?.getD undef = c3 := by simpa [Act.eval] using e3
  obtain ⟨dst, op, type, pos, after, guard⟩ := o
  dsimp only at ho
  subst ho
  exact .inr ⟨f, #[c1, c2, c3], by simp [execOp, resolve, Deferred.ofValue, invoke, Act.eval, e1', e2', e3', hrun], hc W hg⟩
end
end Go.Proofs.Ytmhbmeckdbdhpaa

namespace Go.Proofs.Ytmhbmeckdbdhpaa
open Go.RowKit Go.Shelf Rg

/-- The registers, of which the first i were moved. -/
def curF (xs : List Nd) (t : Int) (l : List Slt) (i : Nat) : List Slt := (l.take i).map (movS xs t) ++ l.drop i
theorem curF_all (xs : List Nd) (t : Int) (l : List Slt) {i : Nat} (h : l.length ≤ i) : curF xs t l i = l.map (movS xs t) := by
  unfold curF
  rw [List.take_of_length_le h, List.drop_eq_nil_of_le h, List.append_nil]
theorem curF_at {xs : List Nd} {t : Int} {l : List Slt} {i : Nat} {x : Slt} (h : l[i]? = some x) : (curF xs t l i)[i]? = some x ∧ curF xs t l (i + 1) = (curF xs t l i).set i (movS xs t x) := by
  have hi := (List.getElem?_eq_some_iff.1 h).1
  have hl : ((l.take i).map (movS xs t)).length = i := by rw [List.length_map, List.length_take]; omega
  have hd : l.drop i = x :: l.drop (i + 1) := by
    rw [List.drop_eq_getElem_cons hi]
    congr 1
    exact (List.getElem?_eq_some_iff.1 h).2
  constructor
  · unfold curF
    rw [List.getElem?_append_right (by omega), hl, Nat.sub_self, hd]
    rfl
  · unfold curF
    rw [take_len h, List.map_append, List.append_assoc, List.set_append_right _ _ (by omega), hl, Nat.sub_self, hd]
    rfl
structure FuI (w : World) (b : Nat) (vc vo vp vq : Value) (z : StT) (W : World) : Prop where
  gr : w.grownBy W none
  f : Blk W b 35 #[vc, vo, vp, vq]
  s : StB W (b + 1) z
  r : StB W (b + 1 + 1) zeroT
theorem FuI.kept {w W W' : World} {b : Nat} {vc vo vp vq : Value} {z : StT} (h : FuI w b vc vo vp vq z W) (hg : W.grownBy W' none) : FuI w b vc vo vp vq z W' := ⟨only_trans h.gr hg, h.f.kept hg, h.s.kept hg, h.r.kept hg⟩
theorem FuI.prio {w W : World} {b i : Nat} {vc vo vp vq : Value} {z : StT} {x : Slt} (h : FuI w b vc vo vp vq z W) (hb : w.heap.size ≤ b) (hx : z.regs[i]? = some x) (p : Int) : FuI w b vc vo vp vq { z with regs := z.regs.set i { x with prio := p } } (W.setCell ⟨b + 1, 2 + i * 3 + 2, none⟩ (.int .i64 p)) := by
  have hs : W.grownBy (W.setCell ⟨b + 1, 2 + i * 3 + 2, none⟩ (.int .i64 p)) (some (b + 1)) := only_setCell (only_refl _ _) rfl _
  exact ⟨only_new h.gr hs (by omega), h.f.grown hs (fun e => by injection e with e; omega), StB.setPrio h.s hx p, Blk.grown h.r hs (fun e => by injection e with e; omega)⟩
set_option maxRecDepth 100000 in
set_option maxHeartbeats 4000000 in
theorem further_any (xs : List Nd) (vc vo vp vq : Value) (s : StT) (t : Int) (w : World) (hT : Tbl w vc xs) (hl : xs.length ≤ 1000000) (hs : s.regs.length = 16) :
    Calls Try.prog 19 #[.agg #[vc, vo, vp, vq], stV s, .int .i64 t] w fun e w' => e = .returned (stV (farA xs s t)) ∧ w.grownBy w' none := by
  have HT := Lib.hid hT
  have HL := Lib.hid hl
  have HS := Lib.hid hs
  clear hT hl hs
  go_enter Try.func19, Try.ntmps19
  go_upto_region 1 with fail
  rw [← zero_st]
  obtain ⟨W0, hW0⟩ : ∃ W0, (((w.alloc (.cells #[vc, vo, vp, vq] 35)).alloc (.cells (stC s) 45)).alloc (.cells (stC zeroT) 45)) = W0 := ⟨_, rfl⟩
  have hg0 : Hid (w.grownBy W0 none) := Lib.hid (by rw [← hW0]; exact only_alloc (only_alloc (only_alloc (only_refl _ _) _) _) _)
  have HBF : Hid (Blk W0 w.heap.size 35 #[vc, vo, vp, vq]) := Lib.hid (by rw [← hW0]; exact ((Blk.new _ _ _).alloc _).alloc _)
  have hb3 : StB W0 (w.heap.size + 1) s := by rw [← hW0]; exact (blk_at (by simp) _ _).alloc _
  have HB4 : Hid (StB W0 (w.heap.size + 1 + 1) zeroT) := Lib.hid (by rw [← hW0]; exact blk_at (by simp) _ _)
  rw [hW0]
  clear hW0
  have c0 := StB.lv hb3
  have f0 := hb3.frozen 0
  have hlt := cell_lt c0
  have HW1 : Hid (FuI w w.heap.size vc vo vp vq { s with lv := wrap64 (s.lv + t), regs := curF xs t s.regs 0 } (W0.setCell ⟨w.heap.size + 1, 0, none⟩ (.int .i64 (wrap64 (s.lv + t))))) := by
    have hsc : W0.grownBy (W0.setCell ⟨w.heap.size + 1, 0, none⟩ (.int .i64 (wrap64 (s.lv + t)))) (some (w.heap.size + 1)) := only_setCell (only_refl _ _) rfl _
    exact Lib.hid ⟨only_new hg0.out hsc (by omega), HBF.out.grown hsc (fun e => by injection e with e; omega), StB.setLv hb3 _, Blk.grown HB4.out hsc (fun e => by injection e with e; omega)⟩
  clear hb3
  go_upto_region 2 with fail
  generalize World.setCell W0 _ _ = W1 at *
  clear c0 f0 hlt hg0 HBF HB4
  go_wp2_with fail
  go_loopw [7] (fun i wr => ∃ k : Nat, k ≤ 16 ∧ i = .int .i64 (k : Int) ∧ FuI w w.heap.size vc vo vp vq { s with lv := wrap64 (s.lv + t), regs := curF xs t s.regs k } wr) (fun i _ => 16 - (intOf i).toNat)
  case atStart => exact ⟨0, Nat.zero_le _, rfl, HW1.out⟩
  case round =>
    clear HW1
    obtain ⟨k, hk, rfl, hi⟩ := hrel
    have hk0 : (0 : Int) ≤ (k : Int) := by omega
    have HI := Lib.hid hi
    clear hi
    by_cases hlt : k < 16
    · have hk1 : (k : Int) < 16 := by omega
      obtain ⟨x, hx⟩ : ∃ x, s.regs[k]? = some x := ⟨_, List.getElem?_eq_getElem (by rw [HS.out]; exact hlt)⟩
      obtain ⟨hx1, hx2⟩ := curF_at (xs := xs) (t := t) hx
      have HX1 : Hid (({ s with lv := wrap64 (s.lv + t), regs := curF xs t s.regs k } : StT).regs[k]? = some x) := Lib.hid hx1
      have HX2 := Lib.hid hx2
      clear hx hx1 hx2
      obtain ⟨bz, hbz⟩ : ∃ bz, busyB xs x = bz := ⟨_, rfl⟩
      have HBZ := Lib.hid hbz
      clear hbz
      go_upto_region 5 with fail
      refine region_both (by kernel_rfl) [(17, .agg #[vc, vo, vp, vq]), (18, .int .i64 (k : Int)), (19, .pointer (some ⟨w.heap.size + 1, 2, none⟩)), (20, .pointer (some ⟨w.heap.size + 1, 2 + k * 3, none⟩)), (21, slV x), (22, .bool bz)] [(3, .pointer (some ⟨w.heap.size, 0, none⟩)), (4, .pointer (some ⟨w.heap.size + 1, 0, none⟩)), (7, .int .i64 (k : Int))] [] trivial (by kernel_rfl) [17, 18, 19, 20, 21, 22] (by kernel_rfl) (by kernel_rfl) (by decide) (by kernel_rfl) (by kernel_rfl) ⟨rfl, rfl, rfl, trivial⟩ ?hops ?hQ
      case hops =>
        exact ⟨obv (t := 17) rfl rfl rfl (sv_ldFac rfl rfl HI.out.f),
          obv (t := 18) rfl rfl rfl (sv_move rfl rfl),
          obv (t := 19) rfl rfl rfl (sv_regs rfl rfl),
          obv (t := 20) rfl rfl rfl (sv_idx rfl rfl rfl hlt),
          obv (t := 21) rfl rfl rfl (sv_ldSlot rfl rfl HI.out.s HX1.out),
          obv (t := 22) rfl rfl rfl (sv_call2 rfl rfl rfl (enters_of Try.func17 (by kernel_rfl) rfl) fun W hg => by
            have := sbusy_any xs vc vo vp vq x W (HT.out.keep (.grown (only_trans HI.out.gr hg))) HL.out
            rwa [HBZ.out] at this), trivial⟩
      case hQ =>
        intro vs W5 hg5 hv _
        have h22 : vs 22 = .bool bz := hv 22 _ rfl (by decide)
        simp only [List.foldl_cons, List.foldl_nil, List.setIfInBounds_toArray, List.set_cons_zero, List.set_cons_succ, h22]
        have HI5 := Lib.hid (HI.out.kept hg5)
        clear hv h22 HI hg5
        generalize vs 17 = x17
        generalize vs 18 = x18
        generalize vs 19 = x19
        generalize vs 20 = x20
        generalize vs 21 = x21
        cases bz with
        | true =>
          have HM : Hid (movS xs t x = { x with prio := wrap64 (x.prio + t) }) := Lib.hid (by unfold movS; rw [HBZ.out]; rfl)
          have HN : Hid (FuI w w.heap.size vc vo vp vq { s with lv := wrap64 (s.lv + t), regs := curF xs t s.regs (k + 1) } (W5.setCell ⟨w.heap.size + 1, 2 + k * 3 + 2, none⟩ (.int .i64 (wrap64 (x.prio + t))))) := Lib.hid (by
            rw [HX2.out, HM.out]
            exact HI5.out.prio (Nat.le_refl _) HX1.out _)
          have c2 := (StB.reg HI5.out.s HX1.out).2.2
          have fr := HI5.out.s.frozen (2 + k * 3 + 2)
          have hlt5 := cell_lt c2
          go_wp2_with fail
          go_roundw
          case rel => exact ⟨k + 1, by omega, by go_num, HN.out⟩
          case measure => simp [intOf]; omega
        | false =>
          have HN : Hid (FuI w w.heap.size vc vo vp vq { s with lv := wrap64 (s.lv + t), regs := curF xs t s.regs (k + 1) } W5) := Lib.hid (by
            have e : movS xs t x = x := by unfold movS; rw [HBZ.out]; rfl
            have h1 : (curF xs t s.regs k)[k]? = some x := HX1.out
            have e2 : curF xs t s.regs (k + 1) = curF xs t s.regs k := by
              rw [HX2.out, e]
              refine List.ext_getElem? fun j => ?_
              rw [List.getElem?_set]
              split
              · rename_i ej
                subst ej
                rw [if_pos (List.getElem?_eq_some_iff.1 h1).1, h1]
              · rfl
            rw [e2]
            exact HI5.out)
          go_wp2_with fail
          go_roundw
          case rel => exact ⟨k + 1, by omega, by go_num, HN.out⟩
          case measure => simp [intOf]; omega
    · have hke : k = 16 := by omega
      subst hke
      have HF : Hid (({ s with lv := wrap64 (s.lv + t), regs := curF xs t s.regs 16 } : StT) = farA xs s t) := Lib.hid (by
        rw [curF_all xs t s.regs (by rw [HS.out]; omega)]
        rfl)
      have HSF : Hid ((farA xs s t).regs.length = 16) := Lib.hid (by
        show (s.regs.map _).length = 16
        rw [List.length_map]
        exact HS.out)
      have HB1 : Hid (StB wr (w.heap.size + 1) (farA xs s t)) := Lib.hid (by rw [← HF.out]; exact HI.out.s)
      have HB2 := Lib.hid HI.out.r
      have HGK : Hid (w.grownBy (wr.setRow (w.heap.size + 1 + 1) (stC (farA xs s t))) none) := Lib.hid (only_new HI.out.gr (only_rowM _ _ _) (by omega))
      have HST : Hid (StB (wr.setRow (w.heap.size + 1 + 1) (stC (farA xs s t))) (w.heap.size + 1 + 1) (farA xs s t)) := Lib.hid (HB2.out.rowM _)
      clear HI hlt hk
      go_upto_region 7 with fail
      refine wp_region_lit ?_
      refine wpList_load_st rfl (.tmp 4) rfl rfl HSF.out HB1.out ?_
      refine wpList_store_st rfl (.tmp 6) (.tmp 34) rfl rfl rfl HSF.out rfl HB2.out ?_
      simp only [Act.put]
      generalize (wr.setRow _ _) = w7 at *
      go_wp2_with fail
      exact bodyPost_ret (results_st rfl rfl HST.out HSF.out) rfl ⟨rfl, HGK.out⟩
end Go.Proofs.Ytmhbmeckdbdhpaa

/- class: Of: what stands as classes are told. -/
import Derived.Test.YtepjkoegbehojaaZCTld
import Derived.Test.YtepjkoegbehojaaZCPtB
namespace Go.Proofs.Ytepjkoegbehojaa
open Go.RowKit Go.Shelf

theorem LnkO.up {base : Nat} {W : World} {v : Value} {es : List Ed} (h : LnkO 0 W v es) : LnkO base W v es := by
  obtain ⟨A, c, h1, hl, h2⟩ := h
  refine ⟨A, c, h1, hl, fun hn => ?_⟩
  obtain ⟨b, off, h3, h5, h4⟩ := h2 hn
  exact ⟨b, off, h3, h5.imp (fun h => absurd h (Nat.not_lt_zero _)) id, h4⟩
section
variable {base : Nat} {W W' : World} {v : Value} {ns : List (Nd × Value)} {g n cap k : Nat} {p : Nd × Value}
theorem CTw.row_block (h : CTw base W v ns) {row : Option Nat} (hg : W.grownBy W' row) (hr : ∀ g, row = some g → base ≤ g ∧ ∃ t cs, Blk W g t cs ∧ t ≠ 57 ∧ t ≠ 54) : CTw base W' v ns := by
  refine ⟨h.row.kept hg ?_, fun p hp => (h.eds p hp).grown hg fun g e => ?_⟩
  · cases hb : v.ownBlock with
    | none => exact .inl rfl
    | some g =>
      refine .inr fun e => ?_
      obtain ⟨_, t, cs, h1, h2, _⟩ := hr g e.symm
      obtain ⟨_, cs', hb'⟩ := own_row h.row g hb
      exact Blk.ne_ h1 hb' h2 rfl
  · obtain ⟨h0, t, cs, h1, _, h3⟩ := hr g e
    exact ⟨h0, cs, t, h1, h3⟩
/-- Cell j of class k is written. -/
theorem CTw.putc (h : CTw base W (.slice (some ⟨g, 0, none⟩) n cap) ns) (hn : ns.length = n) (hk : ns[k]? = some p) (j : Nat) (hj : j < 6) (u : Value) (x : Nd) (hset : (ndCells p.1 p.2).toList.set j u = (ndCells x p.2).toList) (hE : x.next = p.1.next) :
    CTw base (W.setCell ⟨g, k * 6 + j, none⟩ u) (.slice (some ⟨g, 0, none⟩) n cap) (ns.set k (x, p.2)) ∧ W.grownBy (W.setCell ⟨g, k * 6 + j, none⟩ u) (some g) := by
  subst hn
  obtain ⟨hst, hgs⟩ := h.row.stored (k * 6 + j) u
  have kept : ∀ {v : Value} {es : List Ed}, LnkO base W v es → LnkO base (W.setCell ⟨g, k * 6 + j, none⟩ u) v es := fun hl => hl.grown hgs fun g' e => by
    obtain ⟨hb, cs, hblk⟩ := own_row h.row g' e
    exact ⟨hb, cs, _, hblk, by decide⟩
  refine ⟨⟨?_, fun q hq => ?_⟩, hgs⟩
  · rw [List.length_set, ← ndAll_set_ hj hset hk]; exact hst
  · rcases List.mem_or_eq_of_mem_set hq with hq | rfl
    · exact kept (h.eds q hq)
    · dsimp only
      rw [hE]
      exact kept (h.eds p (List.mem_of_getElem? hk))
end
section
variable {o : Oper} {b : Act} {W : World} {K : Act → World → Prop} {Q : Exit → Act → World → Prop}
theorem wp_told {t1 : Tmp} {c1 : Value} {ts : Array TypeId} {R : Ending → World → Prop} (ho : o.op = .call { callee := .value (.func 26), args := #[.tmp t1], argTypes := ts })
    (h1 : b.eval (.tmp t1) = c1) (hc : Calls Try.prog 26 #[c1] W R) (hR : ∀ e W', R e W' → ∃ x, e = .returned x ∧ K (b.put o.dst x) W') : o.wp Try.prog b W K Q := by
  have h1' : b.tmps[t1]?.getD undef = c1 := by simpa [Act.eval] using h1
  obtain ⟨dst, op, type, pos, after, guard⟩ := o
  dsimp only at ho
  subst ho
  have hrun : ∀ args W, (callFunc 26 args).run Try.prog W = .ok (.enter 26 args) W := enters_of Try.func26 (by kernel_rfl) rfl
  have hr : (execOp b.eval ⟨dst, .call { callee := .value (.func 26), args := #[.tmp t1], argTypes := ts }, type, pos, after, guard⟩).run Try.prog W = .ok (.enter 26 #[c1]) W := by
    simp [execOp, resolve, Deferred.ofValue, invoke, Act.eval, h1', hrun]
  unfold Oper.wp
  rw [hr, Oper.upon_enter]
  refine hc.mono fun e W' h => ?_
  obtain ⟨x, rfl, hk⟩ := hR e W' h
  exact hk
theorem wp_mate {t1 t2 : Tmp} {c1 c2 : Value} {ts : Array TypeId} {R : Ending → World → Prop} (ho : o.op = .call { callee := .value (.func 27), args := #[.tmp t1, .tmp t2], argTypes := ts })
    (h1 : b.eval (.tmp t1) = c1) (h2 : b.eval (.tmp t2) = c2) (hc : Calls Try.prog 27 #[c1, c2] W R) (hR : ∀ e W', R e W' → ∃ x, e = .returned x ∧ K (b.put o.dst x) W') : o.wp Try.prog b W K Q := by
  have h1' : b.tmps[t1]?.getD undef = c1 := by simpa [Act.eval] using h1
  have h2' : b.tmps[t2]?.getD undef = c2 := by simpa [Act.eval] using h2
  obtain ⟨dst, op, type, pos, after, guard⟩ := o
  dsimp only at ho
  subst ho
  have hrun : ∀ args W, (callFunc 27 args).run Try.prog W = .ok (.enter 27 args) W := enters_of Try.func27 (by kernel_rfl) rfl
  have hr : (execOp b.eval ⟨dst, .call { callee := .value (.func 27), args := #[.tmp t1, .tmp t2], argTypes := ts }, type, pos, after, guard⟩).run Try.prog W = .ok (.enter 27 #[c1, c2]) W := by
    simp [execOp, resolve, Deferred.ofValue, invoke, Act.eval, h1', h2', hrun]
  unfold Oper.wp
  rw [hr, Oper.upon_enter]
  refine hc.mono fun e W' h => ?_
  obtain ⟨x, rfl, hk⟩ := hR e W' h
  exact hk
theorem wp_val {c : Value} (hr : (execOp b.eval o).run Try.prog W = .ok (.value c) W) (hK : K (b.put o.dst c) W) : o.wp Try.prog b W K Q := by
  unfold Oper.wp
  rw [hr]
  exact hK
theorem wp_buildC {t : Tmp} {z : Nd} {A : Option Addr} {n c : Nat} (ho : o.op = .buildSlice 24 1 #[(0, .tmp t)]) (h : b.eval (.tmp t) = ndV z (.slice A n c))
    (hK : K (b.put o.dst (.slice (some ⟨W.heap.size, 0, none⟩) 1 1)) (W.alloc (.cells (ndCells z (.slice A n c)) 57))) : o.wp Try.prog b W K Q := by
  obtain ⟨dst, op, type, pos, after, guard⟩ := o
  dsimp only at ho
  subst ho
  have h' : b.tmps[t]?.getD undef = .agg #[.int .i64 z.kind, .int .i64 z.prio, .bool z.chan, .int .i64 z.pay.1, .int .i64 z.pay.2, .slice A n c] := by simpa [Act.eval] using h
  unfold Oper.wp
  simp only [execOp]
  go_simp
  exact hK
theorem wp_appendC (s x : Operand) (ho : o.op = .call { callee := .builtin .append, args := #[s, x], argTypes := #[24, 24] })
    {base : Nat} {v : Value} {ns : List (Nd × Value)} {nd : Nd} {e : Value} {g : Nat} (hs : b.eval s = v) (hx : b.eval x = .slice (some ⟨g, 0, none⟩) 1 1)
    (hot : CTw base W v ns) (hb : Blk W g 57 (ndCells nd e)) (hE : LnkO base W e nd.next) (hn : ns.length ≤ 1000) (hbase : base ≤ W.heap.size)
    (h : ∀ v' W', CTw base W' v' (ns ++ [(nd, e)]) → W.grownBy W' v.ownBlock → K (b.put o.dst v') W') : o.wp Try.prog b W K Q := by
  obtain ⟨i0, hi, hz0, hz1, hz2⟩ := info_parts class_info
  have hE2 := hE
  obtain ⟨A2, c2, he, _⟩ := hE2
  refine wp_append_own W s x 24 ho base 57 i0 _ 6 64 Try.underlying24 hi hz0 hz1 hz2 rfl (by decide) v ns.length (ndAll ns) hs hot.row
    ⟨g, 0, none⟩ 1 1 (ndCells nd e).toList hx rfl (fun j u hu => ?_) (fun u hu => ?_) (by unfold maxLen; omega) (by omega) hbase (fun v' W' hr hg _ => h v' W' ⟨?_, ?_⟩ hg)
  · rw [addr_plain, Nat.zero_add, hb.cell j, ← hu]; simp
  · rw [he] at hu
    simp only [List.mem_cons, List.not_mem_nil, or_false] at hu
    rcases hu with rfl | rfl | rfl | rfl | rfl | rfl <;> rfl
  · rw [List.length_append, ndAll_snoc]; exact hr
  · intro p hp
    rcases List.mem_append.1 hp with hp | hp
    · refine (hot.eds p hp).grown hg (fun g' e' => ?_)
      obtain ⟨hb', cs, hblk⟩ := own_row hot.row g' e'
      exact ⟨hb', cs, _, hblk, by decide⟩
    · obtain rfl := List.mem_singleton.1 hp
      refine hE.grown hg (fun g' e' => ?_)
      obtain ⟨hb', cs, hblk⟩ := own_row hot.row g' e'
      exact ⟨hb', cs, _, hblk, by decide⟩
theorem wp_storeCs {t u : Tmp} {g : Nat} {ty : TypeId} {cs : Array Value} {A0 A : Option Addr} {n0 c0 n c : Nat} (ho : o.op = .store 24 (.tmp t) (.tmp u)) (ht : b.eval (.tmp t) = .pointer (some ⟨g, 0, none⟩)) (h : b.eval (.tmp u) = .slice A n c)
    (hb : Blk W g ty cs) (hc : cs[0]? = some (.slice A0 n0 c0)) (hK : K (b.put o.dst undef) (W.setCell ⟨g, 0, none⟩ (.slice A n c))) : o.wp Try.prog b W K Q := by
  obtain ⟨dst, op, type, pos, after, guard⟩ := o
  dsimp only at ho
  subst ho
  have c5 : W.cell? ⟨g, 0, none⟩ = some (.slice A0 n0 c0) := (hb.cell 0).trans hc
  have f5 := hb.frozen 0
  unfold Oper.wp
  simp only [execOp, h, ht]
  go_simp
  exact hK
theorem wp_storeInt {t u : Tmp} {g k : Nat} {d d0 : Int} (ho : o.op = .store 3 (.tmp t) (.tmp u)) (ht : b.eval (.tmp t) = .pointer (some ⟨g, k, none⟩)) (h : b.eval (.tmp u) = .int .i64 d)
    (c5 : W.cell? ⟨g, k, none⟩ = some (.int .i64 d0)) (f5 : W.frozen? ⟨g, k, none⟩ = false) (hK : K (b.put o.dst undef) (W.setCell ⟨g, k, none⟩ (.int .i64 d))) : o.wp Try.prog b W K Q := by
  obtain ⟨dst, op, type, pos, after, guard⟩ := o
  dsimp only at ho
  subst ho
  unfold Oper.wp
  simp only [execOp, h, ht]
  go_simp
  exact hK
theorem rv_loadCs {t : Tmp} {p : Addr} {A : Option Addr} {n c : Nat} (ho : o.op = .load 24 (.tmp t)) (h1 : b.eval (.tmp t) = .pointer (some p)) (hc : W.cell? p = some (.slice A n c)) : (execOp b.eval o).run Try.prog W = .ok (.value (.slice A n c)) W := by
  obtain ⟨dst, op, type, pos, after, guard⟩ := o
  dsimp only at ho
  subst ho
  simp only [execOp, h1]
  go_simp
theorem rv_indexCs {t s : Tmp} {b0 off n c k : Nat} (ho : o.op = .indexAddr 24 (.tmp s) (.tmp t)) (h1 : b.eval (.tmp s) = .slice (some ⟨b0, off, none⟩) n c) (h2 : b.eval (.tmp t) = .int .i64 (k : Int)) (hk : k < n) : (execOp b.eval o).run Try.prog W = .ok (.value (.pointer (some ⟨b0, off + k * 6, none⟩))) W := by
  have hk0 : (0 : Int) ≤ (k : Int) := by omega
  have hk1 : (k : Int) < (n : Int) := by omega
  obtain ⟨dst, op, type, pos, after, guard⟩ := o
  dsimp only at ho
  subst ho
  simp only [execOp, h1, h2]
  go_simp
theorem rv_class1 {t : Tmp} {g k : Nat} (ho : o.op = .fieldAddr 57 (.tmp t) 1) (h1 : b.eval (.tmp t) = .pointer (some ⟨g, k, none⟩)) : (execOp b.eval o).run Try.prog W = .ok (.value (.pointer (some ⟨g, k + 1, none⟩))) W := by
  obtain ⟨dst, op, type, pos, after, guard⟩ := o
  dsimp only at ho
  subst ho
  simp only [execOp, h1]
  go_simp
end
section
variable {o : Oper} {b : Act} {W : World}
theorem rv_indexK {t s : Tmp} {b0 off n c k : Nat} (ho : o.op = .indexAddr 63 (.tmp s) (.tmp t)) (h1 : b.eval (.tmp s) = .slice (some ⟨b0, off, none⟩) n c) (h2 : b.eval (.tmp t) = .int .i64 (k : Int)) (hk : k < n) : (execOp b.eval o).run Try.prog W = .ok (.value (.pointer (some ⟨b0, off + k * 21, none⟩))) W := by
  have hk0 : (0 : Int) ≤ (k : Int) := by omega
  have hk1 : (k : Int) < (n : Int) := by omega
  obtain ⟨dst, op, type, pos, after, guard⟩ := o
  dsimp only at ho
  subst ho
  simp only [execOp, h1, h2]
  go_simp
theorem rv_loadKm {t : Tmp} {g off : Nat} {x : Nd} (ho : o.op = .load 68 (.tmp t)) (h1 : b.eval (.tmp t) = .pointer (some ⟨g, off, none⟩)) (hr : W.rangeAt g off (knA x).toList) : (execOp b.eval o).run Try.prog W = .ok (.value (knV x)) W := by
  have hr := run_loadAt_mid (P := Try.prog) W g off 68 (knA x).toList _ hr Try.underlying68 rfl (by rw [known_size]; rfl)
  unfold execOp
  simp only [ho, h1, Sem.run_bind, Sem.run_pure, Result.andThen_ok, hr]
end
/-- What stands, step by step, as one more class is told. -/
def TCl (X wb : World) (vc : Value) (cs : List (Nd × Value)) (x : Nd) : Nat → (Tmp → Value) → World → Prop
  | 0, _, W => X.grownBy W none
  | 1, f, W => ∃ e, f 43 = ndV x e ∧ LnkO 0 W e x.next ∧ X.grownBy W none
  | 2, f, W => ∃ e g, f 44 = .slice (some ⟨g, 0, none⟩) 1 1 ∧ Blk W g 57 (ndCells x e) ∧ LnkO 0 W e x.next ∧ X.grownBy W none
  | 3, f, W => ∃ e v' W1, f 45 = v' ∧ X.grownBy W1 none ∧ W1.grownBy W vc.ownBlock ∧ CTw wb.heap.size W v' (cs ++ [(x, e)])
  | 4, _, W => ∃ e v' W1 W2, W = W2.setCell ⟨wb.heap.size, 0, none⟩ v' ∧ X.grownBy W1 none ∧ W1.grownBy W2 vc.ownBlock ∧ CTw wb.heap.size W2 v' (cs ++ [(x, e)])
  | _, _, _ => False
/-- What stands as a class' dual is laid. -/
def TDu (X : World) (g k : Nat) (m bo oo : Nat) (dv : Int) (d : Nat → Bool) (f : Tmp → Value) (W : World) : Prop :=
  if d 12 then ∃ W1, W = W1.setCell ⟨g, k * 6 + 1, none⟩ (.int .i64 dv) ∧ X.grownBy W1 none
  else X.grownBy W none ∧ (d 7 = true → f 62 = .int .i64 (m : Int)) ∧ (d 8 = true → f 63 = .pointer (some ⟨bo, oo + m, none⟩)) ∧ (d 9 = true → f 64 = .int .i64 dv)
/-- What stands: the table's box, the classes. -/
structure OC (wb : World) (vc vo vp : Value) (cs : List (Nd × Value)) (W : World) : Prop where
  gr : wb.grownBy W none
  bt : Blk W wb.heap.size 27 #[vc, vo, vp]
  ct : CTw wb.heap.size W vc cs
section
variable {wb W W' : World} {vc vo vp u : Value} {cs cs' : List (Nd × Value)}
theorem OC.kept (h : OC wb vc vo vp cs W) (hg : W.grownBy W' none) : OC wb vc vo vp cs W' := ⟨only_trans h.gr hg, h.bt.kept hg, h.ct.kept hg⟩
theorem own_cls_ne {base g : Nat} {t : TypeId} {cells : Array Value} (h : CTw base W u cs) (hb : Blk W g t cells) (ht : t ≠ 57) : some g ≠ u.ownBlock := fun e => by
  obtain ⟨_, cs', hb'⟩ := own_row h.row g e.symm
  exact Blk.ne_ hb hb' ht rfl
theorem OC.mid (h : OC wb vc vo vp cs W) (hg : W.grownBy W' vc.ownBlock) : wb.grownBy W' none ∧ Blk W' wb.heap.size 27 #[vc, vo, vp] :=
  ⟨grown_own h.gr (fun g e => (World.ownsRow.lt h.ct.row g e).1) hg, h.bt.grown hg (own_cls_ne h.ct h.bt (by decide))⟩
theorem OC.put (h : OC wb vc vo vp cs W) (hg : W.grownBy W' vc.ownBlock) (ho : CTw wb.heap.size W' u cs') : OC wb u vo vp cs' (W'.setCell ⟨wb.heap.size, 0, none⟩ u) := by
  obtain ⟨h1, h2⟩ := h.mid hg
  have hs : W'.grownBy (W'.setCell ⟨wb.heap.size, 0, none⟩ u) (some wb.heap.size) := only_setCell (only_refl _ _) rfl _
  refine ⟨only_setNew h1 (Nat.le_refl _) _, h2.set_ 0 u, ho.row_block hs fun g e => ?_⟩
  injection e with e
  subst e
  exact ⟨Nat.le_refl _, _, _, h2, by decide, by decide⟩
end
theorem rv_indexCs0 {o : Oper} {b : Act} {W : World} {t s : Tmp} {b0 n c k : Nat} (ho : o.op = .indexAddr 24 (.tmp s) (.tmp t)) (h1 : b.eval (.tmp s) = .slice (some ⟨b0, 0, none⟩) n c) (h2 : b.eval (.tmp t) = .int .i64 (k : Int)) (hk : k < n) : (execOp b.eval o).run Try.prog W = .ok (.value (.pointer (some ⟨b0, k * 6, none⟩))) W := by
  have := rv_indexCs (W := W) ho h1 h2 hk
  rwa [Nat.zero_add] at this
section
variable {wb W W' : World} {vo vp : Value} {cs : List (Nd × Value)} {g n cap k : Nat} {p : Nd × Value}
/-- A class' dual is laid. -/
theorem OC.dual (h : OC wb (.slice (some ⟨g, 0, none⟩) n cap) vo vp cs W) (hn : cs.length = n) (hk : cs[k]? = some p) (d : Int) : OC wb (.slice (some ⟨g, 0, none⟩) n cap) vo vp (cs.set k ({ p.1 with prio := d }, p.2)) (W.setCell ⟨g, k * 6 + 1, none⟩ (.int .i64 d)) := by
  obtain ⟨h1, hgs⟩ := h.ct.putc hn hk 1 (by omega) (.int .i64 d) { p.1 with prio := d } rfl rfl
  have hb := (World.ownsRow.lt h.ct.row g rfl).1
  exact ⟨only_new h.gr hgs hb, h.bt.grown hgs (own_cls_ne h.ct h.bt (by decide)), h1⟩
theorem OC.cell (h : OC wb (.slice (some ⟨g, 0, none⟩) n cap) vo vp cs W) (hk : cs[k]? = some p) : W.cell? ⟨g, k * 6 + 1, none⟩ = some (.int .i64 p.1.prio) ∧ W.frozen? ⟨g, k * 6 + 1, none⟩ = false := by
  obtain ⟨_, as', hb⟩ := own_row h.ct.row g rfl
  refine ⟨?_, hb.frozen _⟩
  have := h.ct.row.cells (g := g) rfl (k * 6 + 1) (.int .i64 p.1.prio) (ndAll_at hk 1 (by omega))
  rwa [addr_plain, Nat.zero_add] at this
end
section
variable {X W : World} {g k m bo oo : Nat} {dv : Int} {d d' : Nat → Bool} {f f' : Tmp → Value}
theorem TDu.congr (h : TDu X g k m bo oo dv d f W) (h62 : f 62 = f' 62) (h63 : f 63 = f' 63) (h64 : f 64 = f' 64) : TDu X g k m bo oo dv d f' W := by
  unfold TDu at h ⊢
  rw [h62, h63, h64] at h
  exact h
theorem TDu.same (h : TDu X g k m bo oo dv d f W) (h7 : d 7 = d' 7) (h8 : d 8 = d' 8) (h9 : d 9 = d' 9) (h12 : d 12 = d' 12) : TDu X g k m bo oo dv d' f W := by
  unfold TDu at h ⊢
  rw [h7, h8, h9, h12] at h
  exact h
theorem tdu_a (h12 : d 12 = false) : TDu X g k m bo oo dv d f W ↔ X.grownBy W none ∧ (d 7 = true → f 62 = .int .i64 (m : Int)) ∧ (d 8 = true → f 63 = .pointer (some ⟨bo, oo + m, none⟩)) ∧ (d 9 = true → f 64 = .int .i64 dv) := by
  unfold TDu
  rw [h12]
  simp only [Bool.false_eq_true, if_false]
theorem tdu_b (h12 : d 12 = true) : TDu X g k m bo oo dv d f W ↔ ∃ W1, W = W1.setCell ⟨g, k * 6 + 1, none⟩ (.int .i64 dv) ∧ X.grownBy W1 none := by
  unfold TDu
  rw [h12]
  simp only [if_true]
end
end Go.Proofs.Ytepjkoegbehojaa

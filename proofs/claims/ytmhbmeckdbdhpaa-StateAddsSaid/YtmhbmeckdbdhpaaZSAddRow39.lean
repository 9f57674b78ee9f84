/- Texts joined for the claim's sake: COA, CLyB. -/
import Derived.Test.YtmhbmeckdbdhpaaZSAddRow37
import Derived.Test.YtmhbmeckdbdhpaaZSAddRow38
import Derived.Test.YtmhbmeckdbdhpaaZSAddRow4
namespace Go.Proofs.Ytmhbmeckdbdhpaa
open Go.RowKit Go.Shelf

theorem LnkO.up {base : Nat} {W : World} {v : Value} {es : List Ed} (h : LnkO 0 W v es) : LnkO base W v es := by
  obtain ⟨A, c, h1, hl, h2⟩ := h
  refine ⟨A, c, h1, hl, fun hn => ?_⟩
  obtain ⟨b, off, h3, h5, h4⟩ := h2 hn
  exact ⟨b, off, h3, h5.imp (fun h => absurd h (Nat.not_lt_zero _)) id, h4⟩
section
variable {base : Nat} {W W' : World} {v : Value} {ns : List (Nd × Value)} {g n cap k : Nat} {p : Nd × Value}
theorem CTw.row_block (h : CTw base W v ns) {row : Option Nat} (hg : W.grownBy W' row) (hr : ∀ g, row = some g → base ≤ g ∧ ∃ t cs, Blk W g t cs ∧ t ≠ 86 ∧ t ≠ 83) : CTw base W' v ns := by
  refine ⟨h.row.kept hg ?_, fun p hp => (h.eds p hp).grown hg fun g e => ?_⟩
  · cases hb : v.ownBlock with
    | none => exact .inl rfl
    | some g =>
      refine .inr fun e => ?_
      obtain ⟨_, t, cs, h1, h2, _⟩ := hr g e.symm
      obtain ⟨_, cs', hb'⟩ := own_row h.row g hb
      exact Blk.ne_ h1 hb' h2 rfl
  · obtain ⟨h0, t, cs, h1, _, h3⟩ := hr g e
    exact ⟨h0, cs, t, h1, h3⟩
/-- Cell j of class k is written. -/
theorem CTw.putc (h : CTw base W (.slice (some ⟨g, 0, none⟩) n cap) ns) (hn : ns.length = n) (hk : ns[k]? = some p) (j : Nat) (hj : j < 6) (u : Value) (x : Nd) (hset : (ndCells p.1 p.2).toList.set j u = (ndCells x p.2).toList) (hE : x.next = p.1.next) :
    CTw base (W.setCell ⟨g, k * 6 + j, none⟩ u) (.slice (some ⟨g, 0, none⟩) n cap) (ns.set k (x, p.2)) ∧ W.grownBy (W.setCell ⟨g, k * 6 + j, none⟩ u) (some g) := by
  subst hn
  obtain ⟨hst, hgs⟩ := h.row.stored (k * 6 + j) u
  have kept : ∀ {v : Value} {es : List Ed}, LnkO base W v es → LnkO base (W.setCell ⟨g, k * 6 + j, none⟩ u) v es := fun hl => hl.grown hgs fun g' e => by
    obtain ⟨hb, cs, hblk⟩ := own_row h.row g' e
    exact ⟨hb, cs, _, hblk, by decide⟩
  refine ⟨⟨?_, fun q hq => ?_⟩, hgs⟩
  · rw [List.length_set, ← ndAll_set_ hj hset hk]; exact hst
  · rcases List.mem_or_eq_of_mem_set hq with hq | rfl
    · exact kept (h.eds q hq)
    · dsimp only
      rw [hE]
      exact kept (h.eds p (List.mem_of_getElem? hk))
end
section
variable {o : Oper} {b : Act} {W : World} {K : Act → World → Prop} {Q : Exit → Act → World → Prop}
theorem wp_told {t1 : Tmp} {c1 : Value} {ts : Array TypeId} {R : Ending → World → Prop} (ho : o.op = .call { callee := .value (.func 33), args := #[.tmp t1], argTypes := ts })
    (h1 : b.eval (.tmp t1) = c1) (hc : Calls Try.prog 33 #[c1] W R) (hR : ∀ e W', R e W' → ∃ x, e = .returned x ∧ K (b.put o.dst x) W') : o.wp Try.prog b W K Q := by
  have h1' : b.tmps[t1]?.getD undef = c1 := by simpa [Act.eval] using h1
  obtain ⟨dst, op, type, pos, after, guard⟩ := o
  dsimp only at ho
  subst ho
  have hrun : ∀ args W, (callFunc 33 args).run Try.prog W = .ok (.enter 33 args) W := enters_of Try.func33 (by kernel_rfl) rfl
  have hr : (execOp b.eval ⟨dst, .call { callee := .value (.func 33), args := #[.tmp t1], argTypes := ts }, type, pos, after, guard⟩).run Try.prog W = .ok (.enter 33 #[c1]) W := by
    simp [execOp, resolve, Deferred.ofValue, invoke, Act.eval, h1', hrun]
  unfold Oper.wp
  rw [hr, Oper.upon_enter]
  refine hc.mono fun e W' h => ?_
  obtain ⟨x, rfl, hk⟩ := hR e W' h
  exact hk
theorem wp_mate {t1 t2 : Tmp} {c1 c2 : Value} {ts : Array TypeId} {R : Ending → World → Prop} (ho : o.op = .call { callee := .value (.func 34), args := #[.tmp t1, .tmp t2], argTypes := ts })
    (h1 : b.eval (.tmp t1) = c1) (h2 : b.eval (.tmp t2) = c2) (hc : Calls Try.prog 34 #[c1, c2] W R) (hR : ∀ e W', R e W' → ∃ x, e = .returned x ∧ K (b.put o.dst x) W') : o.wp Try.prog b W K Q := by
  have h1' : b.tmps[t1]?.getD undef = c1 := by simpa [Act.eval] using h1
  have h2' : b.tmps[t2]?.getD undef = c2 := by simpa [Act.eval] using h2
  obtain ⟨dst, op, type, pos, after, guard⟩ := o
  dsimp only at ho
  subst ho
  have hrun : ∀ args W, (callFunc 34 args).run Try.prog W = .ok (.enter 34 args) W := enters_of Try.func34 (by kernel_rfl) rfl
  have hr : (execOp b.eval ⟨dst, .call { callee := .value (.func 34), args := #[.tmp t1, .tmp t2], argTypes := ts }, type, pos, after, guard⟩).run Try.prog W = .ok (.enter 34 #[c1, c2]) W := by
    simp [execOp, resolve, Deferred.ofValue, invoke, Act.eval, h1', h2', hrun]
  unfold Oper.wp
  rw [hr, Oper.upon_enter]
  refine hc.mono fun e W' h => ?_
  obtain ⟨x, rfl, hk⟩ := hR e W' h
  exact hk
theorem wp_val {c : Value} (hr : (execOp b.eval o).run Try.prog W = .ok (.value c) W) (hK : K (b.put o.dst c) W) : o.wp Try.prog b W K Q := by
  unfold Oper.wp
  rw [hr]
  exact hK
theorem wp_buildC {t : Tmp} {z : Nd} {A : Option Addr} {n c : Nat} (ho : o.op = .buildSlice 30 1 #[(0, .tmp t)]) (h : b.eval (.tmp t) = ndV z (.slice A n c))
    (hK : K (b.put o.dst (.slice (some ⟨W.heap.size, 0, none⟩) 1 1)) (W.alloc (.cells (ndCells z (.slice A n c)) 86))) : o.wp Try.prog b W K Q := by
  obtain ⟨dst, op, type, pos, after, guard⟩ := o
  dsimp only at ho
  subst ho
  have h' : b.tmps[t]?.getD undef = .agg #[.int .i64 z.kind, .int .i64 z.prio, .bool z.chan, .int .i64 z.pay.1, .int .i64 z.pay.2, .slice A n c] := by simpa [Act.eval] using h
  unfold Oper.wp
  simp only [execOp]
  go_simp
  exact hK
theorem wp_appendC (s x : Operand) (ho : o.op = .call { callee := .builtin .append, args := #[s, x], argTypes := #[30, 30] })
    {base : Nat} {v : Value} {ns : List (Nd × Value)} {nd : Nd} {e : Value} {g : Nat} (hs : b.eval s = v) (hx : b.eval x = .slice (some ⟨g, 0, none⟩) 1 1)
    (hot : CTw base W v ns) (hb : Blk W g 86 (ndCells nd e)) (hE : LnkO base W e nd.next) (hn : ns.length ≤ 1000) (hbase : base ≤ W.heap.size)
    (h : ∀ v' W', CTw base W' v' (ns ++ [(nd, e)]) → W.grownBy W' v.ownBlock → K (b.put o.dst v') W') : o.wp Try.prog b W K Q := by
  obtain ⟨i0, hi, hz0, hz1, hz2⟩ := info_parts class_info
  have hE2 := hE
  obtain ⟨A2, c2, he, _⟩ := hE2
  refine wp_append_own W s x 30 ho base 86 i0 _ 6 64 Try.underlying30 hi hz0 hz1 hz2 rfl (by decide) v ns.length (ndAll ns) hs hot.row
    ⟨g, 0, none⟩ 1 1 (ndCells nd e).toList hx rfl (fun j u hu => ?_) (fun u hu => ?_) (by unfold maxLen; omega) (by omega) hbase (fun v' W' hr hg _ => h v' W' ⟨?_, ?_⟩ hg)
  · rw [addr_plain, Nat.zero_add, hb.cell j, ← hu]; simp
  · rw [he] at hu
    simp only [List.mem_cons, List.not_mem_nil, or_false] at hu
    rcases hu with rfl | rfl | rfl | rfl | rfl | rfl <;> rfl
  · rw [List.length_append, ndAll_snoc]; exact hr
  · intro p hp
    rcases List.mem_append.1 hp with hp | hp
    · refine (hot.eds p hp).grown hg (fun g' e' => ?_)
      obtain ⟨hb', cs, hblk⟩ := own_row hot.row g' e'
      exact ⟨hb', cs, _, hblk, by decide⟩
    · obtain rfl := List.mem_singleton.1 hp
      refine hE.grown hg (fun g' e' => ?_)
      obtain ⟨hb', cs, hblk⟩ := own_row hot.row g' e'
      exact ⟨hb', cs, _, hblk, by decide⟩
theorem wp_storeCs {t u : Tmp} {g : Nat} {ty : TypeId} {cs : Array Value} {A0 A : Option Addr} {n0 c0 n c : Nat} (ho : o.op = .store 30 (.tmp t) (.tmp u)) (ht : b.eval (.tmp t) = .pointer (some ⟨g, 0, none⟩)) (h : b.eval (.tmp u) = .slice A n c)
    (hb : Blk W g ty cs) (hc : cs[0]? = some (.slice A0 n0 c0)) (hK : K (b.put o.dst undef) (W.setCell ⟨g, 0, none⟩ (.slice A n c))) : o.wp Try.prog b W K Q := by
  obtain ⟨dst, op, type, pos, after, guard⟩ := o
  dsimp only at ho
  subst ho
  have c5 : W.cell? ⟨g, 0, none⟩ = some (.slice A0 n0 c0) := (hb.cell 0).trans hc
  have f5 := hb.frozen 0
  unfold Oper.wp
  simp only [execOp, h, ht]
  go_simp
  exact hK
theorem wp_storeInt {t u : Tmp} {g k : Nat} {d d0 : Int} (ho : o.op = .store 3 (.tmp t) (.tmp u)) (ht : b.eval (.tmp t) = .pointer (some ⟨g, k, none⟩)) (h : b.eval (.tmp u) = .int .i64 d)
    (c5 : W.cell? ⟨g, k, none⟩ = some (.int .i64 d0)) (f5 : W.frozen? ⟨g, k, none⟩ = false) (hK : K (b.put o.dst undef) (W.setCell ⟨g, k, none⟩ (.int .i64 d))) : o.wp Try.prog b W K Q := by
  obtain ⟨dst, op, type, pos, after, guard⟩ := o
  dsimp only at ho
  subst ho
  unfold Oper.wp
  simp only [execOp, h, ht]
  go_simp
  exact hK
theorem rv_loadCs {t : Tmp} {p : Addr} {A : Option Addr} {n c : Nat} (ho : o.op = .load 30 (.tmp t)) (h1 : b.eval (.tmp t) = .pointer (some p)) (hc : W.cell? p = some (.slice A n c)) : (execOp b.eval o).run Try.prog W = .ok (.value (.slice A n c)) W := by
  obtain ⟨dst, op, type, pos, after, guard⟩ := o
  dsimp only at ho
  subst ho
  simp only [execOp, h1]
  go_simp
theorem rv_indexCs {t s : Tmp} {b0 off n c k : Nat} (ho : o.op = .indexAddr 30 (.tmp s) (.tmp t)) (h1 : b.eval (.tmp s) = .slice (some ⟨b0, off, none⟩) n c) (h2 : b.eval (.tmp t) = .int .i64 (k : Int)) (hk : k < n) : (execOp b.eval o).run Try.prog W = .ok (.value (.pointer (some ⟨b0, off + k * 6, none⟩))) W := by
  have hk0 : (0 : Int) ≤ (k : Int) := by omega
  have hk1 : (k : Int) < (n : Int) := by omega
  obtain ⟨dst, op, type, pos, after, guard⟩ := o
  dsimp only at ho
  subst ho
  simp only [execOp, h1, h2]
  go_simp
theorem rv_class1 {t : Tmp} {g k : Nat} (ho : o.op = .fieldAddr 86 (.tmp t) 1) (h1 : b.eval (.tmp t) = .pointer (some ⟨g, k, none⟩)) : (execOp b.eval o).run Try.prog W = .ok (.value (.pointer (some ⟨g, k + 1, none⟩))) W := by
  obtain ⟨dst, op, type, pos, after, guard⟩ := o
  dsimp only at ho
  subst ho
  simp only [execOp, h1]
  go_simp
end
section
variable {o : Oper} {b : Act} {W : World}
theorem rv_indexK {t s : Tmp} {b0 off n c k : Nat} (ho : o.op = .indexAddr 92 (.tmp s) (.tmp t)) (h1 : b.eval (.tmp s) = .slice (some ⟨b0, off, none⟩) n c) (h2 : b.eval (.tmp t) = .int .i64 (k : Int)) (hk : k < n) : (execOp b.eval o).run Try.prog W = .ok (.value (.pointer (some ⟨b0, off + k * 21, none⟩))) W := by
  have hk0 : (0 : Int) ≤ (k : Int) := by omega
  have hk1 : (k : Int) < (n : Int) := by omega
  obtain ⟨dst, op, type, pos, after, guard⟩ := o
  dsimp only at ho
  subst ho
  simp only [execOp, h1, h2]
  go_simp
theorem rv_loadKm {t : Tmp} {g off : Nat} {x : Nd} (ho : o.op = .load 97 (.tmp t)) (h1 : b.eval (.tmp t) = .pointer (some ⟨g, off, none⟩)) (hr : W.rangeAt g off (knA x).toList) : (execOp b.eval o).run Try.prog W = .ok (.value (knV x)) W := by
  have hr := run_loadAt_mid (P := Try.prog) W g off 97 (knA x).toList _ hr Try.underlying97 rfl (by rw [known_size]; rfl)
  unfold execOp
  simp only [ho, h1, Sem.run_bind, Sem.run_pure, Result.andThen_ok, hr]
end
/-- What stands, step by step, as one more class is told. -/
def TCl (X wb : World) (vc : Value) (cs : List (Nd × Value)) (x : Nd) : Nat → (Tmp → Value) → World → Prop
  | 0, _, W => X.grownBy W none
  | 1, f, W => ∃ e, f 43 = ndV x e ∧ LnkO 0 W e x.next ∧ X.grownBy W none
  | 2, f, W => ∃ e g, f 44 = .slice (some ⟨g, 0, none⟩) 1 1 ∧ Blk W g 86 (ndCells x e) ∧ LnkO 0 W e x.next ∧ X.grownBy W none
  | 3, f, W => ∃ e v' W1, f 45 = v' ∧ X.grownBy W1 none ∧ W1.grownBy W vc.ownBlock ∧ CTw wb.heap.size W v' (cs ++ [(x, e)])
  | 4, _, W => ∃ e v' W1 W2, W = W2.setCell ⟨wb.heap.size, 0, none⟩ v' ∧ X.grownBy W1 none ∧ W1.grownBy W2 vc.ownBlock ∧ CTw wb.heap.size W2 v' (cs ++ [(x, e)])
  | _, _, _ => False
/-- What stands as a class' dual is laid. -/
def TDu (X : World) (g k : Nat) (m bo oo : Nat) (dv : Int) (d : Nat → Bool) (f : Tmp → Value) (W : World) : Prop :=
  if d 12 then ∃ W1, W = W1.setCell ⟨g, k * 6 + 1, none⟩ (.int .i64 dv) ∧ X.grownBy W1 none
  else X.grownBy W none ∧ (d 7 = true → f 62 = .int .i64 (m : Int)) ∧ (d 8 = true → f 63 = .pointer (some ⟨bo, oo + m, none⟩)) ∧ (d 9 = true → f 64 = .int .i64 dv)
/-- What stands: the table's box, the classes. -/
structure OC (wb : World) (vc vo vp : Value) (cs : List (Nd × Value)) (W : World) : Prop where
  gr : wb.grownBy W none
  bt : Blk W wb.heap.size 32 #[vc, vo, vp]
  ct : CTw wb.heap.size W vc cs
section
variable {wb W W' : World} {vc vo vp u : Value} {cs cs' : List (Nd × Value)}
theorem OC.kept (h : OC wb vc vo vp cs W) (hg : W.grownBy W' none) : OC wb vc vo vp cs W' := ⟨only_trans h.gr hg, h.bt.kept hg, h.ct.kept hg⟩
theorem own_cls_ne {base g : Nat} {t : TypeId} {cells : Array Value} (h : CTw base W u cs) (hb : Blk W g t cells) (ht : t ≠ 86) : some g ≠ u.ownBlock := fun e => by
  obtain ⟨_, cs', hb'⟩ := own_row h.row g e.symm
  exact Blk.ne_ hb hb' ht rfl
theorem OC.mid (h : OC wb vc vo vp cs W) (hg : W.grownBy W' vc.ownBlock) : wb.grownBy W' none ∧ Blk W' wb.heap.size 32 #[vc, vo, vp] :=
  ⟨grown_own h.gr (fun g e => (World.ownsRow.lt h.ct.row g e).1) hg, h.bt.grown hg (own_cls_ne h.ct h.bt (by decide))⟩
theorem OC.put (h : OC wb vc vo vp cs W) (hg : W.grownBy W' vc.ownBlock) (ho : CTw wb.heap.size W' u cs') : OC wb u vo vp cs' (W'.setCell ⟨wb.heap.size, 0, none⟩ u) := by
  obtain ⟨h1, h2⟩ := h.mid hg
  have hs : W'.grownBy (W'.setCell ⟨wb.heap.size, 0, none⟩ u) (some wb.heap.size) := only_setCell (only_refl _ _) rfl _
  refine ⟨only_setNew h1 (Nat.le_refl _) _, h2.set_ 0 u, ho.row_block hs fun g e => ?_⟩
  injection e with e
  subst e
  exact ⟨Nat.le_refl _, _, _, h2, by decide, by decide⟩
end
theorem rv_indexCs0 {o : Oper} {b : Act} {W : World} {t s : Tmp} {b0 n c k : Nat} (ho : o.op = .indexAddr 30 (.tmp s) (.tmp t)) (h1 : b.eval (.tmp s) = .slice (some ⟨b0, 0, none⟩) n c) (h2 : b.eval (.tmp t) = .int .i64 (k : Int)) (hk : k < n) : (execOp b.eval o).run Try.prog W = .ok (.value (.pointer (some ⟨b0, k * 6, none⟩))) W := by
  have := rv_indexCs (W := W) ho h1 h2 hk
  rwa [Nat.zero_add] at this
section
variable {wb W W' : World} {vo vp : Value} {cs : List (Nd × Value)} {g n cap k : Nat} {p : Nd × Value}
/-- A class' dual is laid. -/
theorem OC.dual (h : OC wb (.slice (some ⟨g, 0, none⟩) n cap) vo vp cs W) (hn : cs.length = n) (hk : cs[k]? = some p) (d : Int) : OC wb (.slice (some ⟨g, 0, none⟩) n cap) vo vp (cs.set k ({ p.1 with prio := d }, p.2)) (W.setCell ⟨g, k * 6 + 1, none⟩ (.int .i64 d)) := by
  obtain ⟨h1, hgs⟩ := h.ct.putc hn hk 1 (by omega) (.int .i64 d) { p.1 with prio := d } rfl rfl
  have hb := (World.ownsRow.lt h.ct.row g rfl).1
  exact ⟨only_new h.gr hgs hb, h.bt.grown hgs (own_cls_ne h.ct h.bt (by decide)), h1⟩
theorem OC.cell (h : OC wb (.slice (some ⟨g, 0, none⟩) n cap) vo vp cs W) (hk : cs[k]? = some p) : W.cell? ⟨g, k * 6 + 1, none⟩ = some (.int .i64 p.1.prio) ∧ W.frozen? ⟨g, k * 6 + 1, none⟩ = false := by
  obtain ⟨_, as', hb⟩ := own_row h.ct.row g rfl
  refine ⟨?_, hb.frozen _⟩
  have := h.ct.row.cells (g := g) rfl (k * 6 + 1) (.int .i64 p.1.prio) (ndAll_at hk 1 (by omega))
  rwa [addr_plain, Nat.zero_add] at this
end
section
variable {X W : World} {g k m bo oo : Nat} {dv : Int} {d d' : Nat → Bool} {f f' : Tmp → Value}
theorem TDu.congr (h : TDu X g k m bo oo dv d f W) (h62 : f 62 = f' 62) (h63 : f 63 = f' 63) (h64 : f 64 = f' 64) : TDu X g k m bo oo dv d f' W := by
  unfold TDu at h ⊢
  rw [h62, h63, h64] at h
  exact h
theorem TDu.same (h : TDu X g k m bo oo dv d f W) (h7 : d 7 = d' 7) (h8 : d 8 = d' 8) (h9 : d 9 = d' 9) (h12 : d 12 = d' 12) : TDu X g k m bo oo dv d' f W := by
  unfold TDu at h ⊢
  rw [h7, h8, h9, h12] at h
  exact h
theorem tdu_a (h12 : d 12 = false) : TDu X g k m bo oo dv d f W ↔ X.grownBy W none ∧ (d 7 = true → f 62 = .int .i64 (m : Int)) ∧ (d 8 = true → f 63 = .pointer (some ⟨bo, oo + m, none⟩)) ∧ (d 9 = true → f 64 = .int .i64 dv) := by
  unfold TDu
  rw [h12]
  simp only [Bool.false_eq_true, if_false]
theorem tdu_b (h12 : d 12 = true) : TDu X g k m bo oo dv d f W ↔ ∃ W1, W = W1.setCell ⟨g, k * 6 + 1, none⟩ (.int .i64 dv) ∧ X.grownBy W1 none := by
  unfold TDu
  rw [h12]
  simp only [if_true]
end
end Go.Proofs.Ytmhbmeckdbdhpaa

namespace Go.Proofs.Ytmhbmeckdbdhpaa
open Go.RowKit Go.Shelf

theorem tx_two {xs : List Nd} (hk : OKT xs) : TX (twoL xs) := by
  have hle := hk.le
  refine ⟨tw_two hk, by rw [twoL_len]; omega, fun x hx h0 => ?_⟩
  have none_ : ∀ y ∈ xs, y.kind = 0 → y.next = [] ∧ y.chan = false := fun y hy hy0 => by
    have hh := (ill_facts (hk.good y hy).1).1
    unfold headB at hh
    simp only [Bool.and_eq_true] at hh
    obtain ⟨⟨⟨_, h2⟩, _⟩, h4⟩ := hh
    rw [hy0] at h2 h4
    unfold withinB leastN mostN at h2
    simp only [if_true, Bool.and_eq_true, decide_eq_true_eq] at h2
    refine ⟨List.eq_nil_of_length_eq_zero (by omega), ?_⟩
    unfold payB paysB at h4
    cases hc : y.chan with
    | false => rfl
    | true => rw [hc] at h4; simp at h4
  unfold twoL at hx
  rcases List.mem_append.1 hx with hx | hx
  · obtain ⟨h1, h2⟩ := none_ x hx h0
    unfold allE
    rw [h1, h2]; rfl
  · obtain ⟨y, hy, rfl⟩ := List.mem_map.1 hx
    have hy0 : y.kind = 0 := by
      have : dualK y.kind = 0 := h0
      unfold dualK at this
      repeat' split at this
      all_goals omega
    obtain ⟨h1, h2⟩ := none_ y hy hy0
    unfold allE dualN
    rw [h1, h2]; rfl

theorem lay_results {tmps : Array Value} {W : World} {g : Nat} {a0 a1 a2 : Value} (hp : tmps.getD 2 undef = .pointer (some ⟨g, 0, none⟩)) (hb : Blk W g 90 #[a0, a1, a2]) :
    (results Try.f31 tmps).run Try.prog W = .ok (.agg #[a0, a1, a2]) W := by
  have hp' : tmps[2]?.getD undef = .pointer (some ⟨g, 0, none⟩) := by simpa using hp
  have hs : (Try.prog.info? 90).map (·.size) = some 3 := by kernel_rfl
  simp [results, Try.results31, hp', asAddr, run_loadVar_row W g _ 90 _ _ _ hb Try.underlying90 rfl (by exact hs)]
set_option maxRecDepth 100000 in
set_option maxHeartbeats 2000000 in
theorem clay_any (xs : List Nd) (hk : OKT xs) (v : Value) (w : World) (hT : Tbl w v xs) :
    Calls Try.prog 31 #[v] w fun en w' => (∃ lv, en = .returned lv ∧ LaidV w' lv (twoL xs)) ∧ w.grownBy w' none := by
  have hX := tx_two hk
  have htl : tableL xs = twoL xs := by
    have := hk.check
    exact tableL_ok (by rw [this])
  have HT := Lib.hid hT
  have HL : Hid (xs.length ≤ 1000) := Lib.hid (by have := hk.le; omega)
  have HTL := Lib.hid htl
  obtain ⟨A, cap, rfl, _⟩ := id hT
  clear hT htl
  go_enter Try.func31, Try.ntmps31
  go_upto_region 2 with (go_at_call 49; go_must (refine (dtable_con xs _ _ (HT.out.keep (.grown (only_alloc (only_refl _ _) _))) HL.out).mono ?_; rw [HTL.out]; rintro e w1 ⟨⟨u, ns, rfl, hot, hns⟩, hg1⟩; have HTB := Lib.hid (hns ▸ hot.tbl); have HG1 := Lib.hid hg1; have hln : ns.length = (twoL xs).length := (by rw [← hns, List.length_map]); obtain ⟨A2, c2, rfl⟩ := hot.len; rw [hln] at *; clear hot hns hg1 hln))
  have HX := Lib.hid hX
  have HG0 : Hid (w.grownBy w1 none) := Lib.hid (only_trans (only_alloc (only_refl _ _) _) HG1.out)
  have HB0 : Hid (Blk w1 w.heap.size 90 #[.slice none 0 0, .slice none 0 0, .slice none 0 0]) := Lib.hid ((Blk.new w _ _).kept HG1.out)
  generalize hLL : twoL xs = L at *
  have HLL := Lib.hid hLL
  clear hX HTL HT HL HG1 hLL
  generalize hW2 : World.alloc _ _ = W2
  have hl2 : LZ w1 #[.slice A2 L.length c2, .slice none 0 0, .slice none 0 0] (.slice none 0 0) (.slice none 0 0) [] [] W2 := by
    rw [← hW2]
    exact ⟨only_alloc (only_refl _ _) _, Blk.new _ _ _, IOwn.nil_ _ _, IOwn.nil_ _ _, fun g e => by simp [Value.ownBlock] at e⟩
  have l0 := hl2.bl.cell 0
  have HLZ := Lib.hid hl2
  have hlI : (L.length : Int) ≤ 128 := by have := HX.out.len; omega
  clear hW2 hl2
  go_wp2_with fail
  clear l0
  go_loopw [14] (fun i W => ∃ (k : Nat) (vt vp : Value), k ≤ L.length ∧ i = .int .i64 (k : Int) ∧ LZ w1 #[.slice A2 L.length c2, vt, vp] vt vp (((rootsL L).take k).map Int.ofNat) ((List.range k).map (prioL L)) W) (fun i _ => L.length - (intOf i).toNat)
  case atStart => exact ⟨0, _, _, Nat.zero_le _, rfl, HLZ.out⟩
  case round =>
    obtain ⟨k, vt, vp, hk1, rfl, hs⟩ := hrel
    have HS := Lib.hid hs
    clear hs
    by_cases hlt : k < L.length
    · obtain ⟨m, y, s, hy, hy5, s0, s1, hrt, hpr, hres⟩ := root_at HX.out.tw hlt
      have hr0 := hres 0 (by omega) (by omega)
      rw [Int.add_zero] at hr0
      have HR0 := Lib.hid hr0
      have HPR := Lib.hid hpr
      have HRT := Lib.hid hrt
      have gy := HX.out.tw.good y (List.mem_of_getElem? hy)
      obtain ⟨b2, o2, A3, k3, hA2, hE3, m0, m1, m2, m3, m4, m5⟩ := cls_at HTB.out hy
      subst hA2
      have hml : m < L.length := (List.getElem?_eq_some_iff.1 hy).1
      have hm0 : (0 : Int) ≤ (m : Int) := by omega
      have hm1 : (m : Int) < (L.length : Int) := by omega
      have hk0 : (0 : Int) ≤ (k : Int) := by omega
      have hkI : (k : Int) < (L.length : Int) := by omega
      have gp := gy.2.1
      obtain ⟨At, nt, ct, rfl⟩ : ∃ A n c, vt = .slice A n c := by obtain ⟨A, c, e⟩ := HS.out.it.len; exact ⟨_, _, _, e⟩
      obtain ⟨Ap, np, cp, rfl⟩ : ∃ A n c, vp = .slice A n c := by obtain ⟨A, c, e⟩ := HS.out.ip.len; exact ⟨_, _, _, e⟩
      have l0 := HS.out.bl.cell 0
      clear hr0 hpr hrt hres hy5 hE3 hy gy
      go_upto_region 7 with (go_at_call 50; go_must (refine (resolve_any L _ ((k : Int), 0) _ (HTB.out.keep (.grown HS.out.gr)) (by have := HX.out.len; omega)).mono ?_; rw [HR0.out]; rintro e w5 ⟨rfl, hg5⟩; have HS5 := Lib.hid (HS.out.kept hg5); clear hg5))
      generalize hW6 : World.alloc _ _ = W6
      have hg6 : w5.grownBy W6 none := by rw [← hW6]; exact only_alloc (only_refl _ _) _
      have hbg : Blk W6 w5.heap.size 59 #[.int .i64 (m : Int), .int .i64 s] := by rw [← hW6]; exact Blk.new w5 _ _
      have HS6 := Lib.hid (HS5.out.kept hg6)
      have HBG := Lib.hid hbg
      have l0 := HS6.out.bl.cell 0
      have g0 := hbg.cell 0
      have g1 := hbg.cell 1
      have M0 := Keeps.grown HS6.out.gr _ _ m0
      have M1 := Keeps.grown HS6.out.gr _ _ m1
      have M2 := Keeps.grown HS6.out.gr _ _ m2
      have M3 := Keeps.grown HS6.out.gr _ _ m3
      have M4 := Keeps.grown HS6.out.gr _ _ m4
      have M5 := Keeps.grown HS6.out.gr _ _ m5
      have hb2 : b2 < W6.heap.size := cell_lt M0
      clear hW6 hg6 hbg m0 m1 m2 m3 m4 m5 HS5
      go_upto_region 8 with fail
      generalize hW8 : World.alloc _ _ = W8
      have hg8 : W6.grownBy W8 none := by rw [← hW8]; exact only_alloc (only_refl _ _) _
      have hbn : Blk W8 W6.heap.size 70 (ndCells y (.slice A3 y.next.length k3)) := by rw [← hW8]; exact Blk.new W6 _ _
      have HS8 := Lib.hid (HS6.out.kept hg8)
      have HBG8 := Lib.hid (HBG.out.kept hg8)
      have n0 := hbn.cell 0
      have n1 := hbn.cell 1
      have g1 := HBG8.out.cell 1
      clear hW8 hg8 hbn M0 M1 M2 M3 M4 M5 hb2 HBG HS6 l0 g0
      go_upto_if 30 with fail
      have hwp : IntKind.i64.wrap (y.prio + s) = y.prio + s := IntWalk.i64_in _ ⟨by omega, by omega⟩
      go_cut [6, 27, 29, 30] from 31 to 35 (fun u _ _ _ wx => u = .int .i64 (prioL L k) ∧ W8 = wx)
      case first =>
        go_wp2_with fail
        · have h : (y.kind != 0) = true := (by assumption)
          have h0 : ¬ y.kind = 0 := by simpa using h
          go_meet
          exact ⟨by rw [HPR.out, if_neg h0], rfl⟩
        · have h : (y.kind != 0) = false := (by assumption)
          have h0 : y.kind = 0 := by simpa using h
          go_meet
          exact ⟨by rw [HPR.out, if_pos h0], rfl⟩
      case rest =>
        obtain ⟨rfl, rfl⟩ := hcut
        clear n0 n1 g1 hwp
        go_upto_region 10 with fail
        obtain ⟨pk, hpk⟩ : ∃ pk, prioL L k = pk := ⟨_, rfl⟩
        rw [hpk]
        have HPK := Lib.hid hpk
        clear hpk
        refine region_acts (by kernel_rfl)
          [(3, .pointer (some ⟨w1.heap.size, 0, none⟩)), (5, .pointer (some ⟨w5.heap.size, 0, none⟩)), (6, .int .i64 pk), (36, .pointer (some ⟨w1.heap.size, 1, none⟩)), (37, .slice At nt ct), (38, .pointer (some ⟨w5.heap.size, 0, none⟩)), (39, .int .i64 (m : Int)), (42, .pointer (some ⟨w1.heap.size, 2, none⟩)), (43, .slice Ap np cp), (44, .int .i64 pk), (47, .pointer (some ⟨w1.heap.size, 1, none⟩)), (48, .pointer (some ⟨w1.heap.size, 2, none⟩))]
          (by kernel_rfl) [36, 37, 38, 39, 40, 41, 42, 43, 44, 45, 46, 47, 48] (by kernel_rfl) (by kernel_rfl) (by decide) ?h0 [4, 5, 9, 10, 12, 14]
          (TLy w1 (.slice (some ⟨b2, o2, none⟩) L.length c2) (.slice At nt ct) (.slice Ap np cp) (((rootsL L).take k).map Int.ofNat) ((List.range k).map (prioL L)) w5.heap.size (m : Int) pk s) ?hT ?hd ?reads ?steps ?hT0 ?hQ
        case h0 =>
          intro p hp hn
          simp only [List.mem_cons, List.not_mem_nil, or_false] at hp
          rcases hp with rfl | rfl | rfl | rfl | rfl | rfl | rfl | rfl | rfl | rfl | rfl | rfl
          all_goals first | rfl | exact absurd (by dsimp only; decide) hn
        case hT => exact fun d f g W h he => h.congr (he 40 rfl) (he 41 rfl) (he 45 rfl) (he 46 rfl)
        case hd =>
          intro d i f W hi h
          simp only [List.mem_cons, List.not_mem_nil, or_false, not_or] at hi
          obtain ⟨i4, i5, i9, i10, i12, i14⟩ := hi
          exact h.same (doneD_ne d (Ne.symm i4)).symm (doneD_ne d (Ne.symm i5)).symm (doneD_ne d (Ne.symm i9)).symm (doneD_ne d (Ne.symm i10)).symm (doneD_ne d (Ne.symm i12)).symm (doneD_ne d (Ne.symm i14)).symm
        case reads =>
          intro i o ho hn
          have h9 : i = 0 ∨ i = 1 ∨ i = 2 ∨ i = 3 ∨ i = 6 ∨ i = 7 ∨ i = 8 ∨ i = 11 ∨ i = 13 := by
            have h1 := (Array.getElem?_eq_some_iff.1 ho).1
            simp only [List.size_toArray, List.length_cons, List.length_nil] at h1
            simp only [List.mem_cons, List.not_mem_nil, or_false] at hn
            omega
          rcases h9 with rfl | rfl | rfl | rfl | rfl | rfl | rfl | rfl | rfl
          · cases ho
            exact ⟨36, _, rfl, rfl, fun d b W' hdi hcl hT' henv => rv_laid1 rfl (henv 3 _ (by simp [Op.operands]) rfl)⟩
          · cases ho
            refine ⟨37, _, rfl, rfl, fun d b W' hdi hcl hT' henv => ?_⟩
            have c5 : d 5 = true → d 4 = true := fun h => hcl 5 _ ⟨4, Ground.data⟩ h rfl (by simp) rfl
            have c10 : d 10 = true → d 5 = true := fun h => hcl 10 _ ⟨5, Ground.chain⟩ h rfl (by simp) rfl
            have c12 : d 12 = true → d 10 = true := fun h => hcl 12 _ ⟨10, Ground.chain⟩ h rfl (by simp) rfl
            have c14 : d 14 = true → d 12 = true := fun h => hcl 14 _ ⟨12, Ground.chain⟩ h rfl (by simp) rfl
            have d5 : d 5 = false := not_done fun h => by rw [hcl 5 _ ⟨1, Ground.data⟩ h rfl (by simp) rfl] at hdi; cases hdi
            have d10 : d 10 = false := not_done fun h => by rw [c10 h] at d5; cases d5
            have d12 : d 12 = false := not_done fun h => by rw [c12 h] at d10; cases d10
            have d14 : d 14 = false := not_done fun h => by rw [c14 h] at d12; cases d12
            have hA := (tly_a d5 d10 d12 d14).1 hT'
            exact rc_loadInts rfl (henv 36 _ (by simp [Op.operands]) rfl) (hA.1.bl.cell 1)
          · cases ho
            exact ⟨38, _, rfl, rfl, fun d b W' hdi hcl hT' henv => rv_type0 rfl (henv 5 _ (by simp [Op.operands]) rfl)⟩
          · cases ho
            refine ⟨39, _, rfl, rfl, fun d b W' hdi hcl hT' henv => ?_⟩
            have c5 : d 5 = true → d 4 = true := fun h => hcl 5 _ ⟨4, Ground.data⟩ h rfl (by simp) rfl
            have c10 : d 10 = true → d 5 = true := fun h => hcl 10 _ ⟨5, Ground.chain⟩ h rfl (by simp) rfl
            have c12 : d 12 = true → d 10 = true := fun h => hcl 12 _ ⟨10, Ground.chain⟩ h rfl (by simp) rfl
            have c14 : d 14 = true → d 12 = true := fun h => hcl 14 _ ⟨12, Ground.chain⟩ h rfl (by simp) rfl
            have d4 : d 4 = false := not_done fun h => by rw [hcl 4 _ ⟨3, Ground.data⟩ h rfl (by simp) rfl] at hdi; cases hdi
            have d5 : d 5 = false := not_done fun h => by rw [c5 h] at d4; cases d4
            have d10 : d 10 = false := not_done fun h => by rw [c10 h] at d5; cases d5
            have d12 : d 12 = false := not_done fun h => by rw [c12 h] at d10; cases d10
            have d14 : d 14 = false := not_done fun h => by rw [c14 h] at d12; cases d12
            have hA := (tly_a d5 d10 d12 d14).1 hT'
            exact rc_loadInt rfl (henv 38 _ (by simp [Op.operands]) rfl) (hA.2.1.cell 0)
          · cases ho
            exact ⟨42, _, rfl, rfl, fun d b W' hdi hcl hT' henv => rv_laid2 rfl (henv 3 _ (by simp [Op.operands]) rfl)⟩
          · cases ho
            refine ⟨43, _, rfl, rfl, fun d b W' hdi hcl hT' henv => ?_⟩
            have c5 : d 5 = true → d 4 = true := fun h => hcl 5 _ ⟨4, Ground.data⟩ h rfl (by simp) rfl
            have c10 : d 10 = true → d 5 = true := fun h => hcl 10 _ ⟨5, Ground.chain⟩ h rfl (by simp) rfl
            have c12 : d 12 = true → d 10 = true := fun h => hcl 12 _ ⟨10, Ground.chain⟩ h rfl (by simp) rfl
            have c14 : d 14 = true → d 12 = true := fun h => hcl 14 _ ⟨12, Ground.chain⟩ h rfl (by simp) rfl
            have d10 : d 10 = false := not_done fun h => by rw [hcl 10 _ ⟨7, Ground.data⟩ h rfl (by simp) rfl] at hdi; cases hdi
            have d12 : d 12 = false := not_done fun h => by rw [c12 h] at d10; cases d10
            have d14 : d 14 = false := not_done fun h => by rw [c14 h] at d12; cases d12
            refine rc_loadInts rfl (henv 42 _ (by simp [Op.operands]) rfl) ?_
            cases d5 : d 5 with
            | false => exact ((tly_a d5 d10 d12 d14).1 hT').1.bl.cell 2
            | true =>
              obtain ⟨⟨t', _, hz⟩, _⟩ := (tly_b d5 d10 d12 d14).1 hT'
              exact hz.bl.cell 2
          · cases ho
            exact ⟨44, _, rfl, rfl, fun d b W' hdi hcl hT' henv => rc_move rfl (henv 6 _ (by simp [Op.operands]) rfl)⟩
          · cases ho
            exact ⟨47, _, rfl, rfl, fun d b W' hdi hcl hT' henv => rv_laid1 rfl (henv 3 _ (by simp [Op.operands]) rfl)⟩
          · cases ho
            exact ⟨48, _, rfl, rfl, fun d b W' hdi hcl hT' henv => rv_laid2 rfl (henv 3 _ (by simp [Op.operands]) rfl)⟩
        case steps =>
          intro i o ho hi
          have h6 : i = 4 ∨ i = 5 ∨ i = 9 ∨ i = 10 ∨ i = 12 ∨ i = 14 := by simpa using hi
          rcases h6 with rfl | rfl | rfl | rfl | rfl | rfl
          · cases ho
            refine ⟨fun t e => by cases e; rfl, fun d b W' hb hdi hpre hcl hT' henv => ?_⟩
            have c5 : d 5 = true → d 4 = true := fun h => hcl 5 _ ⟨4, Ground.data⟩ h rfl (by simp) rfl
            have c10 : d 10 = true → d 5 = true := fun h => hcl 10 _ ⟨5, Ground.chain⟩ h rfl (by simp) rfl
            have c12 : d 12 = true → d 10 = true := fun h => hcl 12 _ ⟨10, Ground.chain⟩ h rfl (by simp) rfl
            have c14 : d 14 = true → d 12 = true := fun h => hcl 14 _ ⟨12, Ground.chain⟩ h rfl (by simp) rfl
            have d5 : d 5 = false := not_done fun h => by rw [c5 h] at hdi; cases hdi
            have d10 : d 10 = false := not_done fun h => by rw [c10 h] at d5; cases d5
            have d12 : d 12 = false := not_done fun h => by rw [c12 h] at d10; cases d10
            have d14 : d 14 = false := not_done fun h => by rw [c14 h] at d12; cases d12
            obtain ⟨hz, hbg, _, h9⟩ := (tly_a d5 d10 d12 d14).1 hT'
            refine wp_buildI rfl (henv 39 _ (by simp [Op.operands]) rfl) ⟨_, rfl, ?_⟩
            have hg : W'.grownBy (W'.alloc (.cells #[.int .i64 (m : Int)] 3)) none := only_alloc (only_refl _ _) _
            refine (tly_a (by rw [doneD_ne d (by decide)]; exact d5) (by rw [doneD_ne d (by decide)]; exact d10) (by rw [doneD_ne d (by decide)]; exact d12) (by rw [doneD_ne d (by decide)]; exact d14)).2 ⟨hz.kept hg, hbg.kept hg, fun _ => NewI.made (by rw [hb]; show _ < 51; decide) hz.it, fun h => ?_⟩
            rw [doneD_ne d (by decide)] at h
            exact ⟨(h9 h).1.kept hg (act_put_ne _ (by decide)).symm, (h9 h).2.kept hg (act_put_ne _ (by decide)).symm⟩
          · cases ho
            refine ⟨fun t e => by cases e; rfl, fun d b W' hb hdi hpre hcl hT' henv => ?_⟩
            have c5 : d 5 = true → d 4 = true := fun h => hcl 5 _ ⟨4, Ground.data⟩ h rfl (by simp) rfl
            have c10 : d 10 = true → d 5 = true := fun h => hcl 10 _ ⟨5, Ground.chain⟩ h rfl (by simp) rfl
            have c12 : d 12 = true → d 10 = true := fun h => hcl 12 _ ⟨10, Ground.chain⟩ h rfl (by simp) rfl
            have c14 : d 14 = true → d 12 = true := fun h => hcl 14 _ ⟨12, Ground.chain⟩ h rfl (by simp) rfl
            have d10 : d 10 = false := not_done fun h => by rw [c10 h] at hdi; cases hdi
            have d12 : d 12 = false := not_done fun h => by rw [c12 h] at d10; cases d10
            have d14 : d 14 = false := not_done fun h => by rw [c14 h] at d12; cases d12
            have d4 : d 4 = true := hpre ⟨4, Ground.data⟩ (by simp) rfl
            obtain ⟨hz, hbg, h4, h9⟩ := (tly_a hdi d10 d12 d14).1 hT'
            obtain ⟨g, hg1, hg2, _⟩ := h4 d4
            refine wp_appendI (.tmp 37) (.tmp 40) rfl (henv 37 _ (by simp [Op.operands, Call.operands]) rfl) hg1 hz.it hg2 (by rw [List.length_map, List.length_take]; have := HX.out.len; omega) hz.gr.size (fun t' W5 ho5 hg5 hb5 => ⟨_, rfl, ?_⟩)
            refine (tly_b (doneD_at d 5) (by rw [doneD_ne d (by decide)]; exact d10) (by rw [doneD_ne d (by decide)]; exact d12) (by rw [doneD_ne d (by decide)]; exact d14)).2 ⟨⟨t', act_put_atC _ (by rw [hb]; show _ < 51; decide), hz.putT hg5 ho5 hb5⟩, fun h => ?_⟩
            rw [doneD_ne d (by decide)] at h
            exact (h9 h).1.grown (h9 h).2 hg5 (act_put_ne _ (by decide)).symm
          · cases ho
            refine ⟨fun t e => by cases e; rfl, fun d b W' hb hdi hpre hcl hT' henv => ?_⟩
            have c5 : d 5 = true → d 4 = true := fun h => hcl 5 _ ⟨4, Ground.data⟩ h rfl (by simp) rfl
            have c10 : d 10 = true → d 5 = true := fun h => hcl 10 _ ⟨5, Ground.chain⟩ h rfl (by simp) rfl
            have c12 : d 12 = true → d 10 = true := fun h => hcl 12 _ ⟨10, Ground.chain⟩ h rfl (by simp) rfl
            have c14 : d 14 = true → d 12 = true := fun h => hcl 14 _ ⟨12, Ground.chain⟩ h rfl (by simp) rfl
            have d10 : d 10 = false := not_done fun h => by rw [hcl 10 _ ⟨9, Ground.data⟩ h rfl (by simp) rfl] at hdi; cases hdi
            have d12 : d 12 = false := not_done fun h => by rw [c12 h] at d10; cases d10
            have d14 : d 14 = false := not_done fun h => by rw [c14 h] at d12; cases d12
            have hg : W'.grownBy (W'.alloc (.cells #[.int .i64 pk] 3)) none := only_alloc (only_refl _ _) _
            refine wp_buildI rfl (henv 44 _ (by simp [Op.operands]) rfl) ⟨_, rfl, ?_⟩
            cases d5 : d 5 with
            | false =>
              obtain ⟨hz, hbg, h4, _⟩ := (tly_a d5 d10 d12 d14).1 hT'
              refine (tly_a (by rw [doneD_ne d (by decide)]; exact d5) (by rw [doneD_ne d (by decide)]; exact d10) (by rw [doneD_ne d (by decide)]; exact d12) (by rw [doneD_ne d (by decide)]; exact d14)).2 ⟨hz.kept hg, hbg.kept hg, fun h => ?_, fun _ => ⟨NewI.made (by rw [hb]; show _ < 51; decide) hz.ip, NewI.made (by rw [hb]; show _ < 51; decide) hz.it⟩⟩
              rw [doneD_ne d (by decide)] at h
              exact (h4 h).kept hg (act_put_ne _ (by decide)).symm
            | true =>
              obtain ⟨⟨t', e1, hz⟩, _⟩ := (tly_b d5 d10 d12 d14).1 hT'
              exact (tly_b (by rw [doneD_ne d (by decide)]; exact d5) (by rw [doneD_ne d (by decide)]; exact d10) (by rw [doneD_ne d (by decide)]; exact d12) (by rw [doneD_ne d (by decide)]; exact d14)).2 ⟨⟨t', (act_put_ne _ (by decide)).trans e1, hz.kept hg⟩, fun _ => NewI.made (by rw [hb]; show _ < 51; decide) hz.ip⟩
          · cases ho
            refine ⟨fun t e => by cases e; rfl, fun d b W' hb hdi hpre hcl hT' henv => ?_⟩
            have c5 : d 5 = true → d 4 = true := fun h => hcl 5 _ ⟨4, Ground.data⟩ h rfl (by simp) rfl
            have c10 : d 10 = true → d 5 = true := fun h => hcl 10 _ ⟨5, Ground.chain⟩ h rfl (by simp) rfl
            have c12 : d 12 = true → d 10 = true := fun h => hcl 12 _ ⟨10, Ground.chain⟩ h rfl (by simp) rfl
            have c14 : d 14 = true → d 12 = true := fun h => hcl 14 _ ⟨12, Ground.chain⟩ h rfl (by simp) rfl
            have d12 : d 12 = false := not_done fun h => by rw [c12 h] at hdi; cases hdi
            have d14 : d 14 = false := not_done fun h => by rw [c14 h] at d12; cases d12
            have d5 : d 5 = true := hpre ⟨5, Ground.chain⟩ (by simp) rfl
            have d9 : d 9 = true := hpre ⟨9, Ground.data⟩ (by simp) rfl
            obtain ⟨⟨t', e1, hz⟩, h9⟩ := (tly_b d5 hdi d12 d14).1 hT'
            obtain ⟨g, hg1, hg2, _⟩ := h9 d9
            refine wp_appendI (.tmp 43) (.tmp 45) rfl (henv 43 _ (by simp [Op.operands, Call.operands]) rfl) hg1 hz.ip hg2 (by rw [List.length_map, List.length_range]; have := HX.out.len; omega) hz.gr.size (fun p' W5 ho5 hg5 hb5 => ⟨_, rfl, ?_⟩)
            exact (tly_c (doneD_at d 10) (by rw [doneD_ne d (by decide)]; exact d12) (by rw [doneD_ne d (by decide)]; exact d14)).2 ⟨t', p', (act_put_ne _ (by decide)).trans e1, act_put_atC _ (by rw [hb]; show _ < 51; decide), hz.putP hg5 ho5 hb5⟩
          · cases ho
            refine ⟨fun t e => (by cases e), fun d b W' hb hdi hpre hcl hT' henv => ?_⟩
            have c5 : d 5 = true → d 4 = true := fun h => hcl 5 _ ⟨4, Ground.data⟩ h rfl (by simp) rfl
            have c10 : d 10 = true → d 5 = true := fun h => hcl 10 _ ⟨5, Ground.chain⟩ h rfl (by simp) rfl
            have c12 : d 12 = true → d 10 = true := fun h => hcl 12 _ ⟨10, Ground.chain⟩ h rfl (by simp) rfl
            have c14 : d 14 = true → d 12 = true := fun h => hcl 14 _ ⟨12, Ground.chain⟩ h rfl (by simp) rfl
            have d14 : d 14 = false := not_done fun h => by rw [c14 h] at hdi; cases hdi
            have d10 : d 10 = true := hpre ⟨10, Ground.chain⟩ (by simp) rfl
            obtain ⟨t', p', e1, e2, hz⟩ := (tly_c d10 hdi d14).1 hT'
            obtain ⟨A5, c5', rfl⟩ := hz.it.len
            exact wp_storeIs rfl (henv 47 _ (by simp [Op.operands]) rfl) e1 hz.bl rfl ⟨undef, rfl, (tly_d (doneD_at d 12) (by rw [doneD_ne d (by decide)]; exact d14)).2 ⟨_, p', e2, hz.box 1 _⟩⟩
          · cases ho
            refine ⟨fun t e => (by cases e), fun d b W' hb hdi hpre hcl hT' henv => ?_⟩
            have c5 : d 5 = true → d 4 = true := fun h => hcl 5 _ ⟨4, Ground.data⟩ h rfl (by simp) rfl
            have c10 : d 10 = true → d 5 = true := fun h => hcl 10 _ ⟨5, Ground.chain⟩ h rfl (by simp) rfl
            have c12 : d 12 = true → d 10 = true := fun h => hcl 12 _ ⟨10, Ground.chain⟩ h rfl (by simp) rfl
            have c14 : d 14 = true → d 12 = true := fun h => hcl 14 _ ⟨12, Ground.chain⟩ h rfl (by simp) rfl
            have d12 : d 12 = true := hpre ⟨12, Ground.chain⟩ (by simp) rfl
            obtain ⟨t', p', e2, hz⟩ := (tly_d d12 hdi).1 hT'
            obtain ⟨A5, c5', rfl⟩ := hz.ip.len
            exact wp_storeIs rfl (henv 48 _ (by simp [Op.operands]) rfl) e2 hz.bl rfl ⟨undef, rfl, (tly_e (doneD_at d 14)).2 ⟨t', _, hz.box 2 _⟩⟩
        case hT0 =>
          exact (tly_a rfl rfl rfl rfl).2 ⟨HS8.out.kept (only_drew (only_refl _ _)), HBG8.out.kept (only_drew (only_refl _ _)), fun h => (by cases h), fun h => (by cases h)⟩
        case hQ =>
          intro d vs W' hd hv hT'
          obtain ⟨t', p', hz⟩ := (tly_e (hd 14 (by simp))).1 hT'
          have HZ := Lib.hid hz
          simp only [List.foldl_cons, List.foldl_nil, List.setIfInBounds_toArray, List.set_cons_zero, List.set_cons_succ]
          clear hv hT' hz hd
          go_wp2_with fail
          go_roundw
          case rel =>
            refine ⟨k + 1, t', p', by omega, by go_num, ?_⟩
            have h := HZ.out
            have e1 : ((rootsL L).take (k + 1)).map Int.ofNat = ((rootsL L).take k).map Int.ofNat ++ [(m : Int)] := by
              rw [List.take_add_one, root_get L (by omega), HRT.out, List.map_append]; rfl
            have e2 : (List.range (k + 1)).map (prioL L) = (List.range k).map (prioL L) ++ [pk] := by
              rw [List.range_succ, List.map_append, ← HPK.out]; rfl
            rw [e1, e2]
            exact h
          case measure => simp [intOf]; omega
    · have hge : (L.length : Int) ≤ (k : Int) := by omega
      have HKE : Hid (k = L.length) := Lib.hid (by omega)
      obtain ⟨At, nt, ct, rfl⟩ : ∃ A n c, vt = .slice A n c := by obtain ⟨A, c, e⟩ := HS.out.it.len; exact ⟨_, _, _, e⟩
      obtain ⟨Ap, np, cp, rfl⟩ : ∃ A n c, vp = .slice A n c := by obtain ⟨A, c, e⟩ := HS.out.ip.len; exact ⟨_, _, _, e⟩
      have l0 := HS.out.bl.cell 0
      have l1 := HS.out.bl.cell 1
      have l2 := HS.out.bl.cell 2
      have hb0 := HB0.out.kept HS.out.gr
      have HB := Lib.hid hb0
      have r0 := hb0.cell 0
      have r1 := hb0.cell 1
      have r2 := hb0.cell 2
      have f0 := hb0.frozen 0
      have f1 := hb0.frozen 1
      have f2 := hb0.frozen 2
      clear hlt hk1 hb0
      go_wp2_with fail
      obtain ⟨hb9, hg9, hk9⟩ := three_set HB.out (.slice A2 L.length c2) (.slice At nt ct) (.slice Ap np cp)
      have hgw : w.grownBy (((wr.setCell ⟨w.heap.size, 0, none⟩ (.slice A2 L.length c2)).setCell ⟨w.heap.size, 1, none⟩ (.slice At nt ct)).setCell ⟨w.heap.size, 2, none⟩ (.slice Ap np cp)) none := only_new (only_trans HG0.out HS.out.gr) hg9 (Nat.le_refl _)
      refine bodyPost_ret (lay_results rfl hb9) rfl ?_
      refine ⟨⟨_, rfl, ?_⟩, hgw⟩
      rw [HLL.out]
      have h1 := HS.out.it.ints (by rw [List.length_map, List.length_take, roots_len]; have := HX.out.len; have := HKE.out; omega)
      have h2 := HS.out.ip.ints (by rw [List.length_map, List.length_range]; have := HX.out.len; have := HKE.out; omega)
      rw [HKE.out] at h1 h2
      rw [List.take_of_length_le (by rw [roots_len]; omega)] at h1
      exact ⟨_, _, _, rfl, (HTB.out.keep (.grown HS.out.gr)).keepI hk9, h1.keepI hk9, h2.keepI hk9⟩
end Go.Proofs.Ytmhbmeckdbdhpaa

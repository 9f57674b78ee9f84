/- A box that holds a row that a call makes and that grows: texts, pairs of types. -/
import Derived.Test.YtoklaajiajilhaaDoorVLaw
import Derived.Test.YtoklaajiajilhaaDoorGOwn
import Derived.Test.YtoklaajiajilhaaDoorChain
namespace Go.Proofs.YtoklaajiajilhaaDoor
open Go.RowKit

/-- Block Bk (of type T) holds v, an owned row of things of type E. -/
structure GB (w : World) (T E : TypeId) (sz Bk : Nat) (v : Value) (n : Nat) (xs : List Value) (W : World) : Prop where
  gr : w.grownBy W none
  bx : Blk W Bk T #[v]
  hk : w.heap.size ≤ Bk
  ow : W.ownsRow w.heap.size E sz v n xs
section
variable {w W W' : World} {T E : TypeId} {sz Bk : Nat} {v v' : Value} {n n' : Nat} {xs xs' : List Value}
theorem own_kept (h : W.ownsRow w.heap.size E sz v n xs) (hg : W.grownBy W' none) : W'.ownsRow w.heap.size E sz v n xs := h.kept hg (by
  cases e : v.ownBlock with
  | none => exact .inl rfl
  | some g => exact .inr (fun e => by cases e))
theorem GB.kept (h : GB w T E sz Bk v n xs W) (hg : W.grownBy W' none) : GB w T E sz Bk v n xs W' := ⟨only_trans h.gr hg, h.bx.kept hg, h.hk, own_kept h.ow hg⟩
theorem GB.at_ (h : GB w T E sz Bk v n xs W) (hTE : T ≠ E) (hg : W.grownBy W' v.ownBlock) : Blk W' Bk T #[v] := h.bx.grown hg fun e => by
  obtain ⟨_, cs', hb'⟩ := own_row h.ow _ e.symm
  exact Blk.ne_ h.bx hb' hTE rfl
/-- Another block, behind the append and the store. -/
theorem GB.other {k : Nat} {t : TypeId} {cs : Array Value} (h : GB w T E sz Bk v n xs W) (hb : Blk W k t cs) (ht : t ≠ E) (hkB : k ≠ Bk) (hg : W.grownBy W' v.ownBlock) (u : Value) : Blk (W'.setCell ⟨Bk, 0, none⟩ u) k t cs := by
  refine (hb.grown hg (fun e => ?_)).far (p := ⟨Bk, 0, none⟩) hkB _
  obtain ⟨_, cs', hb'⟩ := own_row h.ow k e.symm
  exact Blk.ne_ hb hb' ht rfl
theorem GB.put (h : GB w T E sz Bk v n xs W) (hTE : T ≠ E) (hg : W.grownBy W' v.ownBlock) (ho : W'.ownsRow w.heap.size E sz v' n' xs') : GB w T E sz Bk v' n' xs' (W'.setCell ⟨Bk, 0, none⟩ v') := by
  have hs : W'.grownBy (W'.setCell ⟨Bk, 0, none⟩ v') (some Bk) := only_setCell (only_refl _ _) rfl _
  have b5' := h.at_ hTE hg
  have g1 : w.grownBy W' none := grown_own h.gr (fun g e => (World.ownsRow.lt h.ow g e).1) hg
  refine ⟨only_setNew g1 h.hk _, b5'.set_ 0 v', h.hk, ho.kept hs ?_⟩
  cases e : v'.ownBlock with
  | none => exact .inl rfl
  | some g =>
    refine .inr fun e' => ?_
    injection e' with e'
    subst e'
    obtain ⟨_, cs', hb'⟩ := own_row ho _ e
    exact Blk.ne_ b5' hb' hTE rfl
theorem GB.kb (h : GB w T E sz Bk v n xs W) (hTE : T ≠ E) {B : Nat} {ts : List TypeId} (hB : B ≤ w.heap.size) (hT : T ∈ ts) (hE : E ∈ ts) (hg : W.grownBy W' v.ownBlock) (u : Value) : KB B ts W (W'.setCell ⟨Bk, 0, none⟩ u) := by
  refine (KB.row hg (fun g e => ?_)).trans (KB.row (only_setCell (g := Bk) (only_refl _ _) rfl u) (fun g e => ?_))
  · obtain ⟨hb, cs, hblk⟩ := own_row h.ow g e
    exact ⟨by omega, E, cs, hblk, hE⟩
  · injection e with e
    subst e
    exact ⟨Nat.le_trans hB h.hk, T, _, h.at_ hTE hg, hT⟩
theorem GB.from_ (h : GB w T E sz Bk v n xs W) (hg : W.grownBy W' v.ownBlock) (u : Value) (B : Nat) : KeepsFrom B W (W'.setCell ⟨Bk, 0, none⟩ u) := by
  refine KeepsFrom.trans ⟨hg.size, fun k o _ hk ho => (hg.block k (Array.getElem?_eq_some_iff.1 hk).1 (fun e => ?_)).trans hk⟩ ((KeepsOthers.setCell _ _ _).from _)
  obtain ⟨_, cs', hb'⟩ := own_row h.ow k e.symm
  unfold Blk at hb'
  rw [hb'] at hk
  cases hk
  cases ho
theorem blk_ownF {row : Option Nat} {B k : Nat} {t : TypeId} {cs : Array Value} (h : Blk W k t cs) (hg : W.grownBy W' row) (hr : ∀ r, row = some r → B ≤ r ∧ ∃ o : Obj, W.heap[r]? = some o ∧ o.isCells = false) : Blk W' k t cs := by
  refine h.grown hg (fun e => ?_)
  obtain ⟨_, o, ho, hc⟩ := hr k e.symm
  unfold Blk at h
  rw [h] at ho
  cases ho
  cases hc
theorem grown_ownF {row : Option Nat} {B : Nat} (h : w.grownBy W none) (hB : w.heap.size ≤ B) (hg : W.grownBy W' row) (hr : ∀ r, row = some r → B ≤ r ∧ ∃ o : Obj, W.heap[r]? = some o ∧ o.isCells = false) : w.grownBy W' none := by
  cases e : row with
  | none => rw [e] at hg; exact only_trans h hg
  | some g => rw [e] at hg; exact only_new h hg (Nat.le_trans hB (hr g e).1)
theorem GB.own {row : Option Nat} {B : Nat} (h : GB w T E sz Bk v n xs W) (hB : w.heap.size ≤ B) (hg : W.grownBy W' row) (hr : ∀ r, row = some r → B ≤ r ∧ ∃ o : Obj, W.heap[r]? = some o ∧ o.isCells = false) : GB w T E sz Bk v n xs W' := by
  refine ⟨grown_ownF h.gr hB hg hr, blk_ownF h.bx hg hr, h.hk, h.ow.kept hg ?_⟩
  cases e : v.ownBlock with
  | none => exact .inl rfl
  | some g =>
    refine .inr fun e' => ?_
    obtain ⟨_, cs', hb'⟩ := own_row h.ow _ e
    obtain ⟨_, o, ho, hc⟩ := hr g e'.symm
    unfold Blk at hb'
    rw [hb'] at ho
    cases ho
    cases hc
theorem own_len (h : W.ownsRow w.heap.size E sz v n xs) : ∃ A c, v = .slice A n c := by
  rcases h.2 with ⟨rfl, rfl⟩ | ⟨g, cap, cur, rfl, _⟩
  · exact ⟨_, _, rfl⟩
  · exact ⟨_, _, rfl⟩
end
theorem act_put_at' {b : Act} {t : Tmp} (x : Value) (h : t < b.tmps.size) : (b.put (some t) x).tmps.getD t undef = x := by simp [Act.put, h]

/-! ### Texts -/
abbrev strV (s : List UInt8) : Value := .string ⟨s.toArray⟩
theorem str_info : (Tryd.prog.info? 9).map (fun i => (i.zero, i.size, i.bytes)) = some (some (.string ⟨#[]⟩), 1, 16) := by kernel_rfl
theorem wp_append_str {o : Oper} {a : Act} {W : World} {K : Act → World → Prop} {Q : Exit → Act → World → Prop} (s x : Operand)
    (ho : o.op = .call { callee := .builtin .append, args := #[s, x], argTypes := #[57, 57] })
    {base : Nat} {v : Value} {ss : List (List UInt8)} {e : List UInt8} {g : Nat} (hs : a.eval s = v) (hx : a.eval x = .slice (some ⟨g, 0, none⟩) 1 1)
    (hot : W.ownsRow base 9 1 v ss.length (ss.map strV)) (hb : Blk W g 9 #[strV e]) (hn : ss.length ≤ 1000) (hbase : base ≤ W.heap.size)
    (h : ∀ v' W', W'.ownsRow base 9 1 v' (ss ++ [e]).length ((ss ++ [e]).map strV) → W.grownBy W' v.ownBlock → K (a.put o.dst v') W') : o.wp Tryd.prog a W K Q := by
  obtain ⟨i0, hi, hz0, hz1, hz2⟩ := info_parts str_info
  refine wp_append_own W s x 57 ho base 9 i0 _ 1 16 Tryd.underlying57 hi hz0 hz1 hz2 rfl (by decide) v ss.length (ss.map strV) hs hot
    ⟨g, 0, none⟩ 1 1 [strV e] hx rfl (fun j u hu => ?_) (fun u hu => ?_) (by unfold maxLen; omega) (by omega) hbase (fun v' W' hr hg _ => h v' W' ?_ hg)
  · rw [addr_plain, Nat.zero_add, hb.cell j, ← hu]; simp
  · obtain rfl := List.mem_singleton.1 hu; rfl
  · rw [List.length_append, List.map_append]; exact hr
theorem wp_build_str {o : Oper} {b : Act} {W : World} {K : Act → World → Prop} {Q : Exit → Act → World → Prop} {t : Tmp} {e : List UInt8} (ho : o.op = .buildSlice 57 1 #[(0, .tmp t)]) (h : b.eval (.tmp t) = strV e)
    (hK : K (b.put o.dst (.slice (some ⟨W.heap.size, 0, none⟩) 1 1)) (W.alloc (.cells #[strV e] 9))) : o.wp Tryd.prog b W K Q := by
  obtain ⟨dst, op, type, pos, after, guard⟩ := o
  dsimp only at ho
  subst ho
  have h' : b.tmps[t]?.getD undef = strV e := by simpa [Act.eval] using h
  unfold Oper.wp
  simp only [execOp]
  go_simp
  exact hK
theorem wp_store_strs {o : Oper} {b : Act} {W : World} {K : Act → World → Prop} {Q : Exit → Act → World → Prop} {t u : Tmp} {g : Nat} {v : Value} {A : Option Addr} {n c : Nat} (ho : o.op = .store 57 (.tmp t) (.tmp u)) (ht : b.eval (.tmp t) = .pointer (some ⟨g, 0, none⟩)) (h : b.eval (.tmp u) = .slice A n c)
    (hb : Blk W g 57 #[v]) (hK : K (b.put o.dst undef) (W.setCell ⟨g, 0, none⟩ (.slice A n c))) : o.wp Tryd.prog b W K Q := by
  obtain ⟨dst, op, type, pos, after, guard⟩ := o
  dsimp only at ho
  subst ho
  have c0 := hb.cell 0
  have f0 := hb.frozen 0
  unfold Oper.wp
  simp only [execOp, h, ht]
  go_simp
  exact hK

/-! ### Pairs -/
abbrev prA (p : Ed × Ed) : Array Value := #[.int .i64 p.1.1, .int .i64 p.1.2, .int .i64 p.2.1, .int .i64 p.2.2]
abbrev prV (p : Ed × Ed) : Value := .agg (prA p)
def prAll (ps : List (Ed × Ed)) : List Value := ps.flatMap fun p => (prA p).toList
theorem prAll_snoc (ps : List (Ed × Ed)) (p : Ed × Ed) : prAll (ps ++ [p]) = prAll ps ++ (prA p).toList := by simp [prAll]
theorem prAll_app (ps qs : List (Ed × Ed)) : prAll (ps ++ qs) = prAll ps ++ prAll qs := by simp [prAll]
theorem prAll_len (ps : List (Ed × Ed)) : (prAll ps).length = ps.length * 4 := by
  induction ps with
  | nil => rfl
  | cons e es ih => simp only [prAll, List.flatMap_cons, List.length_append] at ih ⊢; rw [ih]; simp; omega
theorem pair_info : (Tryd.prog.info? 43).map (fun i => (i.zero, i.size, i.bytes)) = some (some (.agg #[.int .i64 0, .int .i64 0, .int .i64 0, .int .i64 0]), 4, 32) := by kernel_rfl
theorem prAll_one {ps : List (Ed × Ed)} : ∀ u ∈ prAll ps, u.oneCell' = true := fun u hu => by
  obtain ⟨p, _, hu⟩ := List.mem_flatMap.1 hu
  simp only [List.mem_cons, List.not_mem_nil, or_false] at hu
  rcases hu with rfl | rfl | rfl | rfl <;> rfl
theorem wp_append_pair {o : Oper} {a : Act} {W : World} {K : Act → World → Prop} {Q : Exit → Act → World → Prop} (s x : Operand)
    (ho : o.op = .call { callee := .builtin .append, args := #[s, x], argTypes := #[44, 44] })
    {base : Nat} {v : Value} {ss : List (Ed × Ed)} {e : Ed × Ed} {g : Nat} (hs : a.eval s = v) (hx : a.eval x = .slice (some ⟨g, 0, none⟩) 1 1)
    (hot : W.ownsRow base 43 4 v ss.length (prAll ss)) (hb : Blk W g 43 (prA e)) (hn : ss.length ≤ 1000) (hbase : base ≤ W.heap.size)
    (h : ∀ v' W', W'.ownsRow base 43 4 v' (ss ++ [e]).length (prAll (ss ++ [e])) → W.grownBy W' v.ownBlock → K (a.put o.dst v') W') : o.wp Tryd.prog a W K Q := by
  obtain ⟨i0, hi, hz0, hz1, hz2⟩ := info_parts pair_info
  refine wp_append_own W s x 44 ho base 43 i0 _ 4 32 Tryd.underlying44 hi hz0 hz1 hz2 rfl (by decide) v ss.length (prAll ss) hs hot
    ⟨g, 0, none⟩ 1 1 (prA e).toList hx rfl (fun j u hu => ?_) (fun u hu => ?_) (by unfold maxLen; omega) (by omega) hbase (fun v' W' hr hg _ => h v' W' ?_ hg)
  · rw [addr_plain, Nat.zero_add, hb.cell j, ← hu]; simp
  · simp only [List.mem_cons, List.not_mem_nil, or_false] at hu
    rcases hu with rfl | rfl | rfl | rfl <;> rfl
  · rw [List.length_append, prAll_snoc]; exact hr
theorem wp_build_pair {o : Oper} {b : Act} {W : World} {K : Act → World → Prop} {Q : Exit → Act → World → Prop} {t : Tmp} {e : Ed × Ed} (ho : o.op = .buildSlice 44 1 #[(0, .tmp t)]) (h : b.eval (.tmp t) = prV e)
    (hK : K (b.put o.dst (.slice (some ⟨W.heap.size, 0, none⟩) 1 1)) (W.alloc (.cells (prA e) 43))) : o.wp Tryd.prog b W K Q := by
  obtain ⟨dst, op, type, pos, after, guard⟩ := o
  dsimp only at ho
  subst ho
  have h' : b.tmps[t]?.getD undef = .agg #[.int .i64 e.1.1, .int .i64 e.1.2, .int .i64 e.2.1, .int .i64 e.2.2] := by simpa [Act.eval] using h
  unfold Oper.wp
  simp only [execOp]
  go_simp
  exact hK
theorem wp_store_pairs {o : Oper} {b : Act} {W : World} {K : Act → World → Prop} {Q : Exit → Act → World → Prop} {t u : Tmp} {g : Nat} {v : Value} {A : Option Addr} {n c : Nat} (ho : o.op = .store 44 (.tmp t) (.tmp u)) (ht : b.eval (.tmp t) = .pointer (some ⟨g, 0, none⟩)) (h : b.eval (.tmp u) = .slice A n c)
    (hb : Blk W g 44 #[v]) (hK : K (b.put o.dst undef) (W.setCell ⟨g, 0, none⟩ (.slice A n c))) : o.wp Tryd.prog b W K Q := by
  obtain ⟨dst, op, type, pos, after, guard⟩ := o
  dsimp only at ho
  subst ho
  have c0 := hb.cell 0
  have f0 := hb.frozen 0
  unfold Oper.wp
  simp only [execOp, h, ht]
  go_simp
  exact hK

/-! ### Reads -/
section
variable {o : Oper} {b : Act} {W : World} {t : Tmp} {p : Addr} {v : Value}
theorem rv_load_strs (ho : o.op = .load 57 (.tmp t)) (he : b.eval (.tmp t) = .pointer (some p)) (hc : W.cell? p = some v) : (execOp b.eval o).run Tryd.prog W = .ok (.value v) W := by
  obtain ⟨dst, op, type, pos, after, guard⟩ := o
  dsimp only at ho
  subst ho
  simp only [execOp, he]
  go_simp
theorem rv_load_pairs (ho : o.op = .load 44 (.tmp t)) (he : b.eval (.tmp t) = .pointer (some p)) (hc : W.cell? p = some v) : (execOp b.eval o).run Tryd.prog W = .ok (.value v) W := by
  obtain ⟨dst, op, type, pos, after, guard⟩ := o
  dsimp only at ho
  subst ho
  simp only [execOp, he]
  go_simp
theorem rv_load_fn (ho : o.op = .load 55 (.tmp t)) (he : b.eval (.tmp t) = .pointer (some p)) (hc : W.cell? p = some v) : (execOp b.eval o).run Tryd.prog W = .ok (.value v) W := by
  obtain ⟨dst, op, type, pos, after, guard⟩ := o
  dsimp only at ho
  subst ho
  simp only [execOp, he]
  go_simp
theorem rv_load_int (ho : o.op = .load 3 (.tmp t)) (he : b.eval (.tmp t) = .pointer (some p)) (hc : W.cell? p = some v) : (execOp b.eval o).run Tryd.prog W = .ok (.value v) W := by
  obtain ⟨dst, op, type, pos, after, guard⟩ := o
  dsimp only at ho
  subst ho
  simp only [execOp, he]
  go_simp
theorem rv_load_type {g : Nat} {e : Ed} (ho : o.op = .load 24 (.tmp t)) (he : b.eval (.tmp t) = .pointer (some ⟨g, 0, none⟩)) (hb : Blk W g 24 (edCells e)) : (execOp b.eval o).run Tryd.prog W = .ok (.value (edV e)) W := by
  have c0 := hb.cell 0
  have c1 := hb.cell 1
  obtain ⟨dst, op, type, pos, after, guard⟩ := o
  dsimp only at ho
  subst ho
  simp only [execOp, he]
  go_simp
theorem rv_sub1 {z : Int} (ho : o.op = .binOp .sub 3 (.tmp t) (.const (.int .i64 1)) 3) (he : b.eval (.tmp t) = .int .i64 z) : (execOp b.eval o).run Tryd.prog W = .ok (.value (.int .i64 (wrap64 (z - 1)))) W := by
  obtain ⟨dst, op, type, pos, after, guard⟩ := o
  dsimp only at ho
  subst ho
  simp only [execOp, he]
  go_simp
  rw [IntWalk.i64_left]
end
end Go.Proofs.YtoklaajiajilhaaDoor

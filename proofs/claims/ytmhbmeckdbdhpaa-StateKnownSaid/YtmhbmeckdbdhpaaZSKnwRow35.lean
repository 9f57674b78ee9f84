/- Texts joined for the claim's sake: DTab, CRnk. -/
import Derived.Test.YtmhbmeckdbdhpaaZSKnwRow34
import Derived.Test.YtmhbmeckdbdhpaaZSKnwRow23
import Derived.Test.YtmhbmeckdbdhpaaZSKnwRow26
import Derived.Test.YtmhbmeckdbdhpaaZSKnwRow8
import Derived.Sort.CutIn
import Derived.Shelf.RegionOpen
import Derived.Test.YtmhbmeckdbdhpaaZSKnwRow19
import Derived.Test.YtmhbmeckdbdhpaaZSKnwRow12
namespace Go.Proofs.Ytmhbmeckdbdhpaa
open Go.RowKit Go.Shelf
attribute [local go_sem] Oper.semAt_some

/-! ### A half, plainly -/
def kindH (h : Nat) (k : Int) : Int := if h = 0 then k else dualK k
def furH (n h : Nat) : Nat := if h = 0 then 0 else n
def halfN (n h : Nat) (x : Nd) : Nd := ⟨kindH h x.kind, x.prio, x.chan, x.pay, x.next.map (upE (furH n h))⟩
def doneL (xs : List Nd) (h : Nat) : List Nd := if h = 0 then [] else if h = 1 then xs else twoL xs
theorem half_0 (n : Nat) (x : Nd) : halfN n 0 x = x := by
  unfold halfN kindH furH
  have e : upE 0 = id := funext fun ⟨a, b⟩ => by simp [upE]
  simp only [if_true, e, List.map_id]
theorem half_1 (n : Nat) (x : Nd) : halfN n 1 x = dualN n x := by
  unfold halfN kindH furH dualN
  simp
theorem done_next (xs : List Nd) {h : Nat} (h2 : h < 2) : doneL xs h ++ xs.map (halfN xs.length h) = doneL xs (h + 1) := by
  match h, h2 with
  | 0, _ =>
    have e : halfN xs.length 0 = id := funext fun x => half_0 _ x
    rw [e, List.map_id]; rfl
  | 1, _ =>
    have e : halfN xs.length 1 = dualN xs.length := funext fun x => half_1 _ x
    rw [e]; rfl

/-- What stands: the box of the nodes, the box of the table that is made, the table. -/
structure DT (w : World) (nv : Value) (B5 : Nat) (v : Value) (ns : List (Nd × Value)) (W : World) : Prop where
  gr : w.grownBy W none
  b1 : Blk W w.heap.size 22 #[nv]
  b5 : Blk W B5 22 #[v]
  h5 : w.heap.size < B5
  ot : OT w.heap.size W v ns
section
variable {w W W' : World} {nv v v' : Value} {B5 : Nat} {ns ns' : List (Nd × Value)}
theorem DT.kept (h : DT w nv B5 v ns W) (hg : W.grownBy W' none) : DT w nv B5 v ns W' := ⟨only_trans h.gr hg, h.b1.kept hg, h.b5.kept hg, h.h5, h.ot.kept hg⟩
/-- Another block, behind the append and the store. -/
theorem DT.other {k : Nat} {t : TypeId} {cs : Array Value} (h : DT w nv B5 v ns W) (hb : Blk W k t cs) (ht : t ≠ 70) (h5 : k ≠ B5) (hg : W.grownBy W' v.ownBlock) (v' : Value) : Blk (W'.setCell ⟨B5, 0, none⟩ v') k t cs := by
  refine (hb.grown hg (fun e => ?_)).far (p := ⟨B5, 0, none⟩) h5 _
  obtain ⟨_, cs', hb'⟩ := own_row h.ot.row k e.symm
  exact Blk.ne_ hb hb' ht rfl
theorem DT.at5 (h : DT w nv B5 v ns W) (hg : W.grownBy W' v.ownBlock) : Blk W' B5 22 #[v] := h.b5.grown hg fun e => by
  obtain ⟨_, cs', hb'⟩ := own_row h.ot.row _ e.symm
  exact Blk.ne_ h.b5 hb' (by decide) rfl
theorem DT.put (h : DT w nv B5 v ns W) (hg : W.grownBy W' v.ownBlock) (ho : OT w.heap.size W' v' ns') : DT w nv B5 v' ns' (W'.setCell ⟨B5, 0, none⟩ v') := by
  have h5 := h.h5
  have hs : W'.grownBy (W'.setCell ⟨B5, 0, none⟩ v') (some B5) := only_setCell (only_refl _ _) rfl _
  have b5' := h.at5 hg
  have g1 : w.grownBy W' none := grown_own h.gr (fun g e => (World.ownsRow.lt h.ot.row g e).1) hg
  refine ⟨only_setNew g1 (Nat.le_of_lt h5) _, h.other h.b1 (by decide) (by omega) hg v', b5'.set_ 0 v', h5, ?_, fun p hp => ?_⟩
  · refine ho.row.kept hs ?_
    cases e : v'.ownBlock with
    | none => exact .inl rfl
    | some g =>
      refine .inr fun e' => ?_
      injection e' with e'
      subst e'
      obtain ⟨_, cs', hb'⟩ := own_row ho.row _ e
      exact Blk.ne_ b5' hb' (by decide) rfl
  · exact (ho.eds p hp).grown hs fun g e => by
      injection e with e
      subst e
      exact ⟨Nat.le_of_lt h5, _, _, b5', by decide⟩
end

/-- What turns a half's nodes: its row of kinds, how much further. -/
theorem turns_half {bk bn N : Nat} {pre : List (Nat × Nat)} {x : Nat × Nat} {W : World} (h : hTm bk bn N pre x W) : pre.length < 2 ∧ (∃ cs, Blk W x.1 139 cs ∧ ∀ k : Nat, k < 6 → cs[k]? = some (.int .i64 (kindH pre.length (k : Int)))) ∧ Blk W x.2 3 #[.int .i64 ((furH N pre.length : Nat) : Int)] := by
  have six : ∀ k : Nat, k < 6 → k = 0 ∨ k = 1 ∨ k = 2 ∨ k = 3 ∨ k = 4 ∨ k = 5 := fun k h => by omega
  obtain ⟨_, ⟨h0, h1, h2⟩ | ⟨h0, h1, h2⟩⟩ := h
  · rw [h0]
    refine ⟨by omega, ⟨_, h1, fun k hk => ?_⟩, h2⟩
    obtain rfl | rfl | rfl | rfl | rfl | rfl := six k hk <;> rfl
  · rw [h0]
    refine ⟨by omega, ⟨_, h1, fun k hk => ?_⟩, h2⟩
    obtain rfl | rfl | rfl | rfl | rfl | rfl := six k hk <;> rfl
theorem blk_own {W W' : World} {row : Option Nat} {B k : Nat} {t : TypeId} {cs : Array Value} (h : Blk W k t cs) (hg : W.grownBy W' row) (hr : ∀ r, row = some r → B ≤ r ∧ ∃ o : Obj, W.heap[r]? = some o ∧ o.isCells = false) : Blk W' k t cs := by
  refine h.grown hg (fun e => ?_)
  obtain ⟨_, o, ho, hc⟩ := hr k e.symm
  unfold Blk at h
  rw [h] at ho
  cases ho
  cases hc
theorem DT.own {w W W' : World} {nv v : Value} {B5 B : Nat} {ns : List (Nd × Value)} {row : Option Nat} (h : DT w nv B5 v ns W) (hg : W.grownBy W' row) (hr : ∀ r, row = some r → B ≤ r ∧ ∃ o : Obj, W.heap[r]? = some o ∧ o.isCells = false) (hB : w.heap.size ≤ B) : DT w nv B5 v ns W' := by
  refine ⟨?_, blk_own h.b1 hg hr, blk_own h.b5 hg hr, h.h5, h.ot.row.kept hg ?_, fun p hp => ?_⟩
  · exact only_of_below ((below_of_only h.gr).grown hg h.gr.size (fun k e => Nat.le_trans hB (hr k e).1)) none
  · cases e : v.ownBlock with
    | none => exact .inl rfl
    | some g =>
      refine .inr fun e' => ?_
      obtain ⟨_, cs', hb'⟩ := own_row h.ot.row _ e
      obtain ⟨_, o, ho, hc⟩ := hr g e'.symm
      unfold Blk at hb'
      rw [hb'] at ho
      cases ho
      cases hc
  · obtain ⟨A, c, h1, hl, h2⟩ := h.ot.eds p hp
    refine ⟨A, c, h1, hl, fun hn => ?_⟩
    obtain ⟨b, off, h3, h5, h4⟩ := h2 hn
    have hne : some b ≠ row := fun e => by
      obtain ⟨hb, o, ho, hc⟩ := hr b e.symm
      rcases h5 with h5 | ⟨cs', h5⟩
      · omega
      · unfold Blk at h5
        rw [h5] at ho
        cases ho
        cases hc
    refine ⟨b, off, h3, h5.imp id (fun ⟨cs, hb⟩ => ⟨cs, hb.grown hg hne⟩), fun i e he => ?_⟩
    have hlt := cell_lt (h4 i e he).1
    have hc := fun o => World.cell?_of_block (a := ⟨b, o, none⟩) (hg.block b hlt hne)
    exact ⟨(hc _).trans (h4 i e he).1, (hc _).trans (h4 i e he).2⟩

/-- Between two halves. -/
def TI (w : World) (xs : List Nd) (nv : Value) (B5 : Nat) (pre : List (Nat × Nat)) (W : World) : Prop := ∃ v ns, ns.map (·.1) = doneL xs pre.length ∧ DT w nv B5 v ns W
theorem ti_own {w : World} {xs : List Nd} {nv : Value} {B5 B : Nat} (hB : w.heap.size ≤ B) : OwnFrom B (TI w xs nv B5) := fun _ _ _ _ ⟨v, ns, h1, h2⟩ hg hr => ⟨v, ns, h1, h2.own hg hr hB⟩
theorem ht_own {bk bn N B : Nat} : OwnFrom B (hT bk bn N) := fun _ _ _ _ ⟨h1, h2⟩ hg hr => ⟨blk_own h1 hg hr, blk_own h2 hg hr⟩
theorem htm_own {bk bn N B : Nat} (x : Nat × Nat) : OwnFrom B (fun pre W => hTm bk bn N pre x W) := fun _ _ _ _ ⟨hh, h⟩ hg hr => by
  refine ⟨ht_own _ _ _ _ hh hg hr, ?_⟩
  rcases h with ⟨h0, h1, h2⟩ | ⟨h0, h1, h2⟩
  · exact .inl ⟨h0, blk_own h1 hg hr, blk_own h2 hg hr⟩
  · exact .inr ⟨h0, blk_own h1 hg hr, blk_own h2 hg hr⟩

theorem wp_append_node {o : Oper} {a : Act} {W : World} {K : Act → World → Prop} {Q : Exit → Act → World → Prop} (s x : Operand)
    (ho : o.op = .call { callee := .builtin .append, args := #[s, x], argTypes := #[22, 22] })
    {base : Nat} {v : Value} {ns : List (Nd × Value)} {nd : Nd} {e : Value} {g : Nat} (hs : a.eval s = v) (hx : a.eval x = .slice (some ⟨g, 0, none⟩) 1 1)
    (hot : OT base W v ns) (hb : Blk W g 70 (ndCells nd e)) (hE : EdgesO base W e nd.next) (hn : ns.length ≤ 1000) (hbase : base ≤ W.heap.size)
    (h : ∀ v' W', OT base W' v' (ns ++ [(nd, e)]) → W.grownBy W' v.ownBlock → K (a.put o.dst v') W') : o.wp Try.prog a W K Q := by
  obtain ⟨i0, hi, hz0, hz1, hz2⟩ := info_parts node_info
  have hE2 := hE
  obtain ⟨A2, c2, he, _⟩ := hE2
  refine wp_append_own W s x 22 ho base 70 i0 _ 6 64 Try.underlying22 hi hz0 hz1 hz2 rfl (by decide) v ns.length (ndAll ns) hs hot.row
    ⟨g, 0, none⟩ 1 1 (ndCells nd e).toList hx rfl (fun j u hu => ?_) (fun u hu => ?_) (by unfold maxLen; omega) (by omega) hbase (fun v' W' hr hg _ => h v' W' ⟨?_, ?_⟩ hg)
  · rw [addr_plain, Nat.zero_add, hb.cell j, ← hu]; simp
  · rw [he] at hu
    simp only [List.mem_cons, List.not_mem_nil, or_false] at hu
    rcases hu with rfl | rfl | rfl | rfl | rfl | rfl <;> rfl
  · rw [List.length_append, ndAll_snoc]; exact hr
  · intro p hp
    rcases List.mem_append.1 hp with hp | hp
    · refine (hot.eds p hp).grown hg (fun g' e' => ?_)
      obtain ⟨hb', cs, hblk⟩ := own_row hot.row g' e'
      exact ⟨hb', cs, _, hblk, by decide⟩
    · obtain rfl := List.mem_singleton.1 hp
      refine hE.grown hg (fun g' e' => ?_)
      obtain ⟨hb', cs, hblk⟩ := own_row hot.row g' e'
      exact ⟨hb', cs, _, hblk, by decide⟩
/-- The turn's call. -/
theorem wp_turn {o : Oper} {b : Act} {W : World} {K : Act → World → Prop} {Q : Exit → Act → World → Prop} {t27 t28 t30 : Tmp} {bk bf : Nat} {p q : Value} {ts : Array TypeId} {R : Ending → World → Prop} (ho : o.op = .call { callee := .value (.tmp t27), args := #[.tmp t28, .tmp t30], argTypes := ts })
    (h27 : b.eval (.tmp t27) = turnV bk bf) (h28 : b.eval (.tmp t28) = p) (h30 : b.eval (.tmp t30) = q)
    (hc : Calls Try.prog 82 #[p, q, .pointer (some ⟨bk, 0, none⟩), .pointer (some ⟨bf, 0, none⟩)] W R)
    (hR : ∀ e W', R e W' → ∃ x, e = .returned x ∧ K (b.put o.dst x) W') : o.wp Try.prog b W K Q := by
  have h27' : b.tmps[t27]?.getD undef = turnV bk bf := by simpa [Act.eval] using h27
  have h28' : b.tmps[t28]?.getD undef = p := by simpa [Act.eval] using h28
  have h30' : b.tmps[t30]?.getD undef = q := by simpa [Act.eval] using h30
  obtain ⟨dst, op, type, pos, after, guard⟩ := o
  dsimp only at ho
  subst ho
  have hrun : ∀ args W, (callFunc 82 args).run Try.prog W = .ok (.enter 82 args) W := enters_of Try.func82 (by kernel_rfl) rfl
  have hr : (execOp b.eval ⟨dst, .call { callee := .value (.tmp t27), args := #[.tmp t28, .tmp t30], argTypes := ts }, type, pos, after, guard⟩).run Try.prog W = .ok (.enter 82 #[p, q, .pointer (some ⟨bk, 0, none⟩), .pointer (some ⟨bf, 0, none⟩)]) W := by
    simp [execOp, resolve, Deferred.ofValue, invoke, Act.eval, h27', h28', h30', hrun, turnV]
  unfold Oper.wp
  rw [hr, Oper.upon_enter]
  refine hc.mono fun e w'' hh => ?_
  obtain ⟨x, rfl, hk⟩ := hR e w'' hh
  exact hk

theorem wp_build1 {o : Oper} {b : Act} {W : World} {K : Act → World → Prop} {Q : Exit → Act → World → Prop} {t : Tmp} {z : Nd} {A : Option Addr} {n c : Nat} (ho : o.op = .buildSlice 22 1 #[(0, .tmp t)]) (h : b.eval (.tmp t) = ndV z (.slice A n c))
    (hK : K (b.put o.dst (.slice (some ⟨W.heap.size, 0, none⟩) 1 1)) (W.alloc (.cells (ndCells z (.slice A n c)) 70))) : o.wp Try.prog b W K Q := by
  obtain ⟨dst, op, type, pos, after, guard⟩ := o
  dsimp only at ho
  subst ho
  have h' : b.tmps[t]?.getD undef = .agg #[.int .i64 z.kind, .int .i64 z.prio, .bool z.chan, .int .i64 z.pay.1, .int .i64 z.pay.2, .slice A n c] := by simpa [Act.eval] using h
  unfold Oper.wp
  simp only [execOp]
  go_simp
  exact hK
theorem wp_store1 {o : Oper} {b : Act} {W : World} {K : Act → World → Prop} {Q : Exit → Act → World → Prop} {t u : Tmp} {g : Nat} {v : Value} {A : Option Addr} {n c : Nat} (ho : o.op = .store 22 (.tmp t) (.tmp u)) (ht : b.eval (.tmp t) = .pointer (some ⟨g, 0, none⟩)) (h : b.eval (.tmp u) = .slice A n c)
    (hb : Blk W g 22 #[v]) (hK : K (b.put o.dst undef) (W.setCell ⟨g, 0, none⟩ (.slice A n c))) : o.wp Try.prog b W K Q := by
  obtain ⟨dst, op, type, pos, after, guard⟩ := o
  dsimp only at ho
  subst ho
  have c0 := hb.cell 0
  have f0 := hb.frozen 0
  unfold Oper.wp
  simp only [execOp, h, ht]
  go_simp
  exact hK
section
variable {o : Oper} {b : Act} {W : World} {t : Tmp} {p : Addr}
theorem rv_move {v : Value} (ho : o.op = .move (.tmp t)) (he : b.eval (.tmp t) = v) : (execOp b.eval o).run Try.prog W = .ok (.value v) W := by
  obtain ⟨dst, op, type, pos, after, guard⟩ := o
  dsimp only at ho
  subst ho
  simp only [execOp, he, Sem.run_pure]
theorem rv_load_nodes {v : Value} (ho : o.op = .load 22 (.tmp t)) (he : b.eval (.tmp t) = .pointer (some p)) (hc : W.cell? p = some v) : (execOp b.eval o).run Try.prog W = .ok (.value v) W := by
  obtain ⟨dst, op, type, pos, after, guard⟩ := o
  dsimp only at ho
  subst ho
  simp only [execOp, he]
  go_simp
theorem rv_load_edges {v : Value} (ho : o.op = .load 68 (.tmp t)) (he : b.eval (.tmp t) = .pointer (some p)) (hc : W.cell? p = some v) : (execOp b.eval o).run Try.prog W = .ok (.value v) W := by
  obtain ⟨dst, op, type, pos, after, guard⟩ := o
  dsimp only at ho
  subst ho
  simp only [execOp, he]
  go_simp
theorem rv_load_node {g : Nat} {x : Nd} {v : Value} (ho : o.op = .load 70 (.tmp t)) (he : b.eval (.tmp t) = .pointer (some ⟨g, 0, none⟩)) (hb : Blk W g 70 (ndCells x v)) : (execOp b.eval o).run Try.prog W = .ok (.value (ndV x v)) W := by
  obtain ⟨n0, n1, n2, n3, n4, n5⟩ := nd_cells hb
  obtain ⟨dst, op, type, pos, after, guard⟩ := o
  dsimp only at ho
  subst ho
  simp only [execOp, he]
  go_simp
theorem rv_field4 {g : Nat} (ho : o.op = .fieldAddr 70 (.tmp t) 4) (he : b.eval (.tmp t) = .pointer (some ⟨g, 0, none⟩)) : (execOp b.eval o).run Try.prog W = .ok (.value (.pointer (some ⟨g, 5, none⟩))) W := by
  obtain ⟨dst, op, type, pos, after, guard⟩ := o
  dsimp only at ho
  subst ho
  simp only [execOp, he]
  go_simp
end
theorem act_put_at {b : Act} {t : Tmp} (x : Value) (h : t < b.tmps.size) : (b.put (some t) x).tmps.getD t undef = x := by simp [Act.put, h]
theorem done_len (xs : List Nd) (h : Nat) : (doneL xs h).length ≤ 2 * xs.length := by
  unfold doneL
  split
  · simp
  · split
    · omega
    · rw [twoL_len]; omega

/-- All that stands in a half. -/
structure HS6 (w : World) (n : Nat) (nv : Value) (B5 bk bf N : Nat) (cs : Array Value) (v : Value) (ns : List (Nd × Value)) (W : World) : Prop where
  dt : DT w nv B5 v ns W
  t1 : Blk W (B5 + 1 + 1) 140 rows2
  t2 : Blk W (B5 + 1) 3 #[.int .i64 (n : Int)]
  k1 : Blk W bk 139 cs
  k2 : Blk W bf 3 #[.int .i64 (N : Int)]
section
variable {w W W' : World} {n B5 bk bf N : Nat} {nv v v' : Value} {cs : Array Value} {ns ns' : List (Nd × Value)}
theorem HS6.kept (h : HS6 w n nv B5 bk bf N cs v ns W) (hg : W.grownBy W' none) : HS6 w n nv B5 bk bf N cs v ns W' := ⟨h.dt.kept hg, h.t1.kept hg, h.t2.kept hg, h.k1.kept hg, h.k2.kept hg⟩
theorem HS6.put (h : HS6 w n nv B5 bk bf N cs v ns W) (hg : W.grownBy W' v.ownBlock) (ho : OT w.heap.size W' v' ns') : HS6 w n nv B5 bk bf N cs v' ns' (W'.setCell ⟨B5, 0, none⟩ v') := by
  refine ⟨h.dt.put hg ho, h.dt.other h.t1 (by decide) (by omega) hg v', h.dt.other h.t2 (by decide) (by omega) hg v', h.dt.other h.k1 (by decide) (fun e => ?_) hg v', h.dt.other h.k2 (by decide) (fun e => ?_) hg v'⟩
  · exact Blk.ne_ h.k1 h.dt.b5 (by decide) e
  · exact Blk.ne_ h.k2 h.dt.b5 (by decide) e
end

/-- The stages of a round: the node turned, the row that holds it, the append, the store. -/
def Tst (base B5 : Nat) (v : Value) (ns : List (Nd × Value)) (z : Nd) (X : World) : Nat → (Tmp → Value) → World → Prop
  | 0, _, W => X.grownBy W none
  | 1, f, W => ∃ u, f 31 = ndV z u ∧ EOwn base W u z.next ∧ X.grownBy W none
  | 2, f, W => ∃ u g, f 32 = .slice (some ⟨g, 0, none⟩) 1 1 ∧ Blk W g 70 (ndCells z u) ∧ EOwn base W u z.next ∧ X.grownBy W none
  | 3, f, W => ∃ v' u W3, f 33 = v' ∧ X.grownBy W3 none ∧ W3.grownBy W v.ownBlock ∧ OT base W v' (ns ++ [(z, u)])
  | 4, _, W => ∃ v' u W3 W4, W = W4.setCell ⟨B5, 0, none⟩ v' ∧ X.grownBy W3 none ∧ W3.grownBy W4 v.ownBlock ∧ OT base W4 v' (ns ++ [(z, u)])
  | _, _, _ => False
theorem keepsF_own {base B : Nat} {W W' : World} {v : Value} {ns : List (Nd × Value)} (h : OT base W v ns) (hg : W.grownBy W' v.ownBlock) : KeepsFrom B W W' :=
  ⟨hg.size, fun k o _ hk ho => (hg.block k (Array.getElem?_eq_some_iff.1 hk).1 (fun e => by
    obtain ⟨_, cs', hb'⟩ := own_row h.row k e.symm
    unfold Blk at hb'
    rw [hb'] at hk
    cases hk
    cases ho)).trans hk⟩

set_option maxRecDepth 100000 in
set_option maxHeartbeats 4000000 in
theorem dtable_con : ∀ (xs : List Nd) (v : Value) (w : World), Tbl w v xs → xs.length ≤ 1000 → Calls Try.prog 49 #[v] w (MadeT w (tableL xs)) := by
  intro xs v w hT hxs
  have HT := Lib.hid hT
  have HL := Lib.hid hxs
  obtain ⟨A, cap, rfl, hcl⟩ := hT
  clear hcl hxs
  refine (callsIn_wide (n := 3)).1 ?_
  refine callsIn_of_wp_marks Try.func49 rfl trivial ?_ rfl
  simp only [Try.ntmps49, List.size_toArray, List.length_cons, List.length_nil, Nat.reduceAdd, Nat.reduceSub, Array.replicate_succ, Array.replicate_zero, List.push_toArray, List.append_toArray, List.nil_append, List.cons_append]
  by_cases hc : (checkL xs).2 = 0
  · have HC := Lib.hid (okt_check hc)
    have HK := Lib.hid (okt_of hc)
    have HTL := Lib.hid (tableL_ok hc)
    have hn64 : (xs.length : Int) ≤ 64 := by have := HK.out.le; omega
    clear hc
    gi_wp2_with (first | (refine ⟨trivial, ?_⟩; gi_at_call 45; go_must (refine (callsIn_wide.2 (check_any xs _ _ (HT.out.keep (.grown (only_alloc (only_refl _ _) _))) (by have := HL.out; omega))).mono ?_; rw [HC.out]; rintro e w1 ⟨rfl, hg1⟩; have HG1 := Lib.hid hg1; have hb1 : Blk w1 w.heap.size 22 #[.slice A xs.length cap] := (Blk.new w _ _).kept hg1; have HB1 := Lib.hid hb1; have q0 := hb1.cell 0; have hl1 := hb1.lt; clear hb1 hg1)) | (refine ⟨trivial, ?_⟩; gi_at_call 66; go_must (refine (callsIn_wide.2 (halves_any xs.length _)).mono ?_; rintro e w2 ⟨rfl, rfl⟩)))
    have hd0 : DT w (.slice A xs.length cap) w1.heap.size (.slice none 0 0) [] (((w1.alloc (.cells #[.slice none 0 0] 22)).alloc (.cells #[.int .i64 (xs.length : Int)] 3)).alloc (.cells rows2 140)) :=
      ⟨only_alloc (only_alloc (only_alloc (only_trans (only_alloc (only_refl _ _) _) HG1.out) _) _) _, ((HB1.out.alloc _).alloc _).alloc _, ((Blk.new w1 _ _).alloc _).alloc _, hl1, OT.start _ _⟩
    have ht0 : hT (w1.heap.size + 1 + 1) (w1.heap.size + 1) xs.length [] (((w1.alloc (.cells #[.slice none 0 0] 22)).alloc (.cells #[.int .i64 (xs.length : Int)] 3)).alloc (.cells rows2 140)) := ⟨blk_at (by simp) _ _, (blk_at (by simp) _ _).alloc _⟩
    have hz : (((w1.alloc (.cells #[.slice none 0 0] 22)).alloc (.cells #[.int .i64 (xs.length : Int)] 3)).alloc (.cells rows2 140)).heap.size = w1.heap.size + 3 := by simp
    revert hd0 ht0 hz
    generalize World.alloc _ _ = W0
    intro hd0 ht0 hz
    obtain ⟨B5, hB5⟩ : ∃ B5, w1.heap.size = B5 := ⟨_, rfl⟩
    rw [hB5] at hd0 ht0 hz hl1 ⊢
    have HD0 := Lib.hid hd0
    clear q0 hB5 HB1 HG1
    refine wpIn_rangeFunc_hands rfl (by omega) (gf := 74) (lb := #[.pointer (some ⟨B5 + 1 + 1, 0, none⟩), .pointer (some ⟨B5 + 1, 0, none⟩)]) rfl trivial (enters_of Try.func74 (by kernel_rfl) rfl)
      (halves_hands (B5 + 1 + 1) (B5 + 1) xs.length (by have := HK.out.le; omega)) (fun X Y h => only_keepsFrom h _) (fun x => rfl) ht_own htm_own
      (TI w xs (.slice A xs.length cap) B5) (fun _ _ _ => False) (ti_own (by omega)) (fun _ _ _ _ _ h => h.elim) (fun s X Y ⟨v, ns, h1, h2⟩ hg => ⟨v, ns, h1, h2.kept hg⟩) ⟨_, [], rfl, HD0.out⟩ ht0
      (fun x => { tmps := #[.slice A xs.length cap, .pointer (some ⟨w.heap.size, 0, none⟩), .slice none 0 0, .int .i64 (-1), .int .i64 0, .pointer (some ⟨B5, 0, none⟩), turnV x.1 x.2, undef, undef, pairV (-1, 0), .slice A xs.length cap, pairV (-1, 0), .int .i64 (-1), .int .i64 0, .int .i64 0, .bool false, .slice A xs.length cap, .int .i64 (xs.length : Int), .func (.func 74) #[] #[.pointer (some ⟨B5 + 1 + 1, 0, none⟩), .pointer (some ⟨B5 + 1, 0, none⟩)], turnV x.1 x.2, undef, undef, undef, undef, undef, undef, undef, undef, undef, undef, undef, undef, undef, undef, undef, undef], defers := [] }) ?assign ?body ?done ?stop
    case assign =>
      intro l x W K hK
      simp only [hEnc]
      gi_wp2
      exact hK
    case stop =>
      rintro D c ys W hD h hK
      exact h.elim
    case done =>
      rintro D ys W hD hS ⟨v, ns, h1, h2⟩ hT2 hK
      have h5 := h2.b5.cell 0
      rw [hS] at h1
      have HN1 := Lib.hid h1
      have h2' := h2.own (grownBy_putObj' W D (.deferred none)) (fun r e => by injection e with e; subst e; exact ⟨hD, _, hK, rfl⟩) (by omega)
      have HM : Hid (MadeT w (tableL xs) (.returned v) (W.putObj D (.deferred none))) := Lib.hid ⟨⟨v, ns, rfl, h2'.ot, by rw [HTL.out]; exact h1⟩, h2'.gr⟩
      clear h1 h2 h2' hT2 hS
      gi_wp2
      refine ⟨by simp, .inl ⟨_, _, rfl, run_takeDeferred hK, ?_⟩⟩
      exact ⟨_, results_tmp (t := 2) rfl _ _ _, HM.out⟩
    case body =>
      rintro l pre ⟨bk, bf⟩ W hI hm
      obtain ⟨v, ns, hns, hd⟩ := hI
      have htt := hm.1
      obtain ⟨hp2, ⟨cs, hcs, hck⟩, hbf⟩ := turns_half hm
      dsimp only at hcs hbf
      obtain ⟨h, hh⟩ : ∃ h, pre.length = h := ⟨_, rfl⟩
      rw [hh] at hns hp2 hck hbf
      have HH := Lib.hid hh
      have HCK := Lib.hid hck
      have HS : Hid (HS6 w xs.length (.slice A xs.length cap) B5 bk bf (furH xs.length h) cs v ns W) := Lib.hid ⟨hd, htt.1, htt.2, hcs, hbf⟩
      have HNS := Lib.hid hns
      have q0 := hd.b1.cell 0
      have hq1 := hd.b1.lt
      clear hm hns hd htt hcs hbf hh hck HD0 ht0 hz
      gi_wp2_with fail
      gi_loopw [22] (fun i X => ∃ (q : Nat) (v : Value) (ns : List (Nd × Value)), q ≤ xs.length ∧ i = .int .i64 (q : Int) ∧ ns.map (·.1) = doneL xs h ++ (xs.take q).map (halfN xs.length h) ∧ HS6 w xs.length (.slice A xs.length cap) B5 bk bf (furH xs.length h) cs v ns X ∧ KeepsFrom W0.heap.size W X) (fun i _ => 100 - (intOf i).toNat)
      case atStart => exact ⟨0, v, ns, Nat.zero_le _, rfl, by rw [HNS.out]; simp, HS.out, KeepsFrom.refl _ _⟩
      case round =>
        obtain ⟨q, v1, ms, hq, rfl, hms, hs, hkf⟩ := hrel
        have HMS := Lib.hid hms
        have HS1 := Lib.hid hs
        have HKF := Lib.hid hkf
        clear hms hs hkf HS HNS q0 hq1
        by_cases hlt : q < xs.length
        · have hqI : (q : Int) < (xs.length : Int) := by omega
          have hq0 : (0 : Int) ≤ (q : Int) := by omega
          obtain ⟨y, hy⟩ : ∃ y, xs[q]? = some y := ⟨_, List.getElem?_eq_getElem hlt⟩
          have HY := Lib.hid hy
          obtain ⟨A', c', hA, hcl⟩ := HT.out.keep (Keeps.grown HS1.out.dt.gr)
          obtain ⟨b0, o0, hAb, hcl2⟩ := hcl (by intro e0; rw [e0] at hlt; simp at hlt)
          obtain ⟨ve, hE, m0, m1, m2, m3, m4, m5⟩ := hcl2 q y hy
          obtain ⟨rfl, rfl⟩ : A = A' ∧ cap = c' := by simpa using hA
          subst hAb
          have HE := Lib.hid hE
          obtain ⟨A2, c2, rfl, _, _⟩ := hE
          clear hA hcl hcl2 hy
          gi_upto_region 10 with fail
          have hgX : wr.grownBy (wr.alloc (.cells (ndCells y (.slice A2 y.next.length c2)) 70)) none := only_alloc (only_refl _ _) _
          have HX := Lib.hid (HS1.out.kept hgX)
          have HEX := Lib.hid (HE.out.keep (.grown hgX))
          have bx := Blk.new wr 70 (ndCells y (.slice A2 y.next.length c2))
          have hkf2 : KeepsFrom W0.heap.size W (wr.alloc (.cells (ndCells y (.slice A2 y.next.length c2)) 70)) := HKF.out.trans (only_keepsFrom hgX _)
          have hy5 := (HK.out.end_ HY.out).1
          have hy8 := (HK.out.good y (List.mem_of_getElem? HY.out)).2
          have hye : ∀ e ∈ y.next, 0 ≤ e.1 ∧ e.1 ≤ 1000 := fun e he => by
            have := HK.out.edge HY.out (List.mem_append_left _ he)
            exact ⟨this.1, by have := this.2.1; omega⟩
          have hml : ms.length ≤ 1000 := by
            have h1 := congrArg List.length HMS.out
            rw [List.length_map, List.length_append, List.length_map, List.length_take] at h1
            have := done_len xs h
            omega
          clear m0 m1 m2 m3 m4 m5 hgX
          refine region_chain (by kernel_rfl) (by kernel_rfl) (by kernel_rfl) [26, 27, 28, 29, 30, 31, 32, 33] (by kernel_rfl) (by kernel_rfl) (by decide)
            [(5, .pointer (some ⟨B5, 0, none⟩)), (6, turnV bk bf), (8, .pointer (some ⟨wr.heap.size, 0, none⟩)), (26, v1), (27, turnV bk bf), (28, ndV y (.slice A2 y.next.length c2)), (29, .pointer (some ⟨wr.heap.size, 5, none⟩)), (30, .slice A2 y.next.length c2)]
            ?h0 [5, 6, 7, 8] (by kernel_rfl) (by kernel_rfl) (by decide) (by kernel_rfl) (Tst w.heap.size B5 v1 ms (halfN xs.length h y) (wr.alloc (.cells (ndCells y (.slice A2 y.next.length c2)) 70))) ?hT ?reads ?steps (only_drew (only_refl _ _)) ?hQ
          case h0 =>
            intro p hp hn
            simp only [List.mem_cons, List.not_mem_nil, or_false] at hp
            rcases hp with rfl | rfl | rfl | rfl | rfl | rfl | rfl | rfl
            all_goals first | rfl | exact absurd (by dsimp only; decide) hn
          case hT =>
            intro j f g W' hj he
            match j, hj with
            | 0, hj => exact hj
            | 1, ⟨u, h1, h2⟩ => exact ⟨u, (he 0 5 _ 31 (by decide) rfl rfl rfl).symm.trans h1, h2⟩
            | 2, ⟨u, g', h1, h2⟩ => exact ⟨u, g', (he 1 6 _ 32 (by decide) rfl rfl rfl).symm.trans h1, h2⟩
            | 3, ⟨v', u, W3, h1, h2⟩ => exact ⟨v', u, W3, (he 2 7 _ 33 (by decide) rfl rfl rfl).symm.trans h1, h2⟩
            | 4, hj => exact hj
          case reads =>
            intro i o ho hn
            have hrd : ∀ j f W', j < 4 → Tst w.heap.size B5 v1 ms (halfN xs.length h y) (wr.alloc (.cells (ndCells y (.slice A2 y.next.length c2)) 70)) j f W' → Blk W' B5 22 #[v1] ∧ Blk W' wr.heap.size 70 (ndCells y (.slice A2 y.next.length c2)) := by
              intro j f W' hj hT'
              have plain : ∀ {W'}, (wr.alloc (.cells (ndCells y (.slice A2 y.next.length c2)) 70)).grownBy W' none → Blk W' B5 22 #[v1] ∧ Blk W' wr.heap.size 70 (ndCells y (.slice A2 y.next.length c2)) := fun hg => ⟨(HX.out.kept hg).dt.b5, bx.kept hg⟩
              match j, hj, hT' with
              | 0, _, hT' => exact plain hT'
              | 1, _, ⟨_, _, _, hg⟩ => exact plain hg
              | 2, _, ⟨_, _, _, _, _, hg⟩ => exact plain hg
              | 3, _, ⟨_, _, W3, _, hg, hg5, _⟩ =>
                have hx := HX.out.kept hg
                exact ⟨hx.dt.at5 hg5, (plain hg).2.grown hg5 fun e => by have := (World.ownsRow.lt HS1.out.dt.ot.row _ e.symm).2; omega⟩
            have h9 : i = 0 ∨ i = 1 ∨ i = 2 ∨ i = 3 ∨ i = 4 := by
              have h1 := (Array.getElem?_eq_some_iff.1 ho).1
              simp only [List.size_toArray, List.length_cons, List.length_nil] at h1
              simp only [List.mem_cons, List.not_mem_nil, or_false] at hn
              omega
            rcases h9 with rfl | rfl | rfl | rfl | rfl
            · cases ho
              exact ⟨26, v1, rfl, rfl, fun j f b W' hj hT' henv => rv_load_nodes rfl (henv 5 _ (by simp [Op.operands]) rfl) ((hrd j f W' hj hT').1.cell 0)⟩
            · cases ho
              exact ⟨27, turnV bk bf, rfl, rfl, fun j f b W' hj hT' henv => rv_move rfl (henv 6 _ (by simp [Op.operands]) rfl)⟩
            · cases ho
              exact ⟨28, _, rfl, rfl, fun j f b W' hj hT' henv => rv_load_node rfl (henv 8 _ (by simp [Op.operands]) rfl) (hrd j f W' hj hT').2⟩
            · cases ho
              exact ⟨29, _, rfl, rfl, fun j f b W' hj hT' henv => rv_field4 rfl (henv 8 _ (by simp [Op.operands]) rfl)⟩
            · cases ho
              exact ⟨30, _, rfl, rfl, fun j f b W' hj hT' henv => rv_load_edges rfl (henv 29 _ (by simp [Op.operands]) rfl) ((hrd j f W' hj hT').2.cell 5)⟩
          case steps =>
            intro j i o hj ho
            have h4 : j = 0 ∨ j = 1 ∨ j = 2 ∨ j = 3 := by
              have := (List.getElem?_eq_some_iff.1 hj).1
              simp only [List.length_cons, List.length_nil] at this
              omega
            rcases h4 with rfl | rfl | rfl | rfl
            · cases hj
              cases ho
              refine ⟨fun t e => by cases e; rfl, fun b W' hb hT1 henv => ?_⟩
              have hg : (wr.alloc (.cells (ndCells y (.slice A2 y.next.length c2)) 70)).grownBy W' none := hT1
              have hx := HX.out.kept hg
              obtain ⟨k, hk⟩ : ∃ k : Nat, y.kind = (k : Int) := ⟨y.kind.toNat, by omega⟩
              have hck := HCK.out k (by omega)
              rw [← hk] at hck
              refine wp_turn rfl (henv 27 _ (by simp [Op.operands, Call.operands]) rfl) (henv 28 _ (by simp [Op.operands, Call.operands]) rfl) (henv 30 _ (by simp [Op.operands, Call.operands]) rfl)
                (turn_any y (.slice A2 y.next.length c2) (.slice A2 y.next.length c2) y.next k (furH xs.length h) bk bf (kindH h y.kind) W' hk (by omega) ((hx.k1.cell k).trans hck) (hx.k2.cell 0) (by unfold furH; split <;> omega) (HEX.out.keep (.grown hg)) (by omega) hye) ?_
              rintro e W5 ⟨u, rfl, ho5, hg5⟩
              exact ⟨_, rfl, _, rfl, u, act_put_at _ (by rw [hb]; show _ < 36; decide), ho5.base_ hx.dt.gr.size, only_trans hg hg5⟩
            · cases hj
              cases ho
              refine ⟨fun t e => by cases e; rfl, fun b W' hb hT1 henv => ?_⟩
              obtain ⟨u, h1, h2, hg⟩ := hT1
              obtain ⟨A3, c3, rfl⟩ := h2.len
              exact wp_build1 rfl h1 ⟨_, rfl, _, W'.heap.size, act_put_at _ (by rw [hb]; show _ < 36; decide), Blk.new _ _ _, h2.kept0 (only_alloc (only_refl _ _) _), only_alloc hg _⟩
            · cases hj
              cases ho
              refine ⟨fun t e => by cases e; rfl, fun b W' hb hT1 henv => ?_⟩
              obtain ⟨u, g', h1, h2, h3, hg⟩ := hT1
              have hx := HX.out.kept hg
              exact wp_append_node (.tmp 26) (.tmp 32) rfl (henv 26 _ (by simp [Op.operands, Call.operands]) rfl) h1 hx.dt.ot h2 (h3.edges (by show (y.next.map _).length ≤ 1000; rw [List.length_map]; omega)) hml hx.dt.gr.size (fun v' W5 ho5 hg5 => ⟨_, rfl, v', u, W', act_put_at _ (by rw [hb]; show _ < 36; decide), hg, hg5, ho5⟩)
            · cases hj
              cases ho
              refine ⟨fun t e => (by cases e), fun b W' hb hT1 henv => ?_⟩
              obtain ⟨v', u, W3, h1, hg, hg5, ho5⟩ := hT1
              obtain ⟨A5, c5, rfl⟩ := ho5.len
              have hx := HX.out.kept hg
              exact wp_store1 rfl (henv 5 _ (by simp [Op.operands]) rfl) h1 (hx.dt.at5 hg5) ⟨undef, rfl, _, u, W3, W', rfl, hg, hg5, ho5⟩
          case hQ =>
            intro vs W' hv hT4
            obtain ⟨v', u, W3, W4, rfl, hg, hg5, ho5⟩ := hT4
            have hx := HX.out.kept hg
            have HP := Lib.hid (hx.put hg5 ho5)
            have HKF2 : Hid (KeepsFrom W0.heap.size W (W4.setCell ⟨B5, 0, none⟩ v')) := Lib.hid (((hkf2.trans (only_keepsFrom hg _)).trans (keepsF_own hx.dt.ot hg5)).trans ((KeepsOthers.setCell _ _ _).from _))
            simp only [List.foldl_cons, List.foldl_nil, List.setIfInBounds_toArray, List.set_cons_zero, List.set_cons_succ]
            clear hv hg hg5 ho5 hx hkf2 bx HX HEX hye
            gi_wp2_with fail
            go_roundw
            case rel =>
              refine ⟨q + 1, v', _, by omega, by go_num, ?_, HP.out, HKF2.out⟩
              rw [List.map_append, HMS.out, take_len HY.out, List.map_append, List.append_assoc]
              rfl
            case measure => simp [intOf]; omega
        · have hqe : q = xs.length := by omega
          have hqI : (xs.length : Int) ≤ (q : Int) := by omega
          clear hlt hq
          gi_wp2_with fail
          have hms := HMS.out
          rw [hqe, List.take_length, done_next xs hp2] at hms
          exact ⟨HKF.out, trivial, ⟨v1, ms, by rw [List.length_append, HH.out]; exact hms, HS1.out.dt⟩, HS1.out.t1, HS1.out.t2⟩
  · obtain ⟨a, e, hae⟩ : ∃ a e, checkL xs = (a, e) := ⟨_, _, rfl⟩
    rw [hae] at hc
    have HTL : Hid (tableL xs = []) := Lib.hid (tableL_not (by rw [hae]; exact hc))
    have HAE := Lib.hid hae
    have he : ¬ e = 0 := hc
    have he2 : (e == 0) = false := by simp [he]
    have he3 : decide (e = 0) = false := decide_eq_false he
    clear hae hc
    gi_wp2_with (refine ⟨trivial, ?_⟩; gi_at_call 45; go_must (refine (callsIn_wide.2 (check_any xs _ _ (HT.out.keep (.grown (only_alloc (only_refl _ _) _))) (by have := HL.out; omega))).mono ?_; rw [HAE.out]; rintro e w1 ⟨rfl, hg1⟩; have HG1 := Lib.hid hg1; clear hg1))
    exact marks_ret (B := w1.heap.size) [] w1 List.nodup_nil (fun D h => by cases h) fun W' hW' => ⟨_, results_tmp (t := 2) rfl _ _ _, ⟨_, [], rfl, OT.start _ _, by rw [HTL.out]; rfl⟩, hW'.grown (only_trans (only_alloc (only_refl _ _) _) HG1.out) (by have := HG1.out.size; simp at this; omega)⟩
end Go.Proofs.Ytmhbmeckdbdhpaa

namespace Go.Proofs.Ytmhbmeckdbdhpaa
open Go.RowKit

section
variable {L : List Nd}
theorem ofK_back (hL : TW L) {k K : Nat} (h : k < K) (he : ofK L K = ofK L k) : ofK L (k + 1) = ofK L k := by
  have h1 : ∀ a b, liveB L a = true → liveB L b = true → apK L (k + 1) a b = apK L k a b := fun a b ha hb => by
    have e1 := ofK_like hL (k := k) ha hb
    have e2 := ofK_like hL (k := K) ha hb
    rw [he] at e2
    have e3 := e1.symm.trans e2
    cases e : apK L k a b with
    | true => exact aptK_le (Nat.le_succ k) e
    | false =>
      have e4 := e3.1 e
      cases e5 : apK L (k + 1) a b with
      | false => rfl
      | true =>
        have : apK L K a b = true := aptK_le h e5
        rw [e4] at this; cases this
  unfold ofK
  rw [(clsL_congr (D := fun a => liveB L a = true) h1 _ _ rfl (roots_live hL)).1]
theorem mapN_inj {l m : List Nat} (h : l.map Int.ofNat = m.map Int.ofNat) : l = m := (List.map_inj_right (f := Int.ofNat) (fun _ _ e => Int.ofNat.inj e)).1 h
/-- The last round below M that has these numbers. -/
def rankL (L : List Nd) (zs : List Int) : Nat → Nat
  | 0 => 0
  | K + 1 => if (ofK L K).map Int.ofNat = zs then K else rankL L zs K
theorem rank_at (hL : TW L) {k : Nat} (h : ofK L (k + 1) ≠ ofK L k) : ∀ M, k < M → rankL L ((ofK L k).map Int.ofNat) M = k
  | 0, hk => by omega
  | K + 1, hk => by
    unfold rankL
    by_cases e : (ofK L K).map Int.ofNat = (ofK L k).map Int.ofNat
    · rw [if_pos e]
      rcases Nat.lt_or_ge k K with h1 | h1
      · exact absurd (ofK_back hL h1 (mapN_inj e)) h
      · omega
    · rw [if_neg e]
      have : K ≠ k := fun e' => e (by rw [e'])
      exact rank_at hL h K (by omega)
theorem rank_ge {k : Nat} : ∀ M, k < M → k ≤ rankL L ((ofK L k).map Int.ofNat) M
  | 0, hk => by omega
  | K + 1, hk => by
    unfold rankL
    by_cases e : (ofK L K).map Int.ofNat = (ofK L k).map Int.ofNat
    · rw [if_pos e]; omega
    · rw [if_neg e]
      have : K ≠ k := fun e' => e (by rw [e'])
      exact rank_ge K (by omega)
end
/-- The ints that a slice holds. -/
def decI (W : World) (v : Value) : List Int := match v with
  | .slice (some a) n _ => (List.range n).map fun i => (match W.cell? ⟨a.block, a.off + i, none⟩ with | some (.int _ z) => z | _ => 0)
  | _ => []
theorem dec_ints {W : World} {v : Value} {zs : List Int} (h : Ints W v zs) : decI W v = zs := by
  obtain ⟨A, c, rfl, _, h2⟩ := h
  by_cases hn : zs = []
  · subst hn
    unfold decI
    cases A <;> rfl
  · obtain ⟨b, off, rfl, h3⟩ := h2 hn
    unfold decI
    dsimp only
    refine List.ext_getElem (by simp) fun i h4 h5 => ?_
    rw [List.getElem_map, List.getElem_range, h3 i zs[i] (List.getElem?_eq_getElem h5)]
/-! ### A round, node by node -/
def ptL (L : List Nd) (k q : Nat) : List Nat × List Nat := clsL (apK L (k + 1)) ((rootsL L).take q)
def ptK (L : List Nd) (k q : Nat) : List Nd := (ptL L k q).1.map (knN L (ofK L k))
section
variable {L : List Nd}
theorem pt_live (hL : TW L) (k q : Nat) : ∀ y ∈ (ptL L k q).1, liveB L y = true :=
  (clsL_congr (D := fun a => liveB L a = true) (A := apK L (k + 1)) (B := apK L (k + 1)) (fun _ _ _ _ => rfl) _ _ rfl (fun x hx => roots_live hL x (List.mem_of_mem_take hx))).2
theorem pt_cls (hL : TW L) (k q : Nat) : Cls (fun a b => apK L (k + 1) a b = false) ((rootsL L).take q) (ptL L k q).1 (ptL L k q).2 :=
  cls_of (D := fun a => liveB L a = true) (apK_alike (k + 1) _) _ _ rfl (fun x hx => roots_live hL x (List.mem_of_mem_take hx))
theorem pt_len (hL : TW L) {k q : Nat} (hq : q ≤ L.length) : (ptL L k q).2.length = q := by
  rw [(pt_cls hL k q).len, List.length_take, roots_len]; omega
theorem pt_succ {k q : Nat} (hq : q < L.length) : ptL L k (q + 1) = clsStep (apK L (k + 1)) (ptL L k q) (rootL L q) := by
  unfold ptL
  rw [List.take_add_one, root_get L hq]
  exact clsL_snoc _ _ _
theorem pt_new (hL : TW L) {k q : Nat} (hq : q < L.length) (h : knN L (ofK L k) (rootL L q) ∉ ptK L k q) : ptL L k (q + 1) = ((ptL L k q).1 ++ [rootL L q], (ptL L k q).2 ++ [(ptL L k q).1.length]) := by
  rw [pt_succ hq]
  refine step_new (fs := (ptL L k q).1) (os := (ptL L k q).2) fun c y hy => ?_
  have hm := List.mem_of_getElem? hy
  have hr : liveB L (rootL L q) = true := roots_live hL _ (List.mem_of_getElem? (root_get L hq))
  cases e : apK L (k + 1) y (rootL L q) with
  | true => rfl
  | false =>
    have := (kn_iff hL (pt_live hL k q y hm) hr).2 e
    exact absurd (List.mem_map.2 ⟨y, hm, this⟩) h
theorem pt_old (hL : TW L) {k q c : Nat} (hq : q < L.length) (h : (ptK L k q)[c]? = some (knN L (ofK L k) (rootL L q))) : ptL L k (q + 1) = ((ptL L k q).1, (ptL L k q).2 ++ [c]) := by
  rw [pt_succ hq]
  have hr : liveB L (rootL L q) = true := roots_live hL _ (List.mem_of_getElem? (root_get L hq))
  unfold ptK at h
  rw [List.getElem?_map] at h
  obtain ⟨y, hy, he⟩ := Option.map_eq_some_iff.1 h
  have hyl := pt_live hL k q y (List.mem_of_getElem? hy)
  have h1 := (kn_iff hL hyl hr).1 he
  refine step_old (fs := (ptL L k q).1) (os := (ptL L k q).2) hy h1 fun d z hz hA => ?_
  exact (pt_cls hL k q).apart d c z y hz hy (likeK_trans (hd_len L) hA (likeK_symm h1))
theorem pt_all (L : List Nd) (k : Nat) : ptL L k L.length = (fsK L (k + 1), ofK L (k + 1)) := by
  unfold ptL fsK ofK
  rw [List.take_of_length_le (by rw [roots_len]; exact Nat.le_refl _)]
theorem pt_few (L : List Nd) (k q : Nat) : (ptK L k q).length ≤ q := by
  unfold ptK ptL
  rw [List.length_map]
  have h := cls_le (apK L (k + 1)) ((rootsL L).take q) ([], [])
  rw [List.length_nil, Nat.zero_add, List.length_take] at h
  exact Nat.le_trans h (Nat.min_le_left _ _)
theorem ofK_lt (hL : TW L) (k m : Nat) : (ofK L k).getD m 0 ≤ L.length := by
  rw [List.getD_eq_getElem?_getD]
  cases e : (ofK L k)[m]? with
  | none => exact Nat.zero_le _
  | some c =>
    have h := (clsK hL k).lt e
    have h2 := cls_le (apK L k) (rootsL L) ([], [])
    rw [List.length_nil, Nat.zero_add, roots_len] at h2
    have h3 : (fsK L k).length ≤ L.length := h2
    show c ≤ _
    omega
end
end Go.Proofs.Ytmhbmeckdbdhpaa

/- What a call owns: a table made of zeros, a node stored into it, whole or a cell at a time; two rows of edges side by side. -/
import Derived.Test.YtoklaajiajilhaaDoorGMadA
import Derived.Laws.OwnMore
import Derived.OwnWalk
namespace Go.Proofs.YtoklaajiajilhaaDoor
open Go.RowKit

/-- The block that an append answers with is the one it was, or a new one. -/
theorem append_blockG {W : World} {ty e t : TypeId} {i : TypeInfo} {z : Value} (ht : Tryd.prog.underlying t = some (.slice e)) (hi : Tryd.prog.info? e = some i) (hz : i.zero = some z) (hsz : 0 < i.size)
    {base : Nat} {v : Value} {n : Nat} {xs : List Value} (hown : W.ownsRow base e i.size v n xs) {a : Addr} {m c : Nat} {news : List Value} (hl : news.length = m * i.size) (hnews : ∀ j u, news[j]? = some u → W.cell? (a.add j) = some u) (h1 : ∀ u ∈ news, u.oneCell' = true)
    (hzs : z.cells.size = i.size) (h63 : n + m ≤ maxLen) (hbytes : (n + m) * i.bytes ≤ 140737488355328) {v' : Value} {W' : World}
    (hr : (Builtin.append_ #[t, t] ty #[v, .slice (some a) m c]).run Tryd.prog W = .ok v' W') : ∀ g, v'.ownBlock = some g → v.ownBlock = some g ∨ W.heap.size ≤ g := by
  intro g hg
  have hsmall : n + m ≤ 9223372036854775807 := Nat.le_trans h63 (by decide)
  rcases hown.2 with ⟨rfl, rfl⟩ | ⟨g0, cap, cur, rfl, hbg, hb, hnc, hcm, hcs, htake⟩
  · obtain ⟨v2, W2, hr2, ho2, _, _⟩ := run_append_own (P := Tryd.prog) W W.heap.size t ty e i z i.size i.bytes ht hi hz rfl rfl hzs hsz _ 0 xs ⟨by simpa using hown.1, .inl ⟨rfl, rfl⟩⟩ a m c news hl hnews h1 h63 hbytes (Nat.le_refl _)
    rw [hr] at hr2
    cases hr2
    exact .inr (World.ownsRow.lt ho2 g hg).1
  · by_cases hroom : n + m ≤ cap
    · have hfit : n * i.size + news.length ≤ cur.size := by rw [hl, hcs, ← Nat.add_mul]; exact Nat.mul_le_mul_right _ hroom
      have hr2 := run_append_room (P := Tryd.prog) W t ty e i ht hi g0 n cap cur hb a m c news hl hnews h1 hroom hfit
      rw [hr] at hr2
      cases hr2
      exact .inl hg
    · have hr2 := run_append_grow (P := Tryd.prog) W t ty e i z ht hi hz ⟨g0, 0, none⟩ n cap xs hown.1 (hown.cells (g := g0) rfl) a m c news hl hnews (by omega) (by omega) (growslice_fits (by omega) hbytes)
      rw [hr] at hr2
      cases hr2
      have : W.heap.size = g := by simpa [Value.ownBlock] using hg
      exact .inr (by omega)
/-- One edge more, appended; and where the row lies then. -/
theorem wpList_append_edgeB {ops : Array Oper} {rest : List Oper} {o : Oper} {a : Act} {W : World} {Q : Exit → Act → World → Prop} (hgd : o.guard = none) (s x : Operand)
    (ho : o.op = .call { callee := .builtin .append, args := #[s, x], argTypes := #[37, 37] })
    {base : Nat} {v : Value} {es : List Ed} {e : Ed} {g : Nat} (hs : a.eval s = v) (hx : a.eval x = .slice (some ⟨g, 0, none⟩) 1 1)
    (hot : EOwn base W v es) (hb : Blk W g 36 (edCells e)) (hn : es.length ≤ 1000) (hbase : base ≤ W.heap.size)
    (h : ∀ v' W', EOwn base W' v' (es ++ [e]) → W.grownBy W' v.ownBlock → (∀ g, v'.ownBlock = some g → v.ownBlock = some g ∨ W.heap.size ≤ g) → wpList Tryd.prog ops Q rest (a.put o.dst v') W') : wpList Tryd.prog ops Q (o :: rest) a W := by
  obtain ⟨i0, hi, hz0, hz1, hz2⟩ := info_parts edge_info
  have hnews : ∀ j u, (edCells e).toList[j]? = some u → W.cell? ((⟨g, 0, none⟩ : Addr).add j) = some u := fun j u hu => by rw [addr_plain, Nat.zero_add, hb.cell j, ← hu]; simp
  have hone : ∀ u ∈ (edCells e).toList, u.oneCell' = true := fun u hu => edAll_one [e] u (by simpa [edAll] using hu)
  have hown : W.ownsRow base 36 i0.size v es.length (edAll es) := by rw [hz1]; exact hot
  have hbk := fun {v' : Value} {W' : World} => append_blockG (W := W) (ty := o.type) (t := 37) Tryd.underlying37 hi hz0 (by rw [hz1]; decide) hown (a := ⟨g, 0, none⟩) (m := 1) (c := 1) (by rw [hz1]; rfl) hnews hone (by rw [hz1]; rfl) (by unfold maxLen; omega) (by rw [hz2]; omega) (v' := v') (W' := W')
  refine wpList_plain hgd fun K hK => ?_
  obtain ⟨v', W', hr, h2, h3, _⟩ := run_append_own (P := Tryd.prog) W base 37 o.type 36 i0 _ 2 16 Tryd.underlying37 hi hz0 hz1 hz2 rfl (by decide) v es.length (edAll es) hot ⟨g, 0, none⟩ 1 1 (edCells e).toList rfl hnews hone (by unfold maxLen; omega) (by omega) hbase
  have hbl := hbk hr
  unfold Oper.wp execOp
  simp only [ho, resolve, invoke, builtin, Sem.run_bind, Sem.run_pure, Result.andThen_ok, List.map_toArray, List.map_cons, List.map_nil, hs, hx, hr]
  refine hK _ _ (h v' W' ?_ h3 hbl)
  show World.ownsRow _ _ _ _ _ _ _
  rw [List.length_append, edAll_snoc]; exact h2

/-- Two rows of edges, each in a block of its own. -/
structure E2 (base : Nat) (W : World) (u v : Value) (es fs : List Ed) : Prop where
  o1 : EOwn base W u es
  o2 : EOwn base W v fs
  n : ∀ g, u.ownBlock = some g → v.ownBlock ≠ some g
section
variable {base : Nat} {W W' : World} {u v u' : Value} {es fs es' : List Ed}
theorem E2.start (base : Nat) (W : World) : E2 base W (.slice none 0 0) (.slice none 0 0) [] [] := ⟨EOwn.nil_ _ _, EOwn.nil_ _ _, (fun _ h => by cases h)⟩
theorem E2.rot (h : E2 base W u v es fs) : E2 base W v u fs es := ⟨h.o2, h.o1, fun g e e' => h.n g e' e⟩
theorem E2.kept (h : E2 base W u v es fs) (hg : W.grownBy W' none) : E2 base W' u v es fs := ⟨h.o1.kept0 hg, h.o2.kept0 hg, h.n⟩
theorem E2.put1 (h : E2 base W u v es fs) (hg : W.grownBy W' u.ownBlock) (ho : EOwn base W' u' es') (hb : ∀ g, u'.ownBlock = some g → u.ownBlock = some g ∨ W.heap.size ≤ g) : E2 base W' u' v es' fs := by
  refine ⟨ho, h.o2.kept hg (fun g e e' => h.n g e' e), fun g e e' => ?_⟩
  rcases hb g e with h1 | h1
  · exact h.n g h1 e'
  · have := (World.ownsRow.lt h.o2 g e').2
    omega
end

/-! ### a table made of zeros, and nodes that are stored into it -/
abbrev zeroN : Nd := ⟨0, 0, false, (0, 0), []⟩
theorem zeros_cells (n : Nat) : (madeCells (Value.agg #[.int .i64 0, .int .i64 0, .bool false, .int .i64 0, .int .i64 0, .slice none 0 0]).cells (n * 6)).toList = ndAll (List.replicate n (zeroN, .slice none 0 0)) := by
  apply List.ext_getElem?
  intro j
  by_cases hj : j < n * 6
  · have h1 : (List.replicate n (zeroN, Value.slice none 0 0))[j / 6]? = some (zeroN, .slice none 0 0) := by rw [List.getElem?_replicate, if_pos (by omega)]
    have h2 := ndAll_at h1 (j % 6) (by omega)
    rw [show j / 6 * 6 + j % 6 = j by omega] at h2
    rw [h2]
    have hsz : (Value.agg #[.int .i64 0, .int .i64 0, .bool false, .int .i64 0, .int .i64 0, .slice none 0 0]).cells.size = 6 := rfl
    simp only [madeCells, Array.toList_map, Array.toList_range, List.getElem?_map, List.getElem?_range hj, Option.map_some, hsz]
    have h6 : j % 6 < 6 := by omega
    generalize j % 6 = r at h6
    match r, h6 with
    | 0, _ => rfl
    | 1, _ => rfl
    | 2, _ => rfl
    | 3, _ => rfl
    | 4, _ => rfl
    | 5, _ => rfl
    | r + 6, h => omega
  · rw [List.getElem?_eq_none (by simp [madeCells]; omega), List.getElem?_eq_none (by rw [ndAll_len, List.length_replicate]; omega)]
/-- make, of nodes. -/
theorem wpList_make_nodes {ops : Array Oper} {rest : List Oper} {o : Oper} {a : Act} {W : World} {Q : Exit → Act → World → Prop} (hgd : o.guard = none) (l c : Operand) (ho : o.op = .makeSlice 22 l c)
    {N : Int} {n : Nat} (hl : a.eval l = .int .i64 N) (hc : a.eval c = .int .i64 N) (hN : N = (n : Int)) (hn : n ≤ 1000000) {base : Nat} (hbase : base ≤ W.heap.size)
    (h : ∀ g W', W'.heap.size = g + 1 → base ≤ g → OT base W' (.slice (some ⟨g, 0, none⟩) n n) (List.replicate n (zeroN, .slice none 0 0)) → W.grownBy W' none → wpList Tryd.prog ops Q rest (a.put o.dst (.slice (some ⟨g, 0, none⟩) n n)) W') : wpList Tryd.prog ops Q (o :: rest) a W := by
  obtain ⟨i0, hi, hz0, hz1, hz2⟩ := info_parts node_info
  refine wpList_plain hgd fun K hK => ?_
  have hr := run_make (P := Tryd.prog) W 22 39 i0 _ Tryd.underlying22 hi hz0 .i64 .i64 (n : Int) (n : Int) (by omega) (Int.le_refl _) (by rw [hz2]; omega) (by omega)
  simp only [Int.toNat_natCast] at hr
  subst hN
  unfold Oper.wp
  simp [execOp, ho, hl, hc, hr, Result.andThen]
  refine hK _ _ (h W.heap.size _ (by simp) hbase ⟨?_, fun p hp => ?_⟩ (World.grownBy_alloc W _ none))
  · rw [List.length_replicate, ← zeros_cells, hz1]
    exact World.ownsRow_lit W _ n hbase (by unfold maxLen; omega) (size_madeCells _ _)
  · obtain ⟨_, rfl⟩ := List.mem_replicate.1 hp
    exact EdgesO.nil_
theorem ndAll_set_ {p : Nd × Value} {x : Nd} {e u : Value} {j : Nat} (hj : j < 6) (hset : (ndCells p.1 p.2).toList.set j u = (ndCells x e).toList) : ∀ {ns : List (Nd × Value)} {k : Nat}, ns[k]? = some p → (ndAll ns).set (k * 6 + j) u = ndAll (ns.set k (x, e))
  | [], k, h => by simp at h
  | q :: ns, 0, h => by
    simp only [List.getElem?_cons_zero, Option.some.injEq] at h
    subst h
    simp only [ndAll, List.flatMap_cons, List.set_cons_zero, Nat.zero_mul, Nat.zero_add]
    rw [List.set_append, if_pos (by show j < 6; omega), hset]
  | q :: ns, k + 1, h => by
    have hq : (ndCells q.1 q.2).toList.length = 6 := rfl
    have ih := ndAll_set_ hj hset (ns := ns) (k := k) (by simpa using h)
    simp only [ndAll, List.flatMap_cons, List.set_cons_succ] at ih ⊢
    rw [List.set_append, if_neg (by rw [hq]; omega), hq, show (k + 1) * 6 + j - 6 = k * 6 + j by omega, ih]
section
variable {base : Nat} {W W' : World} {g cap n : Nat} {ns : List (Nd × Value)} {k : Nat} {p : Nd × Value}
/-- A row of edges, where the table's own row is turned. -/
theorem OT.edges_kept {v : Value} {e : Value} {es : List Ed} (h : OT base W v ns) (hE : EdgesO base W e es) (hg : W.grownBy W' v.ownBlock) : EdgesO base W' e es :=
  hE.grown hg (fun g' e' => by
    obtain ⟨hb', cs, hblk⟩ := own_row h.row g' e'
    exact ⟨hb', cs, _, hblk, by decide⟩)
/-- Cell j of node k is written. -/
theorem OT.putc (h : OT base W (.slice (some ⟨g, 0, none⟩) n cap) ns) (hn : ns.length = n) (hk : ns[k]? = some p) (j : Nat) (hj : j < 6) (u : Value) (x : Nd) (e : Value) (hset : (ndCells p.1 p.2).toList.set j u = (ndCells x e).toList) (hE : EdgesO base W e x.next) :
    OT base (W.setCell ⟨g, k * 6 + j, none⟩ u) (.slice (some ⟨g, 0, none⟩) n cap) (ns.set k (x, e)) ∧ W.grownBy (W.setCell ⟨g, k * 6 + j, none⟩ u) (some g) := by
  subst hn
  obtain ⟨hst, hgs⟩ := h.row.stored (k * 6 + j) u
  refine ⟨⟨?_, fun q hq => ?_⟩, hgs⟩
  · rw [List.length_set, ← ndAll_set_ hj hset hk]; exact hst
  · rcases List.mem_or_eq_of_mem_set hq with hq | rfl
    · exact h.edges_kept (h.eds q hq) hgs
    · exact h.edges_kept hE hgs
/-- Node k is written whole. -/
theorem OT.put6 (h : OT base W (.slice (some ⟨g, 0, none⟩) n cap) ns) (hn : ns.length = n) (hk : ns[k]? = some p) (x : Nd) (e : Value) (hE : EdgesO base W e x.next) :
    OT base ((((((W.setCell ⟨g, k * 6, none⟩ (.int .i64 x.kind)).setCell ⟨g, k * 6 + 1, none⟩ (.int .i64 x.prio)).setCell ⟨g, k * 6 + 2, none⟩ (.bool x.chan)).setCell ⟨g, k * 6 + 3, none⟩ (.int .i64 x.pay.1)).setCell ⟨g, k * 6 + 4, none⟩ (.int .i64 x.pay.2)).setCell ⟨g, k * 6 + 5, none⟩ e)
      (.slice (some ⟨g, 0, none⟩) n cap) (ns.set k (x, e)) ∧
    W.grownBy ((((((W.setCell ⟨g, k * 6, none⟩ (.int .i64 x.kind)).setCell ⟨g, k * 6 + 1, none⟩ (.int .i64 x.prio)).setCell ⟨g, k * 6 + 2, none⟩ (.bool x.chan)).setCell ⟨g, k * 6 + 3, none⟩ (.int .i64 x.pay.1)).setCell ⟨g, k * 6 + 4, none⟩ (.int .i64 x.pay.2)).setCell ⟨g, k * 6 + 5, none⟩ e) (some g) := by
  have hlk : k < ns.length := (List.getElem?_eq_some_iff.1 hk).1
  have at_ : ∀ (l : List (Nd × Value)) (q : Nd × Value), l.length = ns.length → (l.set k q)[k]? = some q := fun l q hl => by rw [List.getElem?_set, if_pos rfl, if_pos (by omega)]
  have hp := h.eds p (List.mem_of_getElem? hk)
  obtain ⟨h0, g0⟩ := h.putc hn hk 0 (by omega) (.int .i64 x.kind) { p.1 with kind := x.kind } p.2 rfl hp
  obtain ⟨h1, g1⟩ := h0.putc (by rw [List.length_set]; exact hn) (at_ _ _ rfl) 1 (by omega) (.int .i64 x.prio) { p.1 with kind := x.kind, prio := x.prio } p.2 rfl (h.edges_kept hp g0)
  have g01 := g0.trans g1
  obtain ⟨h2, g2⟩ := h1.putc (by simp [hn]) (at_ _ _ (by simp)) 2 (by omega) (.bool x.chan) { p.1 with kind := x.kind, prio := x.prio, chan := x.chan } p.2 rfl (h.edges_kept hp g01)
  have g02 := g01.trans g2
  obtain ⟨h3, g3⟩ := h2.putc (by simp [hn]) (at_ _ _ (by simp)) 3 (by omega) (.int .i64 x.pay.1) { p.1 with kind := x.kind, prio := x.prio, chan := x.chan, pay := (x.pay.1, p.1.pay.2) } p.2 rfl (h.edges_kept hp g02)
  have g03 := g02.trans g3
  obtain ⟨h4, g4⟩ := h3.putc (by simp [hn]) (at_ _ _ (by simp)) 4 (by omega) (.int .i64 x.pay.2) { p.1 with kind := x.kind, prio := x.prio, chan := x.chan, pay := (x.pay.1, x.pay.2) } p.2 rfl (h.edges_kept hp g03)
  have g04 := g03.trans g4
  obtain ⟨h5, g5⟩ := h4.putc (by simp [hn]) (at_ _ _ (by simp)) 5 (by omega) e x e rfl (h.edges_kept hE g04)
  simp only [List.set_set] at h5
  exact ⟨h5, g04.trans g5⟩
/-- What a node's cells hold. -/
theorem OT.cells (h : OT base W (.slice (some ⟨g, 0, none⟩) n cap) ns) (hk : ns[k]? = some p) (j : Nat) (hj : j < 6) : ∃ u, (ndCells p.1 p.2).toList[j]? = some u ∧ W.cell? ⟨g, k * 6 + j, none⟩ = some u := by
  have hu : (ndCells p.1 p.2).toList[j]? = some ((ndCells p.1 p.2).toList[j]'hj) := List.getElem?_eq_getElem hj
  refine ⟨_, hu, ?_⟩
  have := h.row.cells (g := g) rfl (k * 6 + j) _ ((ndAll_at hk j hj).trans hu)
  rwa [addr_plain, Nat.zero_add] at this
theorem OT.six (h : OT base W (.slice (some ⟨g, 0, none⟩) n cap) ns) (hn : ns.length = n) (hk : ns[k]? = some p) : (W.cell? ⟨g, k * 6, none⟩ = some (.int .i64 p.1.kind) ∧ W.cell? ⟨g, k * 6 + 1, none⟩ = some (.int .i64 p.1.prio) ∧ W.cell? ⟨g, k * 6 + 2, none⟩ = some (.bool p.1.chan) ∧
    W.cell? ⟨g, k * 6 + 3, none⟩ = some (.int .i64 p.1.pay.1) ∧ W.cell? ⟨g, k * 6 + 4, none⟩ = some (.int .i64 p.1.pay.2) ∧ W.cell? ⟨g, k * 6 + 5, none⟩ = some p.2) ∧
    (W.frozen? ⟨g, k * 6, none⟩ = false ∧ W.frozen? ⟨g, k * 6 + 1, none⟩ = false ∧ W.frozen? ⟨g, k * 6 + 2, none⟩ = false ∧ W.frozen? ⟨g, k * 6 + 3, none⟩ = false ∧ W.frozen? ⟨g, k * 6 + 4, none⟩ = false ∧ W.frozen? ⟨g, k * 6 + 5, none⟩ = false) := by
  have c := fun j hj => h.cells (g := g) hk j hj
  have fz : ∀ j, W.frozen? ⟨g, j, none⟩ = false := fun j => by subst hn; exact h.row.frozenAt j
  refine ⟨⟨?_, ?_, ?_, ?_, ?_, ?_⟩, fz _, fz _, fz _, fz _, fz _, fz _⟩
  · obtain ⟨u, hu, hc⟩ := c 0 (by omega); cases hu; exact hc
  · obtain ⟨u, hu, hc⟩ := c 1 (by omega); cases hu; exact hc
  · obtain ⟨u, hu, hc⟩ := c 2 (by omega); cases hu; exact hc
  · obtain ⟨u, hu, hc⟩ := c 3 (by omega); cases hu; exact hc
  · obtain ⟨u, hu, hc⟩ := c 4 (by omega); cases hu; exact hc
  · obtain ⟨u, hu, hc⟩ := c 5 (by omega); cases hu; exact hc
theorem OT.frozen (h : OT base W (.slice (some ⟨g, 0, none⟩) n cap) ns) (hn : ns.length = n) (j : Nat) : W.frozen? ⟨g, j, none⟩ = false := by subst hn; exact h.row.frozenAt j
end
end Go.Proofs.YtoklaajiajilhaaDoor

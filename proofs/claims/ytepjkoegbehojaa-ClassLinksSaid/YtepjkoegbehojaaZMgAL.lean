/- Texts joined for the claim's sake: DOwn, CMat, COwn. -/
import Derived.Test.YtepjkoegbehojaaZMgAI
import Derived.Laws.OwnMore
import Derived.OwnWalk
import Derived.Test.YtepjkoegbehojaaZMgAK
/- What a call owns: a table made of zeros, a node stored into it, whole or a cell at a time; two rows of edges side by side. -/
namespace Go.Proofs.Ytepjkoegbehojaa
open Go.RowKit

/-- The block that an append answers with is the one it was, or a new one. -/
theorem append_blockG {W : World} {ty e t : TypeId} {i : TypeInfo} {z : Value} (ht : Try.prog.underlying t = some (.slice e)) (hi : Try.prog.info? e = some i) (hz : i.zero = some z) (hsz : 0 < i.size)
    {base : Nat} {v : Value} {n : Nat} {xs : List Value} (hown : W.ownsRow base e i.size v n xs) {a : Addr} {m c : Nat} {news : List Value} (hl : news.length = m * i.size) (hnews : ∀ j u, news[j]? = some u → W.cell? (a.add j) = some u) (h1 : ∀ u ∈ news, u.oneCell' = true)
    (hzs : z.cells.size = i.size) (h63 : n + m ≤ maxLen) (hbytes : (n + m) * i.bytes ≤ 140737488355328) {v' : Value} {W' : World}
    (hr : (Builtin.append_ #[t, t] ty #[v, .slice (some a) m c]).run Try.prog W = .ok v' W') : ∀ g, v'.ownBlock = some g → v.ownBlock = some g ∨ W.heap.size ≤ g := by
  intro g hg
  have hsmall : n + m ≤ 9223372036854775807 := Nat.le_trans h63 (by decide)
  rcases hown.2 with ⟨rfl, rfl⟩ | ⟨g0, cap, cur, rfl, hbg, hb, hnc, hcm, hcs, htake⟩
  · obtain ⟨v2, W2, hr2, ho2, _, _⟩ := run_append_own (P := Try.prog) W W.heap.size t ty e i z i.size i.bytes ht hi hz rfl rfl hzs hsz _ 0 xs ⟨by simpa using hown.1, .inl ⟨rfl, rfl⟩⟩ a m c news hl hnews h1 h63 hbytes (Nat.le_refl _)
    rw [hr] at hr2
    cases hr2
    exact .inr (World.ownsRow.lt ho2 g hg).1
  · by_cases hroom : n + m ≤ cap
    · have hfit : n * i.size + news.length ≤ cur.size := by rw [hl, hcs, ← Nat.add_mul]; exact Nat.mul_le_mul_right _ hroom
      have hr2 := run_append_room (P := Try.prog) W t ty e i ht hi g0 n cap cur hb a m c news hl hnews h1 hroom hfit
      rw [hr] at hr2
      cases hr2
      exact .inl hg
    · have hr2 := run_append_grow (P := Try.prog) W t ty e i z ht hi hz ⟨g0, 0, none⟩ n cap xs hown.1 (hown.cells (g := g0) rfl) a m c news hl hnews (by omega) (by omega) (growslice_fits (by omega) hbytes)
      rw [hr] at hr2
      cases hr2
      have : W.heap.size = g := by simpa [Value.ownBlock] using hg
      exact .inr (by omega)
/-- One edge more, appended; and where the row lies then. -/
theorem wpList_append_edgeB {ops : Array Oper} {rest : List Oper} {o : Oper} {a : Act} {W : World} {Q : Exit → Act → World → Prop} (hgd : o.guard = none) (s x : Operand)
    (ho : o.op = .call { callee := .builtin .append, args := #[s, x], argTypes := #[44, 44] })
    {base : Nat} {v : Value} {es : List Ed} {e : Ed} {g : Nat} (hs : a.eval s = v) (hx : a.eval x = .slice (some ⟨g, 0, none⟩) 1 1)
    (hot : EOwn base W v es) (hb : Blk W g 43 (edCells e)) (hn : es.length ≤ 1000) (hbase : base ≤ W.heap.size)
    (h : ∀ v' W', EOwn base W' v' (es ++ [e]) → W.grownBy W' v.ownBlock → (∀ g, v'.ownBlock = some g → v.ownBlock = some g ∨ W.heap.size ≤ g) → wpList Try.prog ops Q rest (a.put o.dst v') W') : wpList Try.prog ops Q (o :: rest) a W := by
  obtain ⟨i0, hi, hz0, hz1, hz2⟩ := info_parts edge_info
  have hnews : ∀ j u, (edCells e).toList[j]? = some u → W.cell? ((⟨g, 0, none⟩ : Addr).add j) = some u := fun j u hu => by rw [addr_plain, Nat.zero_add, hb.cell j, ← hu]; simp
  have hone : ∀ u ∈ (edCells e).toList, u.oneCell' = true := fun u hu => edAll_one [e] u (by simpa [edAll] using hu)
  have hown : W.ownsRow base 43 i0.size v es.length (edAll es) := by rw [hz1]; exact hot
  have hbk := fun {v' : Value} {W' : World} => append_blockG (W := W) (ty := o.type) (t := 44) Try.underlying44 hi hz0 (by rw [hz1]; decide) hown (a := ⟨g, 0, none⟩) (m := 1) (c := 1) (by rw [hz1]; rfl) hnews hone (by rw [hz1]; rfl) (by unfold maxLen; omega) (by rw [hz2]; omega) (v' := v') (W' := W')
  refine wpList_plain hgd fun K hK => ?_
  obtain ⟨v', W', hr, h2, h3, _⟩ := run_append_own (P := Try.prog) W base 44 o.type 43 i0 _ 2 16 Try.underlying44 hi hz0 hz1 hz2 rfl (by decide) v es.length (edAll es) hot ⟨g, 0, none⟩ 1 1 (edCells e).toList rfl hnews hone (by unfold maxLen; omega) (by omega) hbase
  have hbl := hbk hr
  unfold Oper.wp execOp
  simp only [ho, resolve, invoke, builtin, Sem.run_bind, Sem.run_pure, Result.andThen_ok, List.map_toArray, List.map_cons, List.map_nil, hs, hx, hr]
  refine hK _ _ (h v' W' ?_ h3 hbl)
  show World.ownsRow _ _ _ _ _ _ _
  rw [List.length_append, edAll_snoc]; exact h2

/-- Two rows of edges, each in a block of its own. -/
structure E2 (base : Nat) (W : World) (u v : Value) (es fs : List Ed) : Prop where
  o1 : EOwn base W u es
  o2 : EOwn base W v fs
  n : ∀ g, u.ownBlock = some g → v.ownBlock ≠ some g
section
variable {base : Nat} {W W' : World} {u v u' : Value} {es fs es' : List Ed}
theorem E2.start (base : Nat) (W : World) : E2 base W (.slice none 0 0) (.slice none 0 0) [] [] := ⟨EOwn.nil_ _ _, EOwn.nil_ _ _, (fun _ h => by cases h)⟩
theorem E2.rot (h : E2 base W u v es fs) : E2 base W v u fs es := ⟨h.o2, h.o1, fun g e e' => h.n g e' e⟩
theorem E2.kept (h : E2 base W u v es fs) (hg : W.grownBy W' none) : E2 base W' u v es fs := ⟨h.o1.kept0 hg, h.o2.kept0 hg, h.n⟩
theorem E2.put1 (h : E2 base W u v es fs) (hg : W.grownBy W' u.ownBlock) (ho : EOwn base W' u' es') (hb : ∀ g, u'.ownBlock = some g → u.ownBlock = some g ∨ W.heap.size ≤ g) : E2 base W' u' v es' fs := by
  refine ⟨ho, h.o2.kept hg (fun g e e' => h.n g e' e), fun g e e' => ?_⟩
  rcases hb g e with h1 | h1
  · exact h.n g h1 e'
  · have := (World.ownsRow.lt h.o2 g e').2
    omega
end

/-! ### a table made of zeros, and nodes that are stored into it -/
abbrev zeroN : Nd := ⟨0, 0, false, (0, 0), []⟩
theorem zeros_cells (n : Nat) : (madeCells (Value.agg #[.int .i64 0, .int .i64 0, .bool false, .int .i64 0, .int .i64 0, .slice none 0 0]).cells (n * 6)).toList = ndAll (List.replicate n (zeroN, .slice none 0 0)) := by
  apply List.ext_getElem?
  intro j
  by_cases hj : j < n * 6
  · have h1 : (List.replicate n (zeroN, Value.slice none 0 0))[j / 6]? = some (zeroN, .slice none 0 0) := by rw [List.getElem?_replicate, if_pos (by omega)]
    have h2 := ndAll_at h1 (j % 6) (by omega)
    rw [show j / 6 * 6 + j % 6 = j by omega] at h2
    rw [h2]
    have hsz : (Value.agg #[.int .i64 0, .int .i64 0, .bool false, .int .i64 0, .int .i64 0, .slice none 0 0]).cells.size = 6 := rfl
    simp only [madeCells, Array.toList_map, Array.toList_range, List.getElem?_map, List.getElem?_range hj, Option.map_some, hsz]
    have h6 : j % 6 < 6 := by omega
    generalize j % 6 = r at h6
    match r, h6 with
    | 0, _ => rfl
    | 1, _ => rfl
    | 2, _ => rfl
    | 3, _ => rfl
    | 4, _ => rfl
    | 5, _ => rfl
    | r + 6, h => omega
  · rw [List.getElem?_eq_none (by simp [madeCells]; omega), List.getElem?_eq_none (by rw [ndAll_len, List.length_replicate]; omega)]
/-- make, of nodes. -/
theorem wpList_make_nodes {ops : Array Oper} {rest : List Oper} {o : Oper} {a : Act} {W : World} {Q : Exit → Act → World → Prop} (hgd : o.guard = none) (l c : Operand) (ho : o.op = .makeSlice 22 l c)
    {N : Int} {n : Nat} (hl : a.eval l = .int .i64 N) (hc : a.eval c = .int .i64 N) (hN : N = (n : Int)) (hn : n ≤ 1000000) {base : Nat} (hbase : base ≤ W.heap.size)
    (h : ∀ g W', W'.heap.size = g + 1 → base ≤ g → OT base W' (.slice (some ⟨g, 0, none⟩) n n) (List.replicate n (zeroN, .slice none 0 0)) → W.grownBy W' none → wpList Try.prog ops Q rest (a.put o.dst (.slice (some ⟨g, 0, none⟩) n n)) W') : wpList Try.prog ops Q (o :: rest) a W := by
  obtain ⟨i0, hi, hz0, hz1, hz2⟩ := info_parts node_info
  refine wpList_plain hgd fun K hK => ?_
  have hr := run_make (P := Try.prog) W 22 46 i0 _ Try.underlying22 hi hz0 .i64 .i64 (n : Int) (n : Int) (by omega) (Int.le_refl _) (by rw [hz2]; omega) (by omega)
  simp only [Int.toNat_natCast] at hr
  subst hN
  unfold Oper.wp
  simp [execOp, ho, hl, hc, hr, Result.andThen]
  refine hK _ _ (h W.heap.size _ (by simp) hbase ⟨?_, fun p hp => ?_⟩ (World.grownBy_alloc W _ none))
  · rw [List.length_replicate, ← zeros_cells, hz1]
    exact World.ownsRow_lit W _ n hbase (by unfold maxLen; omega) (size_madeCells _ _)
  · obtain ⟨_, rfl⟩ := List.mem_replicate.1 hp
    exact EdgesO.nil_
theorem ndAll_set_ {p : Nd × Value} {x : Nd} {e u : Value} {j : Nat} (hj : j < 6) (hset : (ndCells p.1 p.2).toList.set j u = (ndCells x e).toList) : ∀ {ns : List (Nd × Value)} {k : Nat}, ns[k]? = some p → (ndAll ns).set (k * 6 + j) u = ndAll (ns.set k (x, e))
  | [], k, h => by simp at h
  | q :: ns, 0, h => by
    simp only [List.getElem?_cons_zero, Option.some.injEq] at h
    subst h
    simp only [ndAll, List.flatMap_cons, List.set_cons_zero, Nat.zero_mul, Nat.zero_add]
    rw [List.set_append, if_pos (by show j < 6; omega), hset]
  | q :: ns, k + 1, h => by
    have hq : (ndCells q.1 q.2).toList.length = 6 := rfl
    have ih := ndAll_set_ hj hset (ns := ns) (k := k) (by simpa using h)
    simp only [ndAll, List.flatMap_cons, List.set_cons_succ] at ih ⊢
    rw [List.set_append, if_neg (by rw [hq]; omega), hq, show (k + 1) * 6 + j - 6 = k * 6 + j by omega, ih]
section
variable {base : Nat} {W W' : World} {g cap n : Nat} {ns : List (Nd × Value)} {k : Nat} {p : Nd × Value}
/-- A row of edges, where the table's own row is turned. -/
theorem OT.edges_kept {v : Value} {e : Value} {es : List Ed} (h : OT base W v ns) (hE : EdgesO base W e es) (hg : W.grownBy W' v.ownBlock) : EdgesO base W' e es :=
  hE.grown hg (fun g' e' => by
    obtain ⟨hb', cs, hblk⟩ := own_row h.row g' e'
    exact ⟨hb', cs, _, hblk, by decide⟩)
/-- Cell j of node k is written. -/
theorem OT.putc (h : OT base W (.slice (some ⟨g, 0, none⟩) n cap) ns) (hn : ns.length = n) (hk : ns[k]? = some p) (j : Nat) (hj : j < 6) (u : Value) (x : Nd) (e : Value) (hset : (ndCells p.1 p.2).toList.set j u = (ndCells x e).toList) (hE : EdgesO base W e x.next) :
    OT base (W.setCell ⟨g, k * 6 + j, none⟩ u) (.slice (some ⟨g, 0, none⟩) n cap) (ns.set k (x, e)) ∧ W.grownBy (W.setCell ⟨g, k * 6 + j, none⟩ u) (some g) := by
  subst hn
  obtain ⟨hst, hgs⟩ := h.row.stored (k * 6 + j) u
  refine ⟨⟨?_, fun q hq => ?_⟩, hgs⟩
  · rw [List.length_set, ← ndAll_set_ hj hset hk]; exact hst
  · rcases List.mem_or_eq_of_mem_set hq with hq | rfl
    · exact h.edges_kept (h.eds q hq) hgs
    · exact h.edges_kept hE hgs
/-- Node k is written whole. -/
theorem OT.put6 (h : OT base W (.slice (some ⟨g, 0, none⟩) n cap) ns) (hn : ns.length = n) (hk : ns[k]? = some p) (x : Nd) (e : Value) (hE : EdgesO base W e x.next) :
    OT base ((((((W.setCell ⟨g, k * 6, none⟩ (.int .i64 x.kind)).setCell ⟨g, k * 6 + 1, none⟩ (.int .i64 x.prio)).setCell ⟨g, k * 6 + 2, none⟩ (.bool x.chan)).setCell ⟨g, k * 6 + 3, none⟩ (.int .i64 x.pay.1)).setCell ⟨g, k * 6 + 4, none⟩ (.int .i64 x.pay.2)).setCell ⟨g, k * 6 + 5, none⟩ e)
      (.slice (some ⟨g, 0, none⟩) n cap) (ns.set k (x, e)) ∧
    W.grownBy ((((((W.setCell ⟨g, k * 6, none⟩ (.int .i64 x.kind)).setCell ⟨g, k * 6 + 1, none⟩ (.int .i64 x.prio)).setCell ⟨g, k * 6 + 2, none⟩ (.bool x.chan)).setCell ⟨g, k * 6 + 3, none⟩ (.int .i64 x.pay.1)).setCell ⟨g, k * 6 + 4, none⟩ (.int .i64 x.pay.2)).setCell ⟨g, k * 6 + 5, none⟩ e) (some g) := by
  have hlk : k < ns.length := (List.getElem?_eq_some_iff.1 hk).1
  have at_ : ∀ (l : List (Nd × Value)) (q : Nd × Value), l.length = ns.length → (l.set k q)[k]? = some q := fun l q hl => by rw [List.getElem?_set, if_pos rfl, if_pos (by omega)]
  have hp := h.eds p (List.mem_of_getElem? hk)
  obtain ⟨h0, g0⟩ := h.putc hn hk 0 (by omega) (.int .i64 x.kind) { p.1 with kind := x.kind } p.2 rfl hp
  obtain ⟨h1, g1⟩ := h0.putc (by rw [List.length_set]; exact hn) (at_ _ _ rfl) 1 (by omega) (.int .i64 x.prio) { p.1 with kind := x.kind, prio := x.prio } p.2 rfl (h.edges_kept hp g0)
  have g01 := g0.trans g1
  obtain ⟨h2, g2⟩ := h1.putc (by simp [hn]) (at_ _ _ (by simp)) 2 (by omega) (.bool x.chan) { p.1 with kind := x.kind, prio := x.prio, chan := x.chan } p.2 rfl (h.edges_kept hp g01)
  have g02 := g01.trans g2
  obtain ⟨h3, g3⟩ := h2.putc (by simp [hn]) (at_ _ _ (by simp)) 3 (by omega) (.int .i64 x.pay.1) { p.1 with kind := x.kind, prio := x.prio, chan := x.chan, pay := (x.pay.1, p.1.pay.2) } p.2 rfl (h.edges_kept hp g02)
  have g03 := g02.trans g3
  obtain ⟨h4, g4⟩ := h3.putc (by simp [hn]) (at_ _ _ (by simp)) 4 (by omega) (.int .i64 x.pay.2) { p.1 with kind := x.kind, prio := x.prio, chan := x.chan, pay := (x.pay.1, x.pay.2) } p.2 rfl (h.edges_kept hp g03)
  have g04 := g03.trans g4
  obtain ⟨h5, g5⟩ := h4.putc (by simp [hn]) (at_ _ _ (by simp)) 5 (by omega) e x e rfl (h.edges_kept hE g04)
  simp only [List.set_set] at h5
  exact ⟨h5, g04.trans g5⟩
/-- What a node's cells hold. -/
theorem OT.cells (h : OT base W (.slice (some ⟨g, 0, none⟩) n cap) ns) (hk : ns[k]? = some p) (j : Nat) (hj : j < 6) : ∃ u, (ndCells p.1 p.2).toList[j]? = some u ∧ W.cell? ⟨g, k * 6 + j, none⟩ = some u := by
  have hu : (ndCells p.1 p.2).toList[j]? = some ((ndCells p.1 p.2).toList[j]'hj) := List.getElem?_eq_getElem hj
  refine ⟨_, hu, ?_⟩
  have := h.row.cells (g := g) rfl (k * 6 + j) _ ((ndAll_at hk j hj).trans hu)
  rwa [addr_plain, Nat.zero_add] at this
theorem OT.six (h : OT base W (.slice (some ⟨g, 0, none⟩) n cap) ns) (hn : ns.length = n) (hk : ns[k]? = some p) : (W.cell? ⟨g, k * 6, none⟩ = some (.int .i64 p.1.kind) ∧ W.cell? ⟨g, k * 6 + 1, none⟩ = some (.int .i64 p.1.prio) ∧ W.cell? ⟨g, k * 6 + 2, none⟩ = some (.bool p.1.chan) ∧
    W.cell? ⟨g, k * 6 + 3, none⟩ = some (.int .i64 p.1.pay.1) ∧ W.cell? ⟨g, k * 6 + 4, none⟩ = some (.int .i64 p.1.pay.2) ∧ W.cell? ⟨g, k * 6 + 5, none⟩ = some p.2) ∧
    (W.frozen? ⟨g, k * 6, none⟩ = false ∧ W.frozen? ⟨g, k * 6 + 1, none⟩ = false ∧ W.frozen? ⟨g, k * 6 + 2, none⟩ = false ∧ W.frozen? ⟨g, k * 6 + 3, none⟩ = false ∧ W.frozen? ⟨g, k * 6 + 4, none⟩ = false ∧ W.frozen? ⟨g, k * 6 + 5, none⟩ = false) := by
  have c := fun j hj => h.cells (g := g) hk j hj
  have fz : ∀ j, W.frozen? ⟨g, j, none⟩ = false := fun j => by subst hn; exact h.row.frozenAt j
  refine ⟨⟨?_, ?_, ?_, ?_, ?_, ?_⟩, fz _, fz _, fz _, fz _, fz _, fz _⟩
  · obtain ⟨u, hu, hc⟩ := c 0 (by omega); cases hu; exact hc
  · obtain ⟨u, hu, hc⟩ := c 1 (by omega); cases hu; exact hc
  · obtain ⟨u, hu, hc⟩ := c 2 (by omega); cases hu; exact hc
  · obtain ⟨u, hu, hc⟩ := c 3 (by omega); cases hu; exact hc
  · obtain ⟨u, hu, hc⟩ := c 4 (by omega); cases hu; exact hc
  · obtain ⟨u, hu, hc⟩ := c 5 (by omega); cases hu; exact hc
theorem OT.frozen (h : OT base W (.slice (some ⟨g, 0, none⟩) n cap) ns) (hn : ns.length = n) (j : Nat) : W.frozen? ⟨g, j, none⟩ = false := by subst hn; exact h.row.frozenAt j
end
end Go.Proofs.Ytepjkoegbehojaa

/- A table of bools that a call makes: rows of its own, each in a block by itself. -/
namespace Go.Proofs.Ytepjkoegbehojaa
open Go.RowKit

theorem rows_info : (Try.prog.info? 72).map (fun i => (i.zero, i.size, i.bytes)) = some (some (.slice none 0 0), 1, 24) := by kernel_rfl
theorem bool_info : (Try.prog.info? 4).map (fun i => (i.zero, i.size, i.bytes)) = some (some (.bool false), 1, 1) := by kernel_rfl
theorem made_one (z : Value) (hz : z.cells = #[z]) (n : Nat) : madeCells z.cells (n * 1) = Array.replicate n z := by
  rw [hz, Nat.mul_one]
  apply Array.ext
  · simp [madeCells]
  · intro i h1 h2
    simp [madeCells]
    have : i % 1 = 0 := Nat.mod_one i
    simp [this]
theorem wpList_make_rows {ops : Array Oper} {rest : List Oper} {o : Oper} {a : Act} {W : World} {Q : Exit → Act → World → Prop} (hgd : o.guard = none) (l c : Operand) (ho : o.op = .makeSlice 71 l c)
    {N : Int} {n : Nat} (hl : a.eval l = .int .i64 N) (hc : a.eval c = .int .i64 N) (hN : N = (n : Int)) (hn : n ≤ 1000)
    (h : ∀ W', Blk W' W.heap.size 72 (Array.replicate n (.slice none 0 0)) → W.grownBy W' none → W'.heap.size = W.heap.size + 1 → wpList Try.prog ops Q rest (a.put o.dst (.slice (some ⟨W.heap.size, 0, none⟩) n n)) W') : wpList Try.prog ops Q (o :: rest) a W := by
  obtain ⟨i0, hi, hz0, hz1, hz2⟩ := info_parts rows_info
  refine wpList_plain hgd fun K hK => ?_
  have hr := run_make (P := Try.prog) W 71 72 i0 _ Try.underlying71 hi hz0 .i64 .i64 (n : Int) (n : Int) (by omega) (Int.le_refl _) (by rw [hz2]; omega) (by omega)
  simp only [Int.toNat_natCast] at hr
  subst hN
  unfold Oper.wp
  simp [execOp, ho, hl, hc, hr, Result.andThen]
  refine hK _ _ (h _ ?_ (World.grownBy_alloc W _ none) (by simp))
  rw [hz1, made_one _ rfl]
  exact Blk.new _ _ _
theorem wpList_make_bools {ops : Array Oper} {rest : List Oper} {o : Oper} {a : Act} {W : World} {Q : Exit → Act → World → Prop} (hgd : o.guard = none) (l c : Operand) (ho : o.op = .makeSlice 72 l c)
    {N : Int} {n : Nat} (hl : a.eval l = .int .i64 N) (hc : a.eval c = .int .i64 N) (hN : N = (n : Int)) (hn : n ≤ 1000)
    (h : ∀ W', Blk W' W.heap.size 4 (Array.replicate n (.bool false)) → W.grownBy W' none → W'.heap.size = W.heap.size + 1 → wpList Try.prog ops Q rest (a.put o.dst (.slice (some ⟨W.heap.size, 0, none⟩) n n)) W') : wpList Try.prog ops Q (o :: rest) a W := by
  obtain ⟨i0, hi, hz0, hz1, hz2⟩ := info_parts bool_info
  refine wpList_plain hgd fun K hK => ?_
  have hr := run_make (P := Try.prog) W 72 4 i0 _ Try.underlying72 hi hz0 .i64 .i64 (n : Int) (n : Int) (by omega) (Int.le_refl _) (by rw [hz2]; omega) (by omega)
  simp only [Int.toNat_natCast] at hr
  subst hN
  unfold Oper.wp
  simp [execOp, ho, hl, hc, hr, Result.andThen]
  refine hK _ _ (h _ ?_ (World.grownBy_alloc W _ none) (by simp))
  rw [hz1, made_one _ rfl]
  exact Blk.new _ _ _

/-- A row of the table. -/
def rowA (N : Nat) (M : Nat → Nat → Bool) (a : Nat) : Array Value := ((List.range N).map fun c => Value.bool (M a c)).toArray
theorem rowA_at {N : Nat} {M : Nat → Nat → Bool} {a c : Nat} (hc : c < N) : (rowA N M a)[c]? = some (.bool (M a c)) := by unfold rowA; simp [hc]
theorem rowA_false (N a : Nat) : Array.replicate N (Value.bool false) = rowA N (fun _ _ => false) a := by
  unfold rowA
  apply Array.ext
  · simp
  · intro i h1 h2; simp
def setM (M : Nat → Nat → Bool) (a c : Nat) : Nat → Nat → Bool := fun x y => if x = a ∧ y = c then true else M x y
theorem rowA_set {N : Nat} {M : Nat → Nat → Bool} {a c : Nat} : (rowA N M a).setIfInBounds c (.bool true) = rowA N (setM M a c) a := by
  apply Array.ext
  · simp [rowA]
  · intro i h1 h2
    have hi : i < N := by simpa [rowA] using h2
    by_cases e : c = i
    · subst e
      simp [rowA, setM]
    · have h3 : i < (rowA N M a).size := by simpa using h1
      rw [Array.getElem_setIfInBounds_ne h3 e]
      have e2 : ¬ i = c := fun h => e h.symm
      simp [rowA, setM, e2]
theorem rowA_far {N : Nat} {M : Nat → Nat → Bool} {a c b : Nat} (h : b ≠ a) : rowA N M b = rowA N (setM M a c) b := by
  unfold rowA setM
  simp [h]
/-- The table: the block of its rows, each row's block; the first k rows are made. -/
structure MatO (base : Nat) (W : World) (gm : Nat) (rb : List Nat) (N : Nat) (M : Nat → Nat → Bool) : Prop where
  bm : Blk W gm 72 ((rb.map fun r => Value.slice (some ⟨r, 0, none⟩) N N) ++ List.replicate (N - rb.length) (Value.slice none 0 0)).toArray
  gb : base ≤ gm
  le : rb.length ≤ N
  nd : rb.Nodup
  row : ∀ (a r : Nat), rb[a]? = some r → base ≤ r ∧ Blk W r 4 (rowA N M a)
section
variable {base gm N : Nat} {W W' : World} {rb : List Nat} {M : Nat → Nat → Bool}
theorem MatO.kept (h : MatO base W gm rb N M) (hg : W.grownBy W' none) : MatO base W' gm rb N M := ⟨h.bm.kept hg, h.gb, h.le, h.nd, fun a r hr => ⟨(h.row a r hr).1, (h.row a r hr).2.kept hg⟩⟩
theorem MatO.start {g : Nat} (hb : base ≤ g) (h : Blk W g 72 (Array.replicate N (.slice none 0 0))) (M : Nat → Nat → Bool) : MatO base W g [] N M :=
  ⟨by have e : Array.replicate N (Value.slice none 0 0) = (([] : List Nat).map (fun r => Value.slice (some ⟨r, 0, none⟩) N N) ++ List.replicate (N - ([] : List Nat).length) (Value.slice none 0 0)).toArray := by simp
      rw [← e]; exact h, hb, Nat.zero_le _, List.nodup_nil, fun a r hr => by simp at hr⟩
/-- One row more. -/
theorem MatO.add {r : Nat} (h : MatO base W gm rb N (fun _ _ => false)) (hr : Blk W r 4 (Array.replicate N (.bool false))) (hb : base ≤ r) (hn : r ∉ rb) (hl : rb.length < N) :
    MatO base (W.setCell ⟨gm, rb.length, none⟩ (.slice (some ⟨r, 0, none⟩) N N)) gm (rb ++ [r]) N (fun _ _ => false) := by
  refine ⟨?_, h.gb, by simp; omega, List.nodup_append.2 ⟨h.nd, by simp, fun x hx y hy e => hn (by simp at hy; rw [← hy, ← e]; exact hx)⟩, fun a q hq => ?_⟩
  · have h1 := h.bm.set_ rb.length (.slice (some ⟨r, 0, none⟩) N N)
    have e : (((rb.map fun r => Value.slice (some ⟨r, 0, none⟩) N N) ++ List.replicate (N - rb.length) (Value.slice none 0 0)).toArray).setIfInBounds rb.length (.slice (some ⟨r, 0, none⟩) N N) = (((rb ++ [r]).map fun r => Value.slice (some ⟨r, 0, none⟩) N N) ++ List.replicate (N - (rb ++ [r]).length) (Value.slice none 0 0)).toArray := by
      obtain ⟨d, hd⟩ : ∃ d, N - rb.length = d + 1 := ⟨N - rb.length - 1, by omega⟩
      have hd2 : N - (rb ++ [r]).length = d := by simp; omega
      rw [hd2, hd, List.replicate_succ]
      simp
    rw [← e]
    exact h1
  · have far : ∀ {k : Nat} {cs : Array Value}, Blk W k 4 cs → Blk (W.setCell ⟨gm, rb.length, none⟩ (.slice (some ⟨r, 0, none⟩) N N)) k 4 cs := fun hk => hk.far (p := ⟨gm, rb.length, none⟩) (fun e => Blk.ne_ hk h.bm (by decide) e) _
    by_cases ha : a < rb.length
    · rw [List.getElem?_append_left ha] at hq
      exact ⟨(h.row a q hq).1, far (h.row a q hq).2⟩
    · have hal : a = rb.length := by have := (List.getElem?_eq_some_iff.1 hq).1; simp at this; omega
      subst hal
      rw [List.getElem?_append_right (Nat.le_refl _), Nat.sub_self] at hq
      simp only [List.getElem?_cons_zero, Option.some.injEq] at hq
      subst hq
      rw [rowA_false N rb.length] at hr
      exact ⟨hb, far hr⟩
theorem MatO.cell {a r : Nat} (h : MatO base W gm rb N M) (hr : rb[a]? = some r) : W.cell? ⟨gm, a, none⟩ = some (.slice (some ⟨r, 0, none⟩) N N) := by
  have := h.bm.cell a
  rw [this]
  have ha := (List.getElem?_eq_some_iff.1 hr).1
  simp only [List.getElem?_toArray]
  rw [List.getElem?_append_left (by simpa using ha), List.getElem?_map, hr]
  rfl
theorem MatO.mat (h : MatO base W gm rb N M) (hl : rb.length = N) : MatV W (.slice (some ⟨gm, 0, none⟩) N N) N M := by
  refine ⟨gm, 0, N, rfl, fun a ha => ?_⟩
  obtain ⟨r, hr⟩ : ∃ r, rb[a]? = some r := ⟨_, List.getElem?_eq_getElem (by omega)⟩
  refine ⟨r, 0, N, by rw [Nat.zero_add]; exact h.cell hr, fun c hc => ?_⟩
  rw [Nat.zero_add, (h.row a r hr).2.cell c]
  exact rowA_at hc
/-- A pair is told apart. -/
theorem MatO.put {a c r : Nat} (h : MatO base W gm rb N M) (hr : rb[a]? = some r) : MatO base (W.setCell ⟨r, c, none⟩ (.bool true)) gm rb N (setM M a c) := by
  have hb := (h.row a r hr).2
  refine ⟨h.bm.far (p := ⟨r, c, none⟩) (fun e => Blk.ne_ hb h.bm (by decide) e.symm) _, h.gb, h.le, h.nd, fun b q hq => ⟨(h.row b q hq).1, ?_⟩⟩
  by_cases e : b = a
  · subst e
    rw [hr] at hq
    obtain rfl := Option.some.inj hq
    rw [← rowA_set]
    exact hb.set_ c _
  · have hne : q ≠ r := fun e2 => by
      subst e2
      obtain ⟨l1, g1⟩ := List.getElem?_eq_some_iff.1 hq
      obtain ⟨l2, g2⟩ := List.getElem?_eq_some_iff.1 hr
      exact e ((List.getElem_inj h.nd).1 (g1.trans g2.symm))
    rw [← rowA_far e]
    exact (h.row b q hq).2.far (p := ⟨r, c, none⟩) hne _
/-- How many cells of the table hold false. -/
def pairsN (N : Nat) : List (Nat × Nat) := (List.range N).flatMap fun a => (List.range N).map fun c => (a, c)
def cntM (M : Nat → Nat → Bool) (N : Nat) : Nat := (pairsN N).countP fun p => !M p.1 p.2
def falses (W : World) (gm N : Nat) : Nat := (pairsN N).countP fun p => match W.cell? ⟨gm, p.1, none⟩ with
  | some (.slice (some ad) _ _) => (match W.cell? ⟨ad.block, p.2, none⟩ with | some (.bool b) => !b | _ => false)
  | _ => false
theorem mem_pairs {N : Nat} {p : Nat × Nat} : p ∈ pairsN N ↔ p.1 < N ∧ p.2 < N := by
  unfold pairsN
  simp only [List.mem_flatMap, List.mem_range, List.mem_map]
  constructor
  · rintro ⟨a, ha, c, hc, rfl⟩; exact ⟨ha, hc⟩
  · rintro ⟨h1, h2⟩; exact ⟨p.1, h1, p.2, h2, rfl⟩
theorem MatO.falses (h : MatO base W gm rb N M) (hl : rb.length = N) : falses W gm N = cntM M N := by
  unfold Go.Proofs.Ytepjkoegbehojaa.falses cntM
  refine List.countP_congr fun p hp => ?_
  obtain ⟨h1, h2⟩ := mem_pairs.1 hp
  obtain ⟨r, hr⟩ : ∃ r, rb[p.1]? = some r := ⟨_, List.getElem?_eq_getElem (by omega)⟩
  rw [h.cell hr]
  dsimp only
  rw [(h.row _ r hr).2.cell, rowA_at h2]
theorem countP_ltG {α : Type} {p q : α → Bool} : ∀ {l : List α}, (∀ x ∈ l, p x = true → q x = true) → (∃ x ∈ l, p x = false ∧ q x = true) → l.countP p < l.countP q
  | [], _, h => by obtain ⟨x, hx, _⟩ := h; cases hx
  | y :: l, h, hx => by
    have hle : l.countP p ≤ l.countP q := List.countP_mono_left fun x hx => h x (List.mem_cons_of_mem _ hx)
    rw [List.countP_cons, List.countP_cons]
    obtain ⟨x, hm, hp, hq⟩ := hx
    rcases List.mem_cons.1 hm with rfl | hm
    · rw [hp, hq]; simp; omega
    · have ih := countP_ltG (fun x hx => h x (List.mem_cons_of_mem _ hx)) ⟨x, hm, hp, hq⟩
      have hy := h y List.mem_cons_self
      cases hpy : p y with
      | false => simp; omega
      | true => rw [hy hpy]; simp; omega
theorem cnt_set {a c : Nat} (ha : a < N) (hc : c < N) (h : M a c = false) : cntM (setM M a c) N < cntM M N := by
  unfold cntM
  refine countP_ltG (fun p _ hp => ?_) ⟨(a, c), mem_pairs.2 ⟨ha, hc⟩, by simp [setM], by simp [h]⟩
  unfold setM at hp
  split at hp
  · simp at hp
  · exact hp
theorem MatO.step {w : World} {u : Value} {r c : Nat} (h : MatO w.heap.size W gm rb N M) (hw : w.grownBy W none) {a : Nat} (hr : rb[a]? = some r) : w.grownBy (W.setCell ⟨r, c, none⟩ u) none := only_setNew hw (h.row a r hr).1 _
end
end Go.Proofs.Ytepjkoegbehojaa

/- Rows of a call's own: ints, links, classes. -/
namespace Go.Proofs.Ytepjkoegbehojaa
open Go.RowKit

theorem link_info : (Try.prog.info? 54).map (fun i => (i.zero, i.size, i.bytes)) = some (some (.agg #[.int .i64 0, .int .i64 0]), 2, 16) := by kernel_rfl
theorem class_info : (Try.prog.info? 57).map (fun i => (i.zero, i.size, i.bytes)) = some (some (.agg #[.int .i64 0, .int .i64 0, .bool false, .int .i64 0, .int .i64 0, .slice none 0 0]), 6, 64) := by kernel_rfl
theorem intI_info : (Try.prog.info? 3).map (fun i => (i.zero, i.size, i.bytes)) = some (some (.int .i64 0), 1, 8) := by kernel_rfl
/-- Edges that lie where no row of nodes does: below base, or in a block of edges. -/
def LnkO (base : Nat) (W : World) (v : Value) (es : List Ed) : Prop := ∃ (A : Option Addr) (c : Nat), v = .slice A es.length c ∧ es.length ≤ 9223372036854775807 ∧
  (es ≠ [] → ∃ b off, A = some ⟨b, off, none⟩ ∧ (b < base ∨ ∃ cs, Blk W b 54 cs) ∧ ∀ i e, es[i]? = some e → W.cell? ⟨b, off + i * 2, none⟩ = some (.int .i64 e.1) ∧ W.cell? ⟨b, off + i * 2 + 1, none⟩ = some (.int .i64 e.2))
section
variable {base : Nat} {W W' : World} {v : Value} {es : List Ed}
theorem LnkO.edges (h : LnkO base W v es) : Edges W v es := by
  obtain ⟨A, c, h1, hl, h2⟩ := h
  refine ⟨A, c, h1, hl, fun hn => ?_⟩
  obtain ⟨b, off, h3, _, h4⟩ := h2 hn
  exact ⟨b, off, h3, h4⟩
theorem Edges.oldL (h : Edges W v es) (hB : W.heap.size ≤ base) : LnkO base W v es := by
  obtain ⟨A, c, h1, hl, h2⟩ := h
  refine ⟨A, c, h1, hl, fun hn => ?_⟩
  obtain ⟨b, off, h3, h4⟩ := h2 hn
  have h0 : ∃ e, es[0]? = some e := by
    cases es with
    | nil => exact absurd rfl hn
    | cons e _ => exact ⟨e, rfl⟩
  obtain ⟨e, he⟩ := h0
  have : b < W.heap.size := cell_lt (h4 0 e he).1
  exact ⟨b, off, h3, .inl (by omega), h4⟩
theorem LnkO.grown {row : Option Nat} (h : LnkO base W v es) (hg : W.grownBy W' row) (hr : ∀ g, row = some g → base ≤ g ∧ ∃ cs t, Blk W g t cs ∧ t ≠ 54) : LnkO base W' v es := by
  obtain ⟨A, c, h1, hl, h2⟩ := h
  refine ⟨A, c, h1, hl, fun hn => ?_⟩
  obtain ⟨b, off, h3, h5, h4⟩ := h2 hn
  have hne : some b ≠ row := fun e => by
    obtain ⟨hb, cs, t, hblk, ht⟩ := hr b e.symm
    rcases h5 with h5 | ⟨cs', h5⟩
    · omega
    · exact Blk.ne_ hblk h5 ht rfl
  refine ⟨b, off, h3, h5.imp id (fun ⟨cs, hb⟩ => ⟨cs, hb.grown hg hne⟩), fun i e he => ?_⟩
  have hlt := cell_lt (h4 i e he).1
  have hc := fun o => World.cell?_of_block (a := ⟨b, o, none⟩) (hg.block b hlt hne)
  exact ⟨(hc _).trans (h4 i e he).1, (hc _).trans (h4 i e he).2⟩
theorem LnkO.kept (h : LnkO base W v es) (hg : W.grownBy W' none) : LnkO base W' v es := h.grown hg (fun _ e => by cases e)
theorem LnkO.nil_ : LnkO base W (.slice none 0 0) [] := ⟨none, 0, rfl, by simp, fun h => absurd rfl h⟩
theorem LnkO.one {g c : Nat} {e : Ed} (h : Blk W g 54 (edCells e)) : LnkO base W (.slice (some ⟨g, 0, none⟩) 1 c) [e] :=
  ⟨_, _, rfl, by simp, fun _ => ⟨g, 0, rfl, .inr ⟨_, h⟩, fun i x hx => by
    match i, hx with
    | 0, hx => cases hx; exact ⟨h.cell 0, h.cell 1⟩
    | i + 1, hx => simp at hx⟩⟩
end

/-- A row of edges of the call's own. -/
def LOwn (base : Nat) (W : World) (v : Value) (es : List Ed) : Prop := W.ownsRow base 54 2 v es.length (edAll es)
section
variable {base : Nat} {W W' : World} {v : Value} {es : List Ed}
theorem LOwn.nil_ (base : Nat) (W : World) : LOwn base W (.slice none 0 0) [] := World.ownsRow_nil _ _ _ _
theorem LOwn.edges (h : LOwn base W v es) (hl : es.length ≤ 1000) : LnkO base W v es := by
  rcases h.2 with ⟨rfl, he⟩ | ⟨g, cap, cur, rfl, hb, hh, _⟩
  · have h0 : es = [] := by
      have := edAll_len es
      rw [he] at this
      exact List.eq_nil_of_length_eq_zero (by simp at this; omega)
    subst h0
    exact LnkO.nil_
  · refine ⟨_, cap, rfl, by omega, fun _ => ⟨g, 0, rfl, .inr ⟨cur, hh⟩, fun i e he => ?_⟩⟩
    have hc := h.cells (g := g) rfl
    have at_ : ∀ j u, j < 2 → (edCells e).toList[j]? = some u → W.cell? ⟨g, i * 2 + j, none⟩ = some u := fun j u hj hu => by
      have := hc (i * 2 + j) u ((edAll_at he j hj).trans hu)
      rwa [addr_plain, Nat.zero_add] at this
    rw [Nat.zero_add]
    exact ⟨at_ 0 _ (by omega) rfl, at_ 1 _ (by omega) rfl⟩
theorem LOwn.kept {row : Option Nat} (h : LOwn base W v es) (hg : W.grownBy W' row) (hr : ∀ g, v.ownBlock = some g → row ≠ some g) : LOwn base W' v es := by
  refine World.ownsRow.kept h hg ?_
  cases hb : v.ownBlock with
  | none => exact .inl rfl
  | some g => exact .inr (fun e => hr g hb e.symm)
theorem LOwn.kept0 (h : LOwn base W v es) (hg : W.grownBy W' none) : LOwn base W' v es := h.kept hg (fun _ _ e => by cases e)
theorem LOwn.one {g : Nat} {e : Ed} (h : Blk W g 54 (edCells e)) (hb : base ≤ g) : LOwn base W (.slice (some ⟨g, 0, none⟩) 1 1) [e] :=
  ⟨rfl, .inr ⟨g, 1, edCells e, rfl, hb, h, Nat.le_refl _, by unfold maxLen; omega, rfl, rfl⟩⟩
theorem LOwn.len (h : LOwn base W v es) : ∃ A c, v = .slice A es.length c := by
  rcases h.2 with ⟨rfl, he⟩ | ⟨g, cap, cur, rfl, _⟩
  · have h0 : es = [] := by
      have := edAll_len es
      rw [he] at this
      exact List.eq_nil_of_length_eq_zero (by simp at this; omega)
    subst h0
    exact ⟨none, 0, rfl⟩
  · exact ⟨_, _, rfl⟩
end

/-- One edge more, appended; and where the row lies then. -/
theorem wpList_append_linkB {ops : Array Oper} {rest : List Oper} {o : Oper} {a : Act} {W : World} {Q : Exit → Act → World → Prop} (hgd : o.guard = none) (s x : Operand)
    (ho : o.op = .call { callee := .builtin .append, args := #[s, x], argTypes := #[55, 55] })
    {base : Nat} {v : Value} {es : List Ed} {e : Ed} {g : Nat} (hs : a.eval s = v) (hx : a.eval x = .slice (some ⟨g, 0, none⟩) 1 1)
    (hot : LOwn base W v es) (hb : Blk W g 54 (edCells e)) (hn : es.length ≤ 1000) (hbase : base ≤ W.heap.size)
    (h : ∀ v' W', LOwn base W' v' (es ++ [e]) → W.grownBy W' v.ownBlock → (∀ g, v'.ownBlock = some g → v.ownBlock = some g ∨ W.heap.size ≤ g) → wpList Try.prog ops Q rest (a.put o.dst v') W') : wpList Try.prog ops Q (o :: rest) a W := by
  obtain ⟨i0, hi, hz0, hz1, hz2⟩ := info_parts link_info
  have hnews : ∀ j u, (edCells e).toList[j]? = some u → W.cell? ((⟨g, 0, none⟩ : Addr).add j) = some u := fun j u hu => by rw [addr_plain, Nat.zero_add, hb.cell j, ← hu]; simp
  have hone : ∀ u ∈ (edCells e).toList, u.oneCell' = true := fun u hu => edAll_one [e] u (by simpa [edAll] using hu)
  have hown : W.ownsRow base 54 i0.size v es.length (edAll es) := by rw [hz1]; exact hot
  have hbk := fun {v' : Value} {W' : World} => append_blockG (W := W) (ty := o.type) (t := 55) Try.underlying55 hi hz0 (by rw [hz1]; decide) hown (a := ⟨g, 0, none⟩) (m := 1) (c := 1) (by rw [hz1]; rfl) hnews hone (by rw [hz1]; rfl) (by unfold maxLen; omega) (by rw [hz2]; omega) (v' := v') (W' := W')
  refine wpList_plain hgd fun K hK => ?_
  obtain ⟨v', W', hr, h2, h3, _⟩ := run_append_own (P := Try.prog) W base 55 o.type 54 i0 _ 2 16 Try.underlying55 hi hz0 hz1 hz2 rfl (by decide) v es.length (edAll es) hot ⟨g, 0, none⟩ 1 1 (edCells e).toList rfl hnews hone (by unfold maxLen; omega) (by omega) hbase
  have hbl := hbk hr
  unfold Oper.wp execOp
  simp only [ho, resolve, invoke, builtin, Sem.run_bind, Sem.run_pure, Result.andThen_ok, List.map_toArray, List.map_cons, List.map_nil, hs, hx, hr]
  refine hK _ _ (h v' W' ?_ h3 hbl)
  show World.ownsRow _ _ _ _ _ _ _
  rw [List.length_append, edAll_snoc]; exact h2

/-- A table that is owned. -/
structure CTw (base : Nat) (W : World) (v : Value) (ns : List (Nd × Value)) : Prop where
  row : W.ownsRow base 57 6 v ns.length (ndAll ns)
  eds : ∀ p ∈ ns, LnkO base W p.2 p.1.next
section
variable {base : Nat} {W W' : World} {v : Value} {ns : List (Nd × Value)}
theorem CTw.start (base : Nat) (W : World) : CTw base W (.slice none 0 0) [] := ⟨World.ownsRow_nil _ _ _ _, fun p hp => by cases hp⟩
theorem CTw.kept (h : CTw base W v ns) (hg : W.grownBy W' none) : CTw base W' v ns := by
  refine ⟨h.row.kept hg ?_, fun p hp => (h.eds p hp).kept hg⟩
  cases hb : v.ownBlock with
  | none => exact .inl rfl
  | some g => exact .inr (fun e => by cases e)
theorem CTw.tbl (h : CTw base W v ns) : Tbl W v (ns.map (·.1)) := by
  rcases h.row.2 with ⟨rfl, he⟩ | ⟨g, cap, cur, rfl, hb, hh, _⟩
  · have h0 : ns = [] := by
      have := ndAll_len ns
      rw [he] at this
      exact List.eq_nil_of_length_eq_zero (by simp at this; omega)
    subst h0
    exact Tbl.nil_ W
  · refine ⟨_, cap, by simp, fun _ => ⟨g, 0, rfl, fun i x hx => ?_⟩⟩
    rw [List.getElem?_map] at hx
    obtain ⟨p, hp, rfl⟩ := Option.map_eq_some_iff.1 hx
    have hc := h.row.cells (g := g) rfl
    have e : ∀ j, ((⟨g, 0, none⟩ : Addr).add j) = ⟨g, j, none⟩ := fun j => by rw [addr_plain, Nat.zero_add]
    have at_ : ∀ j u, j < 6 → (ndCells p.1 p.2).toList[j]? = some u → W.cell? ⟨g, i * 6 + j, none⟩ = some u := fun j u hj hu => by
      have := hc (i * 6 + j) u ((ndAll_at hp j hj).trans hu)
      rwa [e] at this
    refine ⟨p.2, (h.eds p (List.mem_of_getElem? hp)).edges, ?_⟩
    rw [Nat.zero_add]
    exact ⟨at_ 0 _ (by omega) rfl, at_ 1 _ (by omega) rfl, at_ 2 _ (by omega) rfl, at_ 3 _ (by omega) rfl, at_ 4 _ (by omega) rfl, at_ 5 _ (by omega) rfl⟩
theorem CTw.len (h : CTw base W v ns) : ∃ A c, v = .slice A ns.length c := by
  rcases h.row.2 with ⟨rfl, he⟩ | ⟨g, cap, cur, rfl, _⟩
  · have h0 : ns = [] := by
      have := ndAll_len ns
      rw [he] at this
      exact List.eq_nil_of_length_eq_zero (by simp at this; omega)
    subst h0
    exact ⟨none, 0, rfl⟩
  · exact ⟨_, _, rfl⟩
end

/-- One node more, appended. -/
theorem wpList_append_class {ops : Array Oper} {rest : List Oper} {o : Oper} {a : Act} {W : World} {Q : Exit → Act → World → Prop} (hgd : o.guard = none) (s x : Operand)
    (ho : o.op = .call { callee := .builtin .append, args := #[s, x], argTypes := #[24, 24] })
    {base : Nat} {v : Value} {ns : List (Nd × Value)} {nd : Nd} {e : Value} {g : Nat} (hs : a.eval s = v) (hx : a.eval x = .slice (some ⟨g, 0, none⟩) 1 1)
    (hot : CTw base W v ns) (hb : Blk W g 57 (ndCells nd e)) (hE : LnkO base W e nd.next) (hn : ns.length ≤ 1000) (hbase : base ≤ W.heap.size)
    (h : ∀ v' W', CTw base W' v' (ns ++ [(nd, e)]) → W.grownBy W' v.ownBlock → wpList Try.prog ops Q rest (a.put o.dst v') W') : wpList Try.prog ops Q (o :: rest) a W := by
  obtain ⟨i0, hi, hz0, hz1, hz2⟩ := info_parts class_info
  have hE2 := hE
  obtain ⟨A2, c2, he, _⟩ := hE2
  refine wpList_append_own W hgd s x 24 ho base 57 i0 _ 6 64 Try.underlying24 hi hz0 hz1 hz2 rfl (by decide) v ns.length (ndAll ns) hs hot.row
    ⟨g, 0, none⟩ 1 1 (ndCells nd e).toList hx rfl (fun j u hu => ?_) (fun u hu => ?_) (by unfold maxLen; omega) (by omega) hbase (fun v' W' hr hg _ => h v' W' ⟨?_, ?_⟩ hg)
  · rw [addr_plain, Nat.zero_add, hb.cell j, ← hu]; simp
  · rw [he] at hu
    simp only [List.mem_cons, List.not_mem_nil, or_false] at hu
    rcases hu with rfl | rfl | rfl | rfl | rfl | rfl <;> rfl
  · rw [List.length_append, ndAll_snoc]; exact hr
  · intro p hp
    rcases List.mem_append.1 hp with hp | hp
    · refine (hot.eds p hp).grown hg (fun g' e' => ?_)
      obtain ⟨hb', cs, hblk⟩ := own_row hot.row g' e'
      exact ⟨hb', cs, _, hblk, by decide⟩
    · obtain rfl := List.mem_singleton.1 hp
      refine hE.grown hg (fun g' e' => ?_)
      obtain ⟨hb', cs, hblk⟩ := own_row hot.row g' e'
      exact ⟨hb', cs, _, hblk, by decide⟩

/-! ### Ints -/
def inAll (zs : List Int) : List Value := zs.map fun z => .int .i64 z
def IOwn (base : Nat) (W : World) (v : Value) (zs : List Int) : Prop := W.ownsRow base 3 1 v zs.length (inAll zs)
section
variable {base : Nat} {W W' : World} {v : Value} {zs : List Int}
theorem IOwn.nil_ (base : Nat) (W : World) : IOwn base W (.slice none 0 0) [] := World.ownsRow_nil _ _ _ _
theorem IOwn.empty (h : IOwn base W (.slice none 0 0) zs) : zs = [] := by
  rcases h.2 with ⟨_, he⟩ | ⟨g, cap, cur, e, _⟩
  · exact List.eq_nil_of_length_eq_zero he
  · cases e
theorem IOwn.ints (h : IOwn base W v zs) (hl : zs.length ≤ 1000) : Ints W v zs := by
  rcases h.2 with ⟨rfl, he⟩ | ⟨g, cap, cur, rfl, hb, hh, _⟩
  · obtain rfl : zs = [] := List.eq_nil_of_length_eq_zero he
    exact Ints.nil_ W
  · refine ⟨_, cap, rfl, by omega, fun _ => ⟨g, 0, rfl, fun i z hz => ?_⟩⟩
    have hc := h.cells (g := g) rfl i (.int .i64 z) (by unfold inAll; rw [List.getElem?_map, hz]; rfl)
    rw [Nat.zero_add]
    rwa [addr_plain, Nat.zero_add] at hc
theorem IOwn.kept {row : Option Nat} (h : IOwn base W v zs) (hg : W.grownBy W' row) (hr : ∀ g, v.ownBlock = some g → row ≠ some g) : IOwn base W' v zs := by
  refine World.ownsRow.kept h hg ?_
  cases hb : v.ownBlock with
  | none => exact .inl rfl
  | some g => exact .inr (fun e => hr g hb e.symm)
theorem IOwn.kept0 (h : IOwn base W v zs) (hg : W.grownBy W' none) : IOwn base W' v zs := h.kept hg (fun _ _ e => by cases e)
theorem IOwn.len (h : IOwn base W v zs) : ∃ A c, v = .slice A zs.length c := by
  rcases h.2 with ⟨rfl, he⟩ | ⟨g, cap, cur, rfl, _⟩
  · obtain rfl : zs = [] := List.eq_nil_of_length_eq_zero he
    exact ⟨none, 0, rfl⟩
  · exact ⟨_, _, rfl⟩
/-- Another block that is turned: of another type. -/
theorem IOwn.other {row : Option Nat} (h : IOwn base W v zs) (hg : W.grownBy W' row) (hr : ∀ g, row = some g → ∃ t cs, Blk W g t cs ∧ t ≠ 3) : IOwn base W' v zs := h.kept hg (fun g e e' => by
  obtain ⟨t, cs, hb, ht⟩ := hr g e'
  obtain ⟨_, cs', hb'⟩ := own_row h g e
  exact Blk.ne_ hb hb' ht rfl)
end
/-- One int more, appended; and where the row lies then. -/
theorem wpList_append_intB {ops : Array Oper} {rest : List Oper} {o : Oper} {a : Act} {W : World} {Q : Exit → Act → World → Prop} (hgd : o.guard = none) (s x : Operand)
    (ho : o.op = .call { callee := .builtin .append, args := #[s, x], argTypes := #[25, 25] })
    {base : Nat} {v : Value} {zs : List Int} {z : Int} {g : Nat} (hs : a.eval s = v) (hx : a.eval x = .slice (some ⟨g, 0, none⟩) 1 1)
    (hot : IOwn base W v zs) (hb : Blk W g 3 #[.int .i64 z]) (hn : zs.length ≤ 1000) (hbase : base ≤ W.heap.size)
    (h : ∀ v' W', IOwn base W' v' (zs ++ [z]) → W.grownBy W' v.ownBlock → (∀ g, v'.ownBlock = some g → v.ownBlock = some g ∨ W.heap.size ≤ g) → wpList Try.prog ops Q rest (a.put o.dst v') W') : wpList Try.prog ops Q (o :: rest) a W := by
  obtain ⟨i0, hi, hz0, hz1, hz2⟩ := info_parts intI_info
  have hnews : ∀ j u, [Value.int .i64 z][j]? = some u → W.cell? ((⟨g, 0, none⟩ : Addr).add j) = some u := fun j u hu => by rw [addr_plain, Nat.zero_add, hb.cell j, ← hu]; simp
  have hone : ∀ u ∈ [Value.int .i64 z], u.oneCell' = true := fun u hu => by obtain rfl := List.mem_singleton.1 hu; rfl
  have hown : W.ownsRow base 3 i0.size v zs.length (inAll zs) := by rw [hz1]; exact hot
  have hbk := fun {v' : Value} {W' : World} => append_blockG (W := W) (ty := o.type) (t := 25) Try.underlying25 hi hz0 (by rw [hz1]; decide) hown (a := ⟨g, 0, none⟩) (m := 1) (c := 1) (by rw [hz1]; rfl) hnews hone (by rw [hz1]; rfl) (by unfold maxLen; omega) (by rw [hz2]; omega) (v' := v') (W' := W')
  refine wpList_plain hgd fun K hK => ?_
  obtain ⟨v', W', hr, h2, h3, _⟩ := run_append_own (P := Try.prog) W base 25 o.type 3 i0 _ 1 8 Try.underlying25 hi hz0 hz1 hz2 rfl (by decide) v zs.length (inAll zs) hot ⟨g, 0, none⟩ 1 1 [Value.int .i64 z] rfl hnews hone (by unfold maxLen; omega) (by omega) hbase
  have hbl := hbk hr
  unfold Oper.wp execOp
  simp only [ho, resolve, invoke, builtin, Sem.run_bind, Sem.run_pure, Result.andThen_ok, List.map_toArray, List.map_cons, List.map_nil, hs, hx, hr]
  refine hK _ _ (h v' W' ?_ h3 hbl)
  show World.ownsRow _ _ _ _ _ _ _
  have e : inAll (zs ++ [z]) = inAll zs ++ [.int .i64 z] := by unfold inAll; simp
  rw [List.length_append, e]; exact h2
end Go.Proofs.Ytepjkoegbehojaa

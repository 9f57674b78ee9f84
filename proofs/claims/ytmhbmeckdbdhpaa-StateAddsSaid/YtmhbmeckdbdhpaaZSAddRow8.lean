/- Texts joined for the claim's sake: GMadA, DOwn. -/
import Derived.Test.YtmhbmeckdbdhpaaZSAddRow1
import Derived.Deep.RegionLaw
import Derived.Laws.OwnMore
import Derived.OwnWalk
namespace Go.Proofs.Ytmhbmeckdbdhpaa
open Go.RowKit

/-- As it may be, with no more than eight edges. -/
def Good (n : Nat) (x : Nd) : Prop := illN n x = 0 ∧ x.next.length ≤ 8
def edOk (n : Nat) (e : Ed) : Prop := 0 ≤ e.1 ∧ e.1 < n ∧ 0 ≤ e.2 ∧ e.2 ≤ 1000
theorem EOwn.base_ {base base' : Nat} {W : World} {v : Value} {es : List Ed} (h : EOwn base W v es) (hb : base' ≤ base) : EOwn base' W v es :=
  ⟨h.1, h.2.imp id (fun ⟨g, cap, cur, h1, h2, h3⟩ => ⟨g, cap, cur, h1, Nat.le_trans hb h2, h3⟩)⟩
theorem edAll_one (es : List Ed) : ∀ u ∈ edAll es, u.oneCell' = true := by
  intro u hu
  simp only [edAll, List.mem_flatMap] at hu
  obtain ⟨e, _, hu⟩ := hu
  simp only [List.mem_cons, List.not_mem_nil, or_false] at hu
  rcases hu with rfl | rfl <;> rfl
/-- One edge more, appended, in a region that draws. -/
theorem step_append_edge {ops : Array Oper} {o : Oper} {a : Act} {W : World} {K : Act → World → Prop} {Q : Exit → Act → World → Prop} {E : Prop} (hgd : o.guard = none) (s x : Operand)
    (ho : o.op = .call { callee := .builtin .append, args := #[s, x], argTypes := #[68, 68] })
    {base : Nat} {v : Value} {es : List Ed} {e : Ed} {g : Nat} (hs : a.eval s = v) (hx : a.eval x = .slice (some ⟨g, 0, none⟩) 1 1)
    (hot : EOwn base W v es) (hb : Blk W g 67 (edCells e)) (hn : es.length ≤ 1000) (hbase : base ≤ W.heap.size)
    (h : ∀ v' W', EOwn base W' v' (es ++ [e]) → W.grownBy W' v.ownBlock → K (a.put o.dst v') W') : if Region.wanted o (yielded ops a.tmps) = true then Oper.wp Try.prog o a W K Q else E := by
  have hw : Region.wanted o (yielded ops a.tmps) = true := by simp [Region.wanted, hgd]
  rw [if_pos hw]
  obtain ⟨i0, hi, hz0, hz1, hz2⟩ := info_parts edge_info
  refine wp_append_own W s x 68 ho base 67 i0 _ 2 16 Try.underlying68 hi hz0 hz1 hz2 rfl (by decide) v es.length (edAll es) hs hot
    ⟨g, 0, none⟩ 1 1 (edCells e).toList hx rfl (fun j u hu => ?_) (fun u hu => ?_) (by unfold maxLen; omega) (by omega) hbase (fun v' W' hr hg _ => h v' W' ?_ hg)
  · rw [addr_plain, Nat.zero_add, hb.cell j, ← hu]; simp
  · exact edAll_one [e] u (by simpa [edAll] using hu)
  · show World.ownsRow _ _ _ _ _ _ _
    rw [List.length_append, edAll_snoc]; exact hr
end Go.Proofs.Ytmhbmeckdbdhpaa

namespace Go.Proofs.Ytmhbmeckdbdhpaa
open Go.RowKit

/-- The block that an append answers with is the one it was, or a new one. -/
theorem append_blockG {W : World} {ty e t : TypeId} {i : TypeInfo} {z : Value} (ht : Try.prog.underlying t = some (.slice e)) (hi : Try.prog.info? e = some i) (hz : i.zero = some z) (hsz : 0 < i.size)
    {base : Nat} {v : Value} {n : Nat} {xs : List Value} (hown : W.ownsRow base e i.size v n xs) {a : Addr} {m c : Nat} {news : List Value} (hl : news.length = m * i.size) (hnews : ∀ j u, news[j]? = some u → W.cell? (a.add j) = some u) (h1 : ∀ u ∈ news, u.oneCell' = true)
    (hzs : z.cells.size = i.size) (h63 : n + m ≤ maxLen) (hbytes : (n + m) * i.bytes ≤ 140737488355328) {v' : Value} {W' : World}
    (hr : (Builtin.append_ #[t, t] ty #[v, .slice (some a) m c]).run Try.prog W = .ok v' W') : ∀ g, v'.ownBlock = some g → v.ownBlock = some g ∨ W.heap.size ≤ g := by
  intro g hg
  have hsmall : n + m ≤ 9223372036854775807 := Nat.le_trans h63 (by decide)
  rcases hown.2 with ⟨rfl, rfl⟩ | ⟨g0, cap, cur, rfl, hbg, hb, hnc, hcm, hcs, htake⟩
  · obtain ⟨v2, W2, hr2, ho2, _, _⟩ := run_append_own (P := Try.prog) W W.heap.size t ty e i z i.size i.bytes ht hi hz rfl rfl hzs hsz _ 0 xs ⟨by simpa using hown.1, .inl ⟨rfl, rfl⟩⟩ a m c news hl hnews h1 h63 hbytes (Nat.le_refl _)
    rw [hr] at hr2
    cases hr2
    exact .inr (World.ownsRow.lt ho2 g hg).1
  · by_cases hroom : n + m ≤ cap
    · have hfit : n * i.size + news.length ≤ cur.size := by rw [hl, hcs, ← Nat.add_mul]; exact Nat.mul_le_mul_right _ hroom
      have hr2 := run_append_room (P := Try.prog) W t ty e i ht hi g0 n cap cur hb a m c news hl hnews h1 hroom hfit
      rw [hr] at hr2
      cases hr2
      exact .inl hg
    · have hr2 := run_append_grow (P := Try.prog) W t ty e i z ht hi hz ⟨g0, 0, none⟩ n cap xs hown.1 (hown.cells (g := g0) rfl) a m c news hl hnews (by omega) (by omega) (growslice_fits (by omega) hbytes)
      rw [hr] at hr2
      cases hr2
      have : W.heap.size = g := by simpa [Value.ownBlock] using hg
      exact .inr (by omega)
/-- One edge more, appended; and where the row lies then. -/
theorem wpList_append_edgeB {ops : Array Oper} {rest : List Oper} {o : Oper} {a : Act} {W : World} {Q : Exit → Act → World → Prop} (hgd : o.guard = none) (s x : Operand)
    (ho : o.op = .call { callee := .builtin .append, args := #[s, x], argTypes := #[68, 68] })
    {base : Nat} {v : Value} {es : List Ed} {e : Ed} {g : Nat} (hs : a.eval s = v) (hx : a.eval x = .slice (some ⟨g, 0, none⟩) 1 1)
    (hot : EOwn base W v es) (hb : Blk W g 67 (edCells e)) (hn : es.length ≤ 1000) (hbase : base ≤ W.heap.size)
    (h : ∀ v' W', EOwn base W' v' (es ++ [e]) → W.grownBy W' v.ownBlock → (∀ g, v'.ownBlock = some g → v.ownBlock = some g ∨ W.heap.size ≤ g) → wpList Try.prog ops Q rest (a.put o.dst v') W') : wpList Try.prog ops Q (o :: rest) a W := by
  obtain ⟨i0, hi, hz0, hz1, hz2⟩ := info_parts edge_info
  have hnews : ∀ j u, (edCells e).toList[j]? = some u → W.cell? ((⟨g, 0, none⟩ : Addr).add j) = some u := fun j u hu => by rw [addr_plain, Nat.zero_add, hb.cell j, ← hu]; simp
  have hone : ∀ u ∈ (edCells e).toList, u.oneCell' = true := fun u hu => edAll_one [e] u (by simpa [edAll] using hu)
  have hown : W.ownsRow base 67 i0.size v es.length (edAll es) := by rw [hz1]; exact hot
  have hbk := fun {v' : Value} {W' : World} => append_blockG (W := W) (ty := o.type) (t := 68) Try.underlying68 hi hz0 (by rw [hz1]; decide) hown (a := ⟨g, 0, none⟩) (m := 1) (c := 1) (by rw [hz1]; rfl) hnews hone (by rw [hz1]; rfl) (by unfold maxLen; omega) (by rw [hz2]; omega) (v' := v') (W' := W')
  refine wpList_plain hgd fun K hK => ?_
  obtain ⟨v', W', hr, h2, h3, _⟩ := run_append_own (P := Try.prog) W base 68 o.type 67 i0 _ 2 16 Try.underlying68 hi hz0 hz1 hz2 rfl (by decide) v es.length (edAll es) hot ⟨g, 0, none⟩ 1 1 (edCells e).toList rfl hnews hone (by unfold maxLen; omega) (by omega) hbase
  have hbl := hbk hr
  unfold Oper.wp execOp
  simp only [ho, resolve, invoke, builtin, Sem.run_bind, Sem.run_pure, Result.andThen_ok, List.map_toArray, List.map_cons, List.map_nil, hs, hx, hr]
  refine hK _ _ (h v' W' ?_ h3 hbl)
  show World.ownsRow _ _ _ _ _ _ _
  rw [List.length_append, edAll_snoc]; exact h2

/-- Two rows of edges, each in a block of its own. -/
structure E2 (base : Nat) (W : World) (u v : Value) (es fs : List Ed) : Prop where
  o1 : EOwn base W u es
  o2 : EOwn base W v fs
  n : ∀ g, u.ownBlock = some g → v.ownBlock ≠ some g
section
variable {base : Nat} {W W' : World} {u v u' : Value} {es fs es' : List Ed}
theorem E2.start (base : Nat) (W : World) : E2 base W (.slice none 0 0) (.slice none 0 0) [] [] := ⟨EOwn.nil_ _ _, EOwn.nil_ _ _, (fun _ h => by cases h)⟩
theorem E2.kept (h : E2 base W u v es fs) (hg : W.grownBy W' none) : E2 base W' u v es fs := ⟨h.o1.kept0 hg, h.o2.kept0 hg, h.n⟩
end

/-! ### a table made of zeros, and nodes that are stored into it -/
theorem ndAll_set_ {p : Nd × Value} {x : Nd} {e u : Value} {j : Nat} (hj : j < 6) (hset : (ndCells p.1 p.2).toList.set j u = (ndCells x e).toList) : ∀ {ns : List (Nd × Value)} {k : Nat}, ns[k]? = some p → (ndAll ns).set (k * 6 + j) u = ndAll (ns.set k (x, e))
  | [], k, h => by simp at h
  | q :: ns, 0, h => by
    simp only [List.getElem?_cons_zero, Option.some.injEq] at h
    subst h
    simp only [ndAll, List.flatMap_cons, List.set_cons_zero, Nat.zero_mul, Nat.zero_add]
    rw [List.set_append, if_pos (by show j < 6; omega), hset]
  | q :: ns, k + 1, h => by
    have hq : (ndCells q.1 q.2).toList.length = 6 := rfl
    have ih := ndAll_set_ hj hset (ns := ns) (k := k) (by simpa using h)
    simp only [ndAll, List.flatMap_cons, List.set_cons_succ] at ih ⊢
    rw [List.set_append, if_neg (by rw [hq]; omega), hq, show (k + 1) * 6 + j - 6 = k * 6 + j by omega, ih]
section
variable {base : Nat} {W W' : World} {g cap n : Nat} {ns : List (Nd × Value)} {k : Nat} {p : Nd × Value}
/-- A row of edges, where the table's own row is turned. -/
theorem OT.edges_kept {v : Value} {e : Value} {es : List Ed} (h : OT base W v ns) (hE : EdgesO base W e es) (hg : W.grownBy W' v.ownBlock) : EdgesO base W' e es :=
  hE.grown hg (fun g' e' => by
    obtain ⟨hb', cs, hblk⟩ := own_row h.row g' e'
    exact ⟨hb', cs, _, hblk, by decide⟩)
/-- Cell j of node k is written. -/
theorem OT.putc (h : OT base W (.slice (some ⟨g, 0, none⟩) n cap) ns) (hn : ns.length = n) (hk : ns[k]? = some p) (j : Nat) (hj : j < 6) (u : Value) (x : Nd) (e : Value) (hset : (ndCells p.1 p.2).toList.set j u = (ndCells x e).toList) (hE : EdgesO base W e x.next) :
    OT base (W.setCell ⟨g, k * 6 + j, none⟩ u) (.slice (some ⟨g, 0, none⟩) n cap) (ns.set k (x, e)) ∧ W.grownBy (W.setCell ⟨g, k * 6 + j, none⟩ u) (some g) := by
  subst hn
  obtain ⟨hst, hgs⟩ := h.row.stored (k * 6 + j) u
  refine ⟨⟨?_, fun q hq => ?_⟩, hgs⟩
  · rw [List.length_set, ← ndAll_set_ hj hset hk]; exact hst
  · rcases List.mem_or_eq_of_mem_set hq with hq | rfl
    · exact h.edges_kept (h.eds q hq) hgs
    · exact h.edges_kept hE hgs
/-- What a node's cells hold. -/
theorem OT.cells (h : OT base W (.slice (some ⟨g, 0, none⟩) n cap) ns) (hk : ns[k]? = some p) (j : Nat) (hj : j < 6) : ∃ u, (ndCells p.1 p.2).toList[j]? = some u ∧ W.cell? ⟨g, k * 6 + j, none⟩ = some u := by
  have hu : (ndCells p.1 p.2).toList[j]? = some ((ndCells p.1 p.2).toList[j]'hj) := List.getElem?_eq_getElem hj
  refine ⟨_, hu, ?_⟩
  have := h.row.cells (g := g) rfl (k * 6 + j) _ ((ndAll_at hk j hj).trans hu)
  rwa [addr_plain, Nat.zero_add] at this
theorem OT.six (h : OT base W (.slice (some ⟨g, 0, none⟩) n cap) ns) (hn : ns.length = n) (hk : ns[k]? = some p) : (W.cell? ⟨g, k * 6, none⟩ = some (.int .i64 p.1.kind) ∧ W.cell? ⟨g, k * 6 + 1, none⟩ = some (.int .i64 p.1.prio) ∧ W.cell? ⟨g, k * 6 + 2, none⟩ = some (.bool p.1.chan) ∧
    W.cell? ⟨g, k * 6 + 3, none⟩ = some (.int .i64 p.1.pay.1) ∧ W.cell? ⟨g, k * 6 + 4, none⟩ = some (.int .i64 p.1.pay.2) ∧ W.cell? ⟨g, k * 6 + 5, none⟩ = some p.2) ∧
    (W.frozen? ⟨g, k * 6, none⟩ = false ∧ W.frozen? ⟨g, k * 6 + 1, none⟩ = false ∧ W.frozen? ⟨g, k * 6 + 2, none⟩ = false ∧ W.frozen? ⟨g, k * 6 + 3, none⟩ = false ∧ W.frozen? ⟨g, k * 6 + 4, none⟩ = false ∧ W.frozen? ⟨g, k * 6 + 5, none⟩ = false) := by
  have c := fun j hj => h.cells (g := g) hk j hj
  have fz : ∀ j, W.frozen? ⟨g, j, none⟩ = false := fun j => by subst hn; exact h.row.frozenAt j
  refine ⟨⟨?_, ?_, ?_, ?_, ?_, ?_⟩, fz _, fz _, fz _, fz _, fz _, fz _⟩
  · obtain ⟨u, hu, hc⟩ := c 0 (by omega); cases hu; exact hc
  · obtain ⟨u, hu, hc⟩ := c 1 (by omega); cases hu; exact hc
  · obtain ⟨u, hu, hc⟩ := c 2 (by omega); cases hu; exact hc
  · obtain ⟨u, hu, hc⟩ := c 3 (by omega); cases hu; exact hc
  · obtain ⟨u, hu, hc⟩ := c 4 (by omega); cases hu; exact hc
  · obtain ⟨u, hu, hc⟩ := c 5 (by omega); cases hu; exact hc
theorem OT.frozen (h : OT base W (.slice (some ⟨g, 0, none⟩) n cap) ns) (hn : ns.length = n) (j : Nat) : W.frozen? ⟨g, j, none⟩ = false := by subst hn; exact h.row.frozenAt j
end
end Go.Proofs.Ytmhbmeckdbdhpaa

/- Tables that a call makes by append: what is owned, and one node more. -/
import Derived.Test.YtoklaajiajilhaaDoorGTab
import Derived.Laws.AppendOwn
import Derived.Maps.AppendAt
import Derived.RowKit
namespace Go.Proofs.YtoklaajiajilhaaDoor
open Go.RowKit

theorem node_info : (Tryd.prog.info? 39).map (fun i => (i.zero, i.size, i.bytes)) = some (some (.agg #[.int .i64 0, .int .i64 0, .bool false, .int .i64 0, .int .i64 0, .slice none 0 0]), 6, 64) := by kernel_rfl

theorem addr_plain (b o j : Nat) : (⟨b, o, none⟩ : Addr).add j = ⟨b, o + j, none⟩ := by unfold Addr.add; split <;> simp_all
/-- Edges that lie where no row of nodes does: below base, or in a block of edges. -/
def EdgesO (base : Nat) (W : World) (v : Value) (es : List Ed) : Prop := ∃ (A : Option Addr) (c : Nat), v = .slice A es.length c ∧ es.length ≤ 9223372036854775807 ∧
  (es ≠ [] → ∃ b off, A = some ⟨b, off, none⟩ ∧ (b < base ∨ ∃ cs, Blk W b 36 cs) ∧ ∀ i e, es[i]? = some e → W.cell? ⟨b, off + i * 2, none⟩ = some (.int .i64 e.1) ∧ W.cell? ⟨b, off + i * 2 + 1, none⟩ = some (.int .i64 e.2))
section
variable {base : Nat} {W W' : World} {v : Value} {es : List Ed}
theorem EdgesO.edges (h : EdgesO base W v es) : Edges W v es := by
  obtain ⟨A, c, h1, hl, h2⟩ := h
  refine ⟨A, c, h1, hl, fun hn => ?_⟩
  obtain ⟨b, off, h3, _, h4⟩ := h2 hn
  exact ⟨b, off, h3, h4⟩
theorem Edges.old (h : Edges W v es) (hB : W.heap.size ≤ base) : EdgesO base W v es := by
  obtain ⟨A, c, h1, hl, h2⟩ := h
  refine ⟨A, c, h1, hl, fun hn => ?_⟩
  obtain ⟨b, off, h3, h4⟩ := h2 hn
  have h0 : ∃ e, es[0]? = some e := by
    cases es with
    | nil => exact absurd rfl hn
    | cons e _ => exact ⟨e, rfl⟩
  obtain ⟨e, he⟩ := h0
  have : b < W.heap.size := cell_lt (h4 0 e he).1
  exact ⟨b, off, h3, .inl (by omega), h4⟩
theorem EdgesO.grown {row : Option Nat} (h : EdgesO base W v es) (hg : W.grownBy W' row) (hr : ∀ g, row = some g → base ≤ g ∧ ∃ cs t, Blk W g t cs ∧ t ≠ 36) : EdgesO base W' v es := by
  obtain ⟨A, c, h1, hl, h2⟩ := h
  refine ⟨A, c, h1, hl, fun hn => ?_⟩
  obtain ⟨b, off, h3, h5, h4⟩ := h2 hn
  have hne : some b ≠ row := fun e => by
    obtain ⟨hb, cs, t, hblk, ht⟩ := hr b e.symm
    rcases h5 with h5 | ⟨cs', h5⟩
    · omega
    · exact Blk.ne_ hblk h5 ht rfl
  refine ⟨b, off, h3, h5.imp id (fun ⟨cs, hb⟩ => ⟨cs, hb.grown hg hne⟩), fun i e he => ?_⟩
  have hlt := cell_lt (h4 i e he).1
  have hc := fun o => World.cell?_of_block (a := ⟨b, o, none⟩) (hg.block b hlt hne)
  exact ⟨(hc _).trans (h4 i e he).1, (hc _).trans (h4 i e he).2⟩
theorem EdgesO.kept (h : EdgesO base W v es) (hg : W.grownBy W' none) : EdgesO base W' v es := h.grown hg (fun _ e => by cases e)
theorem EdgesO.nil_ : EdgesO base W (.slice none 0 0) [] := ⟨none, 0, rfl, by simp, fun h => absurd rfl h⟩
theorem EdgesO.one {g c : Nat} {e : Ed} (h : Blk W g 36 (edCells e)) : EdgesO base W (.slice (some ⟨g, 0, none⟩) 1 c) [e] :=
  ⟨_, _, rfl, by simp, fun _ => ⟨g, 0, rfl, .inr ⟨_, h⟩, fun i x hx => by
    match i, hx with
    | 0, hx => cases hx; exact ⟨h.cell 0, h.cell 1⟩
    | i + 1, hx => simp at hx⟩⟩
end

/-- The cells of nodes, one behind the other. -/
def ndAll (ns : List (Nd × Value)) : List Value := ns.flatMap fun p => (ndCells p.1 p.2).toList
theorem ndAll_len (ns : List (Nd × Value)) : (ndAll ns).length = ns.length * 6 := by
  induction ns with
  | nil => rfl
  | cons p ns ih => simp only [ndAll, List.flatMap_cons, List.length_append] at ih ⊢; rw [ih]; simp; omega
theorem ndAll_snoc (ns : List (Nd × Value)) (p : Nd × Value) : ndAll (ns ++ [p]) = ndAll ns ++ (ndCells p.1 p.2).toList := by simp [ndAll]
theorem ndAll_at {ns : List (Nd × Value)} {i : Nat} {p : Nd × Value} (h : ns[i]? = some p) (j : Nat) (hj : j < 6) : (ndAll ns)[i * 6 + j]? = (ndCells p.1 p.2).toList[j]? := by
  induction ns generalizing i with
  | nil => simp at h
  | cons q ns ih =>
    have hq : (ndCells q.1 q.2).toList.length = 6 := rfl
    cases i with
    | zero =>
      simp only [List.getElem?_cons_zero, Option.some.injEq] at h
      subst h
      simp only [ndAll, List.flatMap_cons]
      rw [List.getElem?_append_left (by rw [hq]; omega), Nat.zero_mul, Nat.zero_add]
    | succ i =>
      rw [List.getElem?_cons_succ] at h
      simp only [ndAll, List.flatMap_cons]
      rw [List.getElem?_append_right (by rw [hq]; omega), hq, show (i + 1) * 6 + j - 6 = i * 6 + j by omega]
      exact ih h

/-- A table that is owned. -/
structure OT (base : Nat) (W : World) (v : Value) (ns : List (Nd × Value)) : Prop where
  row : W.ownsRow base 39 6 v ns.length (ndAll ns)
  eds : ∀ p ∈ ns, EdgesO base W p.2 p.1.next
section
variable {base : Nat} {W W' : World} {v : Value} {ns : List (Nd × Value)}
theorem OT.start (base : Nat) (W : World) : OT base W (.slice none 0 0) [] := ⟨World.ownsRow_nil _ _ _ _, fun p hp => by cases hp⟩
theorem OT.kept (h : OT base W v ns) (hg : W.grownBy W' none) : OT base W' v ns := by
  refine ⟨h.row.kept hg ?_, fun p hp => (h.eds p hp).kept hg⟩
  cases hb : v.ownBlock with
  | none => exact .inl rfl
  | some g => exact .inr (fun e => by cases e)
theorem own_row {n : Nat} {xs : List Value} {t : TypeId} {size : Nat} (h : W.ownsRow base t size v n xs) : ∀ g, v.ownBlock = some g → base ≤ g ∧ ∃ cs, Blk W g t cs := fun g hg => by
  rcases h.2 with ⟨rfl, _⟩ | ⟨g', cap, cur, rfl, hb, hh, _⟩
  · simp [Value.ownBlock] at hg
  · have : g' = g := by simpa [Value.ownBlock] using hg
    subst this
    exact ⟨hb, cur, hh⟩
theorem OT.tbl (h : OT base W v ns) : Tbl W v (ns.map (·.1)) := by
  rcases h.row.2 with ⟨rfl, he⟩ | ⟨g, cap, cur, rfl, hb, hh, _⟩
  · have h0 : ns = [] := by
      have := ndAll_len ns
      rw [he] at this
      exact List.eq_nil_of_length_eq_zero (by simp at this; omega)
    subst h0
    exact Tbl.nil_ W
  · refine ⟨_, cap, by simp, fun _ => ⟨g, 0, rfl, fun i x hx => ?_⟩⟩
    rw [List.getElem?_map] at hx
    obtain ⟨p, hp, rfl⟩ := Option.map_eq_some_iff.1 hx
    have hc := h.row.cells (g := g) rfl
    have e : ∀ j, ((⟨g, 0, none⟩ : Addr).add j) = ⟨g, j, none⟩ := fun j => by rw [addr_plain, Nat.zero_add]
    have at_ : ∀ j u, j < 6 → (ndCells p.1 p.2).toList[j]? = some u → W.cell? ⟨g, i * 6 + j, none⟩ = some u := fun j u hj hu => by
      have := hc (i * 6 + j) u ((ndAll_at hp j hj).trans hu)
      rwa [e] at this
    refine ⟨p.2, (h.eds p (List.mem_of_getElem? hp)).edges, ?_⟩
    rw [Nat.zero_add]
    exact ⟨at_ 0 _ (by omega) rfl, at_ 1 _ (by omega) rfl, at_ 2 _ (by omega) rfl, at_ 3 _ (by omega) rfl, at_ 4 _ (by omega) rfl, at_ 5 _ (by omega) rfl⟩
theorem OT.len (h : OT base W v ns) : ∃ A c, v = .slice A ns.length c := by
  rcases h.row.2 with ⟨rfl, he⟩ | ⟨g, cap, cur, rfl, _⟩
  · have h0 : ns = [] := by
      have := ndAll_len ns
      rw [he] at this
      exact List.eq_nil_of_length_eq_zero (by simp at this; omega)
    subst h0
    exact ⟨none, 0, rfl⟩
  · exact ⟨_, _, rfl⟩
end

/-- One node more, appended. -/
theorem wpList_append_node {ops : Array Oper} {rest : List Oper} {o : Oper} {a : Act} {W : World} {Q : Exit → Act → World → Prop} (hgd : o.guard = none) (s x : Operand)
    (ho : o.op = .call { callee := .builtin .append, args := #[s, x], argTypes := #[22, 22] })
    {base : Nat} {v : Value} {ns : List (Nd × Value)} {nd : Nd} {e : Value} {g : Nat} (hs : a.eval s = v) (hx : a.eval x = .slice (some ⟨g, 0, none⟩) 1 1)
    (hot : OT base W v ns) (hb : Blk W g 39 (ndCells nd e)) (hE : EdgesO base W e nd.next) (hn : ns.length ≤ 1000) (hbase : base ≤ W.heap.size)
    (h : ∀ v' W', OT base W' v' (ns ++ [(nd, e)]) → W.grownBy W' v.ownBlock → wpList Tryd.prog ops Q rest (a.put o.dst v') W') : wpList Tryd.prog ops Q (o :: rest) a W := by
  obtain ⟨i0, hi, hz0, hz1, hz2⟩ := info_parts node_info
  have hE2 := hE
  obtain ⟨A2, c2, he, _⟩ := hE2
  refine wpList_append_own W hgd s x 22 ho base 39 i0 _ 6 64 Tryd.underlying22 hi hz0 hz1 hz2 rfl (by decide) v ns.length (ndAll ns) hs hot.row
    ⟨g, 0, none⟩ 1 1 (ndCells nd e).toList hx rfl (fun j u hu => ?_) (fun u hu => ?_) (by unfold maxLen; omega) (by omega) hbase (fun v' W' hr hg _ => h v' W' ⟨?_, ?_⟩ hg)
  · rw [addr_plain, Nat.zero_add, hb.cell j, ← hu]; simp
  · rw [he] at hu
    simp only [List.mem_cons, List.not_mem_nil, or_false] at hu
    rcases hu with rfl | rfl | rfl | rfl | rfl | rfl <;> rfl
  · rw [List.length_append, ndAll_snoc]; exact hr
  · intro p hp
    rcases List.mem_append.1 hp with hp | hp
    · refine (hot.eds p hp).grown hg (fun g' e' => ?_)
      obtain ⟨hb', cs, hblk⟩ := own_row hot.row g' e'
      exact ⟨hb', cs, _, hblk, by decide⟩
    · obtain rfl := List.mem_singleton.1 hp
      refine hE.grown hg (fun g' e' => ?_)
      obtain ⟨hb', cs, hblk⟩ := own_row hot.row g' e'
      exact ⟨hb', cs, _, hblk, by decide⟩
theorem grown_own {w W W' : World} {v : Value} (h : w.grownBy W none) (hr : ∀ g, v.ownBlock = some g → w.heap.size ≤ g) (hg : W.grownBy W' v.ownBlock) : w.grownBy W' none := by
  cases hb : v.ownBlock with
  | none => rw [hb] at hg; exact only_trans h hg
  | some g => rw [hb] at hg; exact only_new h hg (hr g hb)
end Go.Proofs.YtoklaajiajilhaaDoor

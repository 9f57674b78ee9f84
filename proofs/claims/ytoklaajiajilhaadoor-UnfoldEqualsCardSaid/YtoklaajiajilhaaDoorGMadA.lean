/- Tables as the statements make them: what a node of them is like; and an edge, a node, appended to what is owned. -/
import Derived.Test.YtoklaajiajilhaaDoorGOm
import Derived.Deep.RegionLaw
namespace Go.Proofs.YtoklaajiajilhaaDoor
open Go.RowKit

/-- As it may be, with no more than eight edges. -/
def Good (n : Nat) (x : Nd) : Prop := illN n x = 0 ∧ x.next.length ≤ 8
theorem good_of {n : Nat} {x : Nd} (h : headB x = true) (hs : ∀ e ∈ edgesL x, 0 ≤ e.2 ∧ e.2 ≤ 1000) (hi : ∀ e ∈ edgesL x, 0 ≤ e.1 ∧ e.1 < n) (hl : x.next.length ≤ 8) : Good n x := by
  refine ⟨?_, hl⟩
  have h1 : shapeB x = true := by
    unfold shapeB
    rw [h, Bool.true_and, List.all_eq_true]
    intro e he
    simpa [shiftB, withinB] using hs e he
  have h2 : (edgesL x).all (inB n) = true := by
    rw [List.all_eq_true]
    intro e he
    exact nodeB_true.2 (hi e he)
  simp only [illN, h1, h2, if_true]
def edOk (n : Nat) (e : Ed) : Prop := 0 ≤ e.1 ∧ e.1 < n ∧ 0 ≤ e.2 ∧ e.2 ≤ 1000
theorem good_end (n : Nat) : Good n ⟨0, 0, false, (0, 0), []⟩ := good_of rfl (by simp [edgesL]) (by simp [edgesL]) (by simp)
theorem good_alias {n : Nat} {e : Ed} (h : edOk n e) : Good n ⟨5, 0, false, (0, 0), [e]⟩ :=
  good_of rfl (by simp [edgesL]; exact h.2.2) (by simp [edgesL]; exact ⟨h.1, h.2.1⟩) (by simp)
theorem good_word {n : Nat} {k p : Int} {e : Ed} (hk : k = 1 ∨ k = 2) (hp : 0 ≤ p) (hp2 : p ≤ 255) (h : edOk n e) : Good n ⟨k, p, false, (0, 0), [e]⟩ :=
  good_of (by rcases hk with rfl | rfl <;> simp [headB, kindB, withinB, leastN, mostN, mostP, payB] <;> omega) (by simp [edgesL]; exact h.2.2) (by simp [edgesL]; exact ⟨h.1, h.2.1⟩) (by simp)
theorem good_chan {n : Nat} {k p : Int} {e q : Ed} (hk : k = 1 ∨ k = 2) (hp : 0 ≤ p) (hp2 : p ≤ 255) (h : edOk n e) (hq : edOk n q) : Good n ⟨k, p, true, q, [e]⟩ :=
  good_of (by rcases hk with rfl | rfl <;> simp [headB, kindB, withinB, leastN, mostN, mostP, payB, paysB] <;> omega) (by simp [edgesL]; exact ⟨hq.2.2, h.2.2⟩) (by simp [edgesL]; exact ⟨⟨hq.1, hq.2.1⟩, ⟨h.1, h.2.1⟩⟩) (by simp)
theorem good_fan {n : Nat} {k : Int} {es : List Ed} (hk : k = 3 ∨ k = 4) (h0 : 1 ≤ es.length) (h8 : es.length ≤ 8) (h : ∀ e ∈ es, edOk n e) : Good n ⟨k, 0, false, (0, 0), es⟩ :=
  good_of (by rcases hk with rfl | rfl <;> simp [headB, kindB, withinB, leastN, mostN, mostP, payB] <;> omega) (fun e he => (h e (by simpa [edgesL] using he)).2.2) (fun e he => ⟨(h e (by simpa [edgesL] using he)).1, (h e (by simpa [edgesL] using he)).2.1⟩) h8

theorem EOwn.base_ {base base' : Nat} {W : World} {v : Value} {es : List Ed} (h : EOwn base W v es) (hb : base' ≤ base) : EOwn base' W v es :=
  ⟨h.1, h.2.imp id (fun ⟨g, cap, cur, h1, h2, h3⟩ => ⟨g, cap, cur, h1, Nat.le_trans hb h2, h3⟩)⟩
theorem edAll_one (es : List Ed) : ∀ u ∈ edAll es, u.oneCell' = true := by
  intro u hu
  simp only [edAll, List.mem_flatMap] at hu
  obtain ⟨e, _, hu⟩ := hu
  simp only [List.mem_cons, List.not_mem_nil, or_false] at hu
  rcases hu with rfl | rfl <;> rfl
/-- One edge more, appended, in a region that draws. -/
theorem step_append_edge {ops : Array Oper} {o : Oper} {a : Act} {W : World} {K : Act → World → Prop} {Q : Exit → Act → World → Prop} {E : Prop} (hgd : o.guard = none) (s x : Operand)
    (ho : o.op = .call { callee := .builtin .append, args := #[s, x], argTypes := #[37, 37] })
    {base : Nat} {v : Value} {es : List Ed} {e : Ed} {g : Nat} (hs : a.eval s = v) (hx : a.eval x = .slice (some ⟨g, 0, none⟩) 1 1)
    (hot : EOwn base W v es) (hb : Blk W g 36 (edCells e)) (hn : es.length ≤ 1000) (hbase : base ≤ W.heap.size)
    (h : ∀ v' W', EOwn base W' v' (es ++ [e]) → W.grownBy W' v.ownBlock → K (a.put o.dst v') W') : if Region.wanted o (yielded ops a.tmps) = true then Oper.wp Tryd.prog o a W K Q else E := by
  have hw : Region.wanted o (yielded ops a.tmps) = true := by simp [Region.wanted, hgd]
  rw [if_pos hw]
  obtain ⟨i0, hi, hz0, hz1, hz2⟩ := info_parts edge_info
  refine wp_append_own W s x 37 ho base 36 i0 _ 2 16 Tryd.underlying37 hi hz0 hz1 hz2 rfl (by decide) v es.length (edAll es) hs hot
    ⟨g, 0, none⟩ 1 1 (edCells e).toList hx rfl (fun j u hu => ?_) (fun u hu => ?_) (by unfold maxLen; omega) (by omega) hbase (fun v' W' hr hg _ => h v' W' ?_ hg)
  · rw [addr_plain, Nat.zero_add, hb.cell j, ← hu]; simp
  · exact edAll_one [e] u (by simpa [edAll] using hu)
  · show World.ownsRow _ _ _ _ _ _ _
    rw [List.length_append, edAll_snoc]; exact hr
theorem EOwn.ne_node {base base' : Nat} {W : World} {v u : Value} {es : List Ed} {n : Nat} {xs : List Value} (h : EOwn base W v es) (hr : W.ownsRow base' 39 6 u n xs) : ∀ g, u.ownBlock = some g → v.ownBlock ≠ some g := fun g hg e => by
  obtain ⟨_, cs, hb⟩ := own_row hr g hg
  obtain ⟨_, cs', hb'⟩ := own_row h g e
  exact Blk.ne_ hb hb' (by decide) rfl
/-- One node more, appended: its edges in a row of their own. -/
theorem wpList_append_nodeM {ops : Array Oper} {rest : List Oper} {o : Oper} {a : Act} {W : World} {Q : Exit → Act → World → Prop} (hgd : o.guard = none) (s x : Operand)
    (ho : o.op = .call { callee := .builtin .append, args := #[s, x], argTypes := #[22, 22] })
    {base : Nat} {v : Value} {ns : List (Nd × Value)} {nd : Nd} {e : Value} {g : Nat} (hs : a.eval s = v) (hx : a.eval x = .slice (some ⟨g, 0, none⟩) 1 1)
    (hot : OM base W v ns) (hb : Blk W g 39 (ndCells nd e)) (hE : EOwn base W e nd.next) (hl : nd.next.length ≤ 1000) (hap : ∀ p ∈ ns, ∀ g, p.2.ownBlock = some g → e.ownBlock ≠ some g) (hn : ns.length ≤ 1000) (hbase : base ≤ W.heap.size)
    (h : ∀ v' W', OM base W' v' (ns ++ [(nd, e)]) → W.grownBy W' v.ownBlock → wpList Tryd.prog ops Q rest (a.put o.dst v') W') : wpList Tryd.prog ops Q (o :: rest) a W := by
  refine wpList_append_node hgd s x ho hs hx hot.ot hb (hE.edges hl) hn hbase (fun v' W' ho hg => h v' W' ⟨ho.row, ?_, ?_⟩ hg)
  · intro p hp
    rcases List.mem_append.1 hp with hp | hp
    · exact ⟨(hot.eds p hp).1.kept hg (fun g e e' => (hot.eds p hp).1.ne_node hot.row g e' e), (hot.eds p hp).2⟩
    · obtain rfl := List.mem_singleton.1 hp
      exact ⟨hE.kept hg (fun g e e' => hE.ne_node hot.row g e' e), hl⟩
  · rw [List.pairwise_append]
    exact ⟨hot.apart, List.pairwise_singleton _ _, fun p hp q hq => by obtain rfl := List.mem_singleton.1 hq; exact hap p hp⟩
end Go.Proofs.YtoklaajiajilhaaDoor

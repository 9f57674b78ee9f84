/- append of several nodes at once onto a table that is owned. No walk. -/
import Derived.Test.YtoklaajiajilhaaDoorDOwn
namespace Go.Proofs.YtoklaajiajilhaaDoor
open Go.RowKit

theorem ndAll_app (ns ms : List (Nd × Value)) : ndAll (ns ++ ms) = ndAll ns ++ ndAll ms := by simp [ndAll]
/-- An empty row that is none of nil is owned. -/
theorem OT.empty {W : World} {g : Nat} (hg : Blk W g 39 #[]) : OT g W (.slice (some ⟨g, 0, none⟩) 0 0) [] :=
  ⟨⟨by simp [ndAll], .inr ⟨g, 0, #[], rfl, Nat.le_refl _, hg, Nat.le_refl _, by unfold maxLen; omega, rfl, rfl⟩⟩, fun p hp => by cases hp⟩
/-- Where an owned table that is not empty lies. -/
theorem OT.shape {base : Nat} {W : World} {v : Value} {ns : List (Nd × Value)} (h : OT base W v ns) (hn : 0 < ns.length) : ∃ q cap cur, v = .slice (some ⟨q, 0, none⟩) ns.length cap ∧ base ≤ q ∧ Blk W q 39 cur := by
  rcases h.row.2 with ⟨rfl, he⟩ | ⟨q, cap, cur, rfl, hb, hh, _⟩
  · have := ndAll_len ns
    rw [he] at this
    simp at this
    omega
  · exact ⟨q, cap, cur, rfl, hb, hh⟩
theorem wpList_append_nodes {ops : Array Oper} {rest : List Oper} {o : Oper} {a : Act} {W : World} {Q : Exit → Act → World → Prop} (hgd : o.guard = none) (s x : Operand)
    (ho : o.op = .call { callee := .builtin .append, args := #[s, x], argTypes := #[22, 22] })
    {base : Nat} {v : Value} {ns ms : List (Nd × Value)} {R n c : Nat} (hs : a.eval s = v) (hx : a.eval x = .slice (some ⟨R, 0, none⟩) n c) (hn : ms.length = n)
    (hot : OT base W v ns) (hb : Blk W R 39 (ndAll ms).toArray) (hE : ∀ p ∈ ms, EdgesO base W p.2 p.1.next) (hl : ns.length + ms.length ≤ 1000) (hbase : base ≤ W.heap.size)
    (h : ∀ v' W', OT base W' v' (ns ++ ms) → W.grownBy W' v.ownBlock → wpList Tryd.prog ops Q rest (a.put o.dst v') W') : wpList Tryd.prog ops Q (o :: rest) a W := by
  subst hn
  obtain ⟨i0, hi, hz0, hz1, hz2⟩ := info_parts node_info
  refine wpList_append_own W hgd s x 22 ho base 39 i0 _ 6 64 Tryd.underlying22 hi hz0 hz1 hz2 rfl (by decide) v ns.length (ndAll ns) hs hot.row
    ⟨R, 0, none⟩ ms.length c (ndAll ms) hx (ndAll_len ms) (fun j u hu => ?_) (fun u hu => ?_) (by unfold maxLen; omega) (by omega) hbase (fun v' W' hr hg _ => h v' W' ⟨?_, ?_⟩ hg)
  · rw [addr_plain, Nat.zero_add, hb.cell j, ← hu]; simp
  · obtain ⟨p, hp, hu⟩ := List.mem_flatMap.1 hu
    obtain ⟨A2, c2, he, _⟩ := hE p hp
    rw [he] at hu
    simp only [List.mem_cons, List.not_mem_nil, or_false] at hu
    rcases hu with rfl | rfl | rfl | rfl | rfl | rfl <;> rfl
  · rw [List.length_append, ndAll_app]; exact hr
  · intro p hp
    have own : ∀ g', v.ownBlock = some g' → base ≤ g' ∧ ∃ cs t, Blk W g' t cs ∧ t ≠ 36 := fun g' e' => by
      obtain ⟨hb', cs, hblk⟩ := own_row hot.row g' e'
      exact ⟨hb', cs, _, hblk, by decide⟩
    rcases List.mem_append.1 hp with hp | hp
    · exact (hot.eds p hp).grown hg own
    · exact (hE p hp).grown hg own
end Go.Proofs.YtoklaajiajilhaaDoor

/- A node of an owned table that is turned, a cell at a time; and what Check says of a table of which one node is not as it may be. -/
import Derived.Test.YthjkgjkiikomdaaGNine
import Derived.Test.YthjkgjkiikomdaaGChk
namespace Go.Proofs.Ythjkgjkiikomdaa
open Go.RowKit

theorem ndAll_set {p : Nd × Value} {x : Nd} {e u : Value} {j : Nat} (hj : j < 6) (hset : (ndCells p.1 p.2).toList.set j u = (ndCells x e).toList) : ∀ {ns : List (Nd × Value)} {k : Nat}, ns[k]? = some p → (ndAll ns).set (k * 6 + j) u = ndAll (ns.set k (x, e))
  | [], k, h => by simp at h
  | q :: ns, 0, h => by
    simp only [List.getElem?_cons_zero, Option.some.injEq] at h
    subst h
    simp only [ndAll, List.flatMap_cons, List.set_cons_zero, Nat.zero_mul, Nat.zero_add]
    rw [List.set_append, if_pos (by show j < 6; omega), hset]
  | q :: ns, k + 1, h => by
    have hq : (ndCells q.1 q.2).toList.length = 6 := rfl
    have ih := ndAll_set hj hset (ns := ns) (k := k) (by simpa using h)
    simp only [ndAll, List.flatMap_cons, List.set_cons_succ] at ih ⊢
    rw [List.set_append, if_neg (by rw [hq]; omega), hq, show (k + 1) * 6 + j - 6 = k * 6 + j by omega, ih]

section
variable {base : Nat} {W W1 : World} {g cap : Nat} {ns : List (Nd × Value)} {k : Nat} {p : Nd × Value}
/-- Cell j of node k is written; its edges' row may have been turned ahead of that. -/
theorem OM.put_ (h : OM base W (.slice (some ⟨g, 0, none⟩) ns.length cap) ns) (hk : ns[k]? = some p) (hg : W.grownBy W1 p.2.ownBlock) (j : Nat) (hj : j < 6) (u : Value) (x : Nd) (e : Value) (hset : (ndCells p.1 p.2).toList.set j u = (ndCells x e).toList)
    (hE : EOwn base W1 e x.next) (hl : x.next.length ≤ 1000) (hap : ∀ i q, i ≠ k → ns[i]? = some q → ∀ b, q.2.ownBlock = some b → e.ownBlock ≠ some b) :
    OM base (W1.setCell ⟨g, k * 6 + j, none⟩ u) (.slice (some ⟨g, 0, none⟩) (ns.set k (x, e)).length cap) (ns.set k (x, e)) := by
  have hp := (h.eds p (List.mem_of_getElem? hk)).1
  have hlk : k < ns.length := (List.getElem?_eq_some_iff.1 hk).1
  have hrow1 : W1.ownsRow base 35 6 (.slice (some ⟨g, 0, none⟩) ns.length cap) ns.length (ndAll ns) := by
    refine h.row.kept hg (.inr fun e' => ?_)
    exact hp.ne_node h.row g rfl (e'.symm.trans rfl)
  obtain ⟨hst, hgs⟩ := hrow1.stored (k * 6 + j) u
  have other : ∀ i q, i ≠ k → ns[i]? = some q → q.2.ownBlock = none ∨ q.2.ownBlock ≠ p.2.ownBlock := fun i q hi hq => by
    cases hb : q.2.ownBlock with
    | none => exact .inl rfl
    | some b =>
      refine .inr fun e' => ?_
      have hpw := List.pairwise_iff_getElem.1 h.apart
      obtain ⟨hil, hqe⟩ := List.getElem?_eq_some_iff.1 hq
      obtain ⟨_, hpe⟩ := List.getElem?_eq_some_iff.1 hk
      rcases Nat.lt_or_gt_of_ne hi with hlt | hlt
      · have := hpw i k hil hlk hlt b (by rw [hqe]; exact hb)
        rw [hpe] at this
        exact this e'.symm
      · have := hpw k i hlk hil hlt b (by rw [hpe]; exact e'.symm)
        rw [hqe] at this
        exact this hb
  have hrow2 : (W1.setCell ⟨g, k * 6 + j, none⟩ u).ownsRow base 35 6 (.slice (some ⟨g, 0, none⟩) (ns.set k (x, e)).length cap) (ns.set k (x, e)).length (ndAll (ns.set k (x, e))) := by
    rw [List.length_set, ← ndAll_set hj hset hk]
    exact hst
  refine ⟨hrow2, fun q hq => ?_, ?_⟩
  · obtain ⟨i, hi⟩ := List.mem_iff_getElem?.1 hq
    rw [List.getElem?_set] at hi
    by_cases hik : k = i
    · subst hik
      rw [if_pos rfl, if_pos hlk] at hi
      simp only [Option.some.injEq] at hi
      subst hi
      exact ⟨hE.kept hgs (fun b e1 e2 => hE.ne_node hrow1 b e2 e1), hl⟩
    · rw [if_neg hik] at hi
      have hq' := h.eds q (List.mem_of_getElem? hi)
      have hq1 : EOwn base W1 q.2 q.1.next := World.ownsRow.kept hq'.1 hg (other i q (fun e => hik e.symm) hi)
      exact ⟨hq1.kept hgs (fun b e1 e2 => hq1.ne_node hrow1 b e2 e1), hq'.2⟩
  · rw [List.pairwise_iff_getElem]
    intro i i' hi hi' hlt b hb hb'
    rw [List.length_set] at hi hi'
    rw [List.getElem_set] at hb hb'
    by_cases e1 : k = i
    · rw [if_pos e1] at hb
      rw [if_neg (by omega)] at hb'
      exact hap i' ns[i'] (by omega) (List.getElem?_eq_getElem hi') b hb' hb
    · rw [if_neg e1] at hb
      by_cases e2 : k = i'
      · rw [if_pos e2] at hb'
        exact hap i ns[i] (fun e => e1 e.symm) (List.getElem?_eq_getElem hi) b hb hb'
      · rw [if_neg e2] at hb'
        exact List.pairwise_iff_getElem.1 h.apart i i' hi hi' hlt b hb hb'
/-- .. and its edges are the same. -/
theorem OM.put (h : OM base W (.slice (some ⟨g, 0, none⟩) ns.length cap) ns) (hk : ns[k]? = some p) (j : Nat) (hj : j < 6) (u : Value) (x : Nd) (hset : (ndCells p.1 p.2).toList.set j u = (ndCells x p.2).toList) (hx : x.next = p.1.next) :
    OM base (W.setCell ⟨g, k * 6 + j, none⟩ u) (.slice (some ⟨g, 0, none⟩) (ns.set k (x, p.2)).length cap) (ns.set k (x, p.2)) := by
  have hp := h.eds p (List.mem_of_getElem? hk)
  have hlk : k < ns.length := (List.getElem?_eq_some_iff.1 hk).1
  refine h.put_ hk (only_refl _ _) j hj u x p.2 hset (by rw [hx]; exact hp.1) (by rw [hx]; exact hp.2) (fun i q hi hq b hb hb' => ?_)
  have hpw := List.pairwise_iff_getElem.1 h.apart
  obtain ⟨hil, hqe⟩ := List.getElem?_eq_some_iff.1 hq
  obtain ⟨_, hpe⟩ := List.getElem?_eq_some_iff.1 hk
  rcases Nat.lt_or_gt_of_ne hi with hlt | hlt
  · exact hpw i k hil hlk hlt b (by rw [hqe]; exact hb) (by rw [hpe]; exact hb')
  · exact hpw k i hlk hil hlt b (by rw [hpe]; exact hb') (by rw [hqe]; exact hb)
/-- Its edges are told anew: a row of the call's own, younger than all others; or none. -/
theorem OM.put5 (h : OM base W (.slice (some ⟨g, 0, none⟩) ns.length cap) ns) (hk : ns[k]? = some p) (hg : W.grownBy W1 p.2.ownBlock) (e : Value) (es : List Ed) (hE : EOwn base W1 e es) (hl : es.length ≤ 1000) (hb : ∀ b, e.ownBlock = some b → p.2.ownBlock = some b ∨ W.heap.size ≤ b) :
    OM base (W1.setCell ⟨g, k * 6 + 5, none⟩ e) (.slice (some ⟨g, 0, none⟩) (ns.set k ({ p.1 with next := es }, e)).length cap) (ns.set k ({ p.1 with next := es }, e)) := by
  have hlk : k < ns.length := (List.getElem?_eq_some_iff.1 hk).1
  refine h.put_ hk hg 5 (by omega) e _ e rfl hE hl (fun i q hi hq b hqb heb => ?_)
  obtain ⟨hil, hqe⟩ := List.getElem?_eq_some_iff.1 hq
  obtain ⟨_, hpe⟩ := List.getElem?_eq_some_iff.1 hk
  rcases hb b heb with hpb | hlt
  · have hpw := List.pairwise_iff_getElem.1 h.apart
    rcases Nat.lt_or_gt_of_ne hi with hlt | hlt
    · exact hpw i k hil hlk hlt b (by rw [hqe]; exact hqb) (by rw [hpe]; exact hpb)
    · exact hpw k i hlk hil hlt b (by rw [hpe]; exact hpb) (by rw [hqe]; exact hqb)
  · have := (World.ownsRow.lt (h.eds q (List.mem_of_getElem? hq)).1 b hqb).2
    omega
end

/-- What Check says of a table of which node k alone is not as it may be. -/
theorem check_spoilt {xs : List Nd} {k : Nat} {x y : Nd} (h : ∀ z ∈ xs, Good xs.length z) (h64 : xs.length ≤ 64) (hx : xs[k]? = some x) (hy : illN xs.length y ≠ 0) : checkL (xs.set k y) = ((k : Int), illN xs.length y) := by
  have hlk : k < xs.length := (List.getElem?_eq_some_iff.1 hx).1
  have hl : (xs.set k y).length = xs.length := List.length_set
  have hf : firstIll (xs.set k y).length (xs.set k y) 0 = ((k : Int), illN xs.length y) := by
    rw [hl]
    refine firstIll_here (x := y) (by rw [List.getElem?_set, if_pos rfl, if_pos hlk]) (fun j z hj hz => ?_) hy
    rw [List.getElem?_set, if_neg (by omega)] at hz
    exact (h z (List.mem_of_getElem? hz)).1
  rw [check_2 (by rw [hl]; omega) (by rw [hl]; exact h64) (by rw [hf]; exact hy), hf]
theorem ill_head {n : Nat} {x : Nd} (h : headB x = false) : illN n x = 7 := by simp only [illN, shape_head h]; rfl
theorem most_le (k : Int) : mostN k ≤ 8 := by unfold mostN; repeat' split
                                              all_goals omega
theorem mostP_le (k : Int) : mostP k ≤ 1000 := by unfold mostP; split <;> omega
theorem ill_kind {n : Nat} {x : Nd} (h : x.kind < 0 ∨ 5 < x.kind) : illN n x = 7 := ill_head (head_1 (by
  simp only [kindB, withinB, Bool.and_eq_false_iff, decide_eq_false_iff_not]; omega))
theorem ill_prio {n : Nat} {x : Nd} (h : x.prio < 0 ∨ 1000 < x.prio) : illN n x = 7 := ill_head (head_3 (by
  have := mostP_le x.kind
  simp only [withinB, Bool.and_eq_false_iff, decide_eq_false_iff_not]; omega))
theorem ill_many {n : Nat} {x : Nd} (h : 9 ≤ x.next.length) : illN n x = 7 := ill_head (head_2 (by
  have := most_le x.kind
  simp only [withinB, Bool.and_eq_false_iff, decide_eq_false_iff_not]; omega))
theorem ill_pay {n : Nat} {x : Nd} (hc : x.chan = false) (h : x.pay.2 ≠ 0) : illN n x = 7 := ill_head (head_4 (by
  simp only [payB, hc, Bool.false_eq_true, if_false, decide_eq_false_iff_not]
  intro e
  rw [e] at h
  exact h rfl))
theorem ill_none {n : Nat} {x : Nd} (hk : x.kind = 3) (h : x.next = []) : illN n x = 7 := ill_head (head_2 (by simp [withinB, hk, h, leastN]))
theorem ill_chan {n : Nat} {x : Nd} (hk : x.kind = 4) (hc : x.chan = true) : illN n x = 7 := ill_head (head_4 (by simp [payB, hc, hk, paysB]))
theorem ill_edge_out (n : Nat) : illN n ⟨2, 0, false, (0, 0), [((n : Int), 0)]⟩ = 8 := by
  have h1 : shapeB ⟨2, 0, false, (0, 0), [((n : Int), 0)]⟩ = true := by simp [shapeB, headB, kindB, withinB, leastN, mostN, mostP, payB, edgesL, shiftB]
  have h2 : (edgesL ⟨2, 0, false, (0, 0), [((n : Int), 0)]⟩).all (inB n) = false := by
    simp [edgesL, inB, nodeB, withinB]
    omega
  simp only [illN, h1, h2]; rfl
end Go.Proofs.Ythjkgjkiikomdaa

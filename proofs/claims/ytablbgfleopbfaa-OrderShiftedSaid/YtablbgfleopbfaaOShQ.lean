/- OrderShifted's steeper table. No program. -/
import Derived.Test.YtablbgfleopbfaaOShP
namespace Go.Proofs.Ytablbgfleopbfaa
open Go.RowKit

section
variable {xs : List Nd}
theorem pick_rel (hg : ∀ x ∈ xs, Good xs.length x) : ∀ (f : Nat) (t t' : Ed), t.1 = t'.1 → 0 ≤ t.2 → t.2 ≤ t'.2 → t'.2 + 1000 * f ≤ 1000000000 →
    (pickL (xs.map steepN) (wayL (xs.map steepN) f t')).1 = (pickL xs (wayL xs f t)).1 ∧ (pickL xs (wayL xs f t)).2 ≤ (pickL (xs.map steepN) (wayL (xs.map steepN) f t')).2
  | 0, _, _, _, _, _, _ => ⟨rfl, Int.le_refl _⟩
  | f + 1, t, t', h, h0, h1, h2 => by
    cases hn : nodeAt xs t.1 with
    | none => rw [wayL_none hn, wayL_none (by rw [← h, nodeAt_map, hn]; rfl)]; exact ⟨rfl, Int.le_refl _⟩
    | some x =>
      have hn' : nodeAt (xs.map steepN) t'.1 = some (steepN x) := by rw [← h, nodeAt_map, hn]; rfl
      by_cases hk : x.kind = 5
      · obtain ⟨e, hx, ho, hok⟩ := good_one (hg x (List.mem_of_getElem? (nodeAt_some hn).2.2)) hk
        have ho' : onlyNext (steepN x) = some (steepE e) := by
          unfold onlyNext steepN
          simp only [hk, if_true, hx, List.map_cons, List.map_nil]
        have a : isAl xs t = true := by unfold isAl; rw [hn]; simpa using hk
        have a' : isAl (xs.map steepN) t' = true := by unfold isAl; rw [hn']; exact decide_eq_true (p := (steepN x).kind = 5) hk
        rw [wayL_next hn ho, wayL_next hn' ho']
        simp only [pickL, a, a', if_true]
        obtain ⟨_, _, hs0, hs1⟩ := hok
        have hge := steepE_ge e
        have hle := steepE_le hs1
        have hw : (stepT t e).2 = t.2 + e.2 := by
          show wrap64 (t.2 + e.2) = _
          exact wrap_in (by omega) (by omega)
        have hw' : (stepT t' (steepE e)).2 = t'.2 + (steepE e).2 := by
          show wrap64 (t'.2 + (steepE e).2) = _
          exact wrap_in (by omega) (by omega)
        exact pick_rel hg f _ _ (steepE_to e).symm (by rw [hw]; omega) (by rw [hw, hw']; omega) (by rw [hw']; omega)
      · have a : isAl xs t = false := by unfold isAl; rw [hn]; simpa using hk
        have a' : isAl (xs.map steepN) t' = false := by unfold isAl; rw [hn']; exact decide_eq_false (p := (steepN x).kind = 5) hk
        obtain ⟨r, hr⟩ := wayL_head (f := f) hn
        obtain ⟨r', hr'⟩ := wayL_head (f := f) hn'
        rw [hr, hr']
        simp only [pickL, a, a', Bool.false_eq_true, if_false]
        exact ⟨h.symm, h1⟩
theorem resolve_rel (ho : OKT xs) {t t' : Ed} (h : t.1 = t'.1) (h0 : 0 ≤ t.2) (h1 : t.2 ≤ t'.2) (h2 : t'.2 ≤ 1000000) :
    (resolveL (xs.map steepN) t').1 = (resolveL xs t).1 ∧ (resolveL xs t).2 ≤ (resolveL (xs.map steepN) t').2 := by
  unfold resolveL
  rw [List.length_map]
  exact pick_rel ho.good _ _ _ h h0 h1 (by have := ho.le; omega)
theorem steep_edge {x : Nd} {e : Ed} (he : e ∈ allE (steepN x)) : ∃ e0, e0 ∈ allE x ∧ e0.1 = e.1 ∧ e0.2 ≤ e.2 ∧ (e0.2 ≤ 1000 → e.2 ≤ 1000) := by
  unfold allE at he ⊢
  rcases List.mem_append.1 he with he | he
  · obtain ⟨e0, h0, rfl⟩ := List.mem_map.1 he
    exact ⟨e0, List.mem_append_left _ h0, (steepE_to e0).symm, steepE_ge e0, steepE_le⟩
  · exact ⟨e, List.mem_append_right _ he, rfl, Int.le_refl _, id⟩
theorem okt_steep (ho : OKT xs) : OKT (xs.map steepN) := by
  refine ⟨by rw [List.length_map]; exact ho.pos, by rw [List.length_map]; exact ho.le, fun y hy => ?_, fun j hj => ?_⟩
  · obtain ⟨x, hx, rfl⟩ := List.mem_map.1 hy
    have hg := ho.good x hx
    obtain ⟨hh, hs, hi⟩ := ill_facts hg.1
    have hh' : headB (steepN x) = true := by
      have h8 : headB (steepN x) = headB x := by
        unfold headB steepN payB
        simp only [List.length_map]
      rw [h8, hh]
    have hed : ∀ e ∈ edgesL (steepN x), (0 ≤ e.1 ∧ e.1 < xs.length) ∧ 0 ≤ e.2 ∧ e.2 ≤ 1000 := fun e he => by
      obtain ⟨e0, h0, h1, h2, h3⟩ := steep_edge (mem_edges.1 he)
      have a := hs e0 (mem_edges.2 h0)
      have b := hi e0 (mem_edges.2 h0)
      have c := h3 a.2
      omega
    rw [List.length_map]
    refine good_ill ?_
    unfold illN shapeB
    rw [hh', Bool.true_and, if_pos (List.all_eq_true.2 fun e he => ?_), if_pos (List.all_eq_true.2 fun e he => ?_)]
    · exact nodeB_true.2 (hed e he).1
    · have := (hed e he).2
      simp only [shiftB, withinB, Bool.and_eq_true, decide_eq_true_eq]
      exact this
  · rw [List.length_map] at hj
    cases hl : lostB (xs.map steepN) j with
    | false => rfl
    | true =>
      have h1 := (lost_iff (xs.map steepN) j).2 hl
      rw [(resolve_rel ho (t := ((j : Int), 0)) (t' := ((j : Int), 0)) rfl (Int.le_refl _) (Int.le_refl _) (by show (0 : Int) ≤ 1000000; decide)).1] at h1
      have h2 := (lost_iff xs j).1 h1
      rw [ho.found j hj] at h2
      cases h2
theorem jump_rel (ho : OKT xs) {u : Nat} {x : Nd} {e0 e : Ed} (hx : xs[u]? = some x) (h0 : e0 ∈ allE x) (he : e ∈ allE (steepN x)) (h1 : e0.1 = e.1) (h2 : e0.2 ≤ e.2) :
    (jumpP xs x.prio e0 = none ∧ jumpP (xs.map steepN) x.prio e = none) ∨ ∃ v d d', jumpP xs x.prio e0 = some (v, d) ∧ jumpP (xs.map steepN) x.prio e = some (v, d') ∧ d ≤ d' := by
  have hh := okt_steep ho
  have hx' : (xs.map steepN)[u]? = some (steepN x) := by rw [List.getElem?_map, hx]; rfl
  obtain ⟨a, y, s, hy, hy5, _, _, _, hr, _, hj⟩ := ho.jump hx h0
  obtain ⟨a', y', s', hy', _, _, _, _, hr', _, hj'⟩ := hh.jump hx' he
  obtain ⟨_, _, hs0, hs1⟩ := ho.edge hx h0
  obtain ⟨_, _, _, hs1'⟩ := hh.edge hx' he
  have e1 := hr 0 (by omega) (by omega)
  have e2 := hr' 0 (by omega) (by omega)
  obtain ⟨r1, r2⟩ := resolve_rel ho (t := (e0.1, 0 + e0.2)) (t' := (e.1, 0 + e.2)) h1 (by simp only; omega) (by simp only; omega) (by simp only; omega)
  rw [e1, e2] at r1 r2
  simp only at r1 r2
  obtain rfl : a' = a := by omega
  rw [List.getElem?_map, hy] at hy'
  simp only [Option.map_some, Option.some.injEq] at hy'
  subst hy'
  have hj2 : jumpP (xs.map steepN) x.prio e = if y.kind = 0 then none else some ((a' : Int), y.prio + s' - x.prio) := hj'
  rw [hj, hj2]
  by_cases hy0 : y.kind = 0
  · rw [if_pos hy0, if_pos hy0]
    exact .inl ⟨rfl, rfl⟩
  · rw [if_neg hy0, if_neg hy0]
    exact .inr ⟨_, _, _, rfl, rfl, by omega⟩
theorem ord_steep (ho : ORD xs) : ORD (xs.map steepN) := by
  refine ⟨okt_steep ho.ok, fun y hy => ?_⟩
  obtain ⟨x, hx, rfl⟩ := List.mem_map.1 hy
  obtain ⟨u, hu, rfl⟩ := List.getElem_of_mem hx
  have hx' : xs[u]? = some xs[u] := List.getElem?_eq_getElem hu
  unfold lowB
  show (actB xs[u].kind && (allE (steepN xs[u])).any (lowE (xs.map steepN) xs[u].prio)) = false
  cases ha : actB xs[u].kind with
  | false => rfl
  | true =>
    rw [Bool.true_and, List.any_eq_false]
    intro e he
    obtain ⟨e0, h0, h1, h2, _⟩ := steep_edge he
    rcases jump_rel ho.ok hx' h0 he h1 h2 with ⟨_, j2⟩ | ⟨v, d, d', j1, j2, hd⟩
    · simp [lowE, j2]
    · have := (ho.rise hx' ha h0 j1).1
      simp only [lowE, j2, decide_eq_true_eq]
      omega
theorem eg_up (ho : ORD xs) {u v : Nat} {d : Int} (h : Eg xs u v d) : ∃ d', d ≤ d' ∧ Eg (xs.map steepN) u v d' := by
  obtain ⟨x, e, hx, ha, he, hj⟩ := h
  have hm : steepE e ∈ (steepN x).next := List.mem_map.2 ⟨e, he, rfl⟩
  rcases jump_rel ho.ok hx (List.mem_append_left _ he) (List.mem_append_left _ hm) (steepE_to e).symm (steepE_ge e) with ⟨j1, _⟩ | ⟨v', d1, d', j1, j2, hd⟩
  · rw [j1] at hj; cases hj
  · rw [j1] at hj
    simp only [Option.some.injEq, Prod.mk.injEq] at hj
    obtain ⟨rfl, rfl⟩ := hj
    exact ⟨d', hd, steepN x, steepE e, by rw [List.getElem?_map, hx]; rfl, ha, hm, j2⟩
theorem eg_down (ho : ORD xs) {u v : Nat} {d' : Int} (h : Eg (xs.map steepN) u v d') : ∃ d, d ≤ d' ∧ Eg xs u v d := by
  obtain ⟨y, e, hy, ha, he, hj⟩ := h
  rw [List.getElem?_map] at hy
  obtain ⟨x, hx, rfl⟩ := Option.map_eq_some_iff.1 hy
  obtain ⟨e0, h0, rfl⟩ := List.mem_map.1 he
  have hj2 : jumpP (xs.map steepN) x.prio (steepE e0) = some ((v : Int), d') := hj
  rcases jump_rel ho.ok hx (List.mem_append_left _ h0) (List.mem_append_left _ he) (steepE_to e0).symm (steepE_ge e0) with ⟨_, j2⟩ | ⟨v', d, d1, j1, j2, hd⟩
  · rw [j2] at hj2; cases hj2
  · rw [j2] at hj2
    simp only [Option.some.injEq, Prod.mk.injEq] at hj2
    obtain ⟨rfl, rfl⟩ := hj2
    exact ⟨d, hd, x, e0, hx, ha, h0, j1⟩
theorem wk_up (ho : ORD xs) {k u v : Nat} {s : Int} (hw : Wk xs k u v s) : ∃ s', s ≤ s' ∧ Wk (xs.map steepN) k u v s' := by
  induction hw with
  | zero => exact ⟨0, Int.le_refl _, .zero _⟩
  | snoc _ he ih =>
    obtain ⟨s', h1, h2⟩ := ih
    obtain ⟨d', h3, h4⟩ := eg_up ho he
    exact ⟨_, by omega, h2.snoc h4⟩
theorem wk_down (ho : ORD xs) {k u v : Nat} {s' : Int} (hw : Wk (xs.map steepN) k u v s') : ∃ s, s ≤ s' ∧ Wk xs k u v s := by
  induction hw with
  | zero => exact ⟨0, Int.le_refl _, .zero _⟩
  | snoc _ he ih =>
    obtain ⟨s, h1, h2⟩ := ih
    obtain ⟨d, h3, h4⟩ := eg_down ho he
    exact ⟨_, by omega, h2.snoc h4⟩
theorem order_steep (h : (orderL xs).2 = 0) : (orderL (xs.map steepN)).2 = 0 := by rw [(ord_steep (ord_of h)).order]
theorem back_steep (h : (orderL xs).2 = 0) (i : Nat) : (backL (xs.map steepN) (i : Int)).2 = (backL xs (i : Int)).2 ∧ ((backL xs (i : Int)).2 = true → (backL xs (i : Int)).1 ≤ (backL (xs.map steepN) (i : Int)).1) := by
  have hO := ord_of h
  have hH := ord_steep hO
  cases hx : xs[i]? with
  | none =>
    have hn : nodeB xs.length (i : Int) = false := nodeAt_none (nodeAt_nat.trans hx)
    rw [back_2 hn, back_2 (by rw [List.length_map]; exact hn)]
    exact ⟨rfl, fun h => by cases h⟩
  | some x =>
    have hx' : (xs.map steepN)[i]? = some (steepN x) := by rw [List.getElem?_map, hx]; rfl
    cases ha : actB x.kind with
    | false =>
      rw [back_3 (nodeAt_nat.trans hx) ha, back_3 (nodeAt_nat.trans hx') ha]
      exact ⟨rfl, fun h => by cases h⟩
    | true =>
      rcases back_is hO hx ha with ⟨a1, ⟨k, hk, hw⟩, a3⟩ | ⟨a1, a2⟩ <;> rcases back_is hH hx' ha with ⟨b1, ⟨j, hj, hw2⟩, b3⟩ | ⟨b1, b2⟩
      · refine ⟨by rw [a1, b1], fun _ => ?_⟩
        obtain ⟨s, hs, hw3⟩ := wk_down hO hw2
        have := a3 j s hj hw3
        omega
      · obtain ⟨s, _, hw3⟩ := wk_up hO hw
        exact absurd hw3 (b2 k s hk)
      · obtain ⟨s, _, hw3⟩ := wk_down hO hw2
        exact absurd hw3 (a2 j s hj)
      · rw [a1, b1]
        exact ⟨rfl, fun h => by cases h⟩
end
end Go.Proofs.Ytablbgfleopbfaa

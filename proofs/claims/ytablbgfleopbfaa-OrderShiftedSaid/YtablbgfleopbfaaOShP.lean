/- OrderShifted's tables: priorities higher by the same, steeper edges. No program. -/
import Derived.Test.YtablbgfleopbfaaOBf
namespace Go.Proofs.Ytablbgfleopbfaa
open Go.RowKit

def act4 (k : Int) : Bool := decide (1 ≤ k) && decide (k ≤ 4)
def lowN (x : Nd) : Nd := if act4 x.kind then { x with prio := x.prio.tmod 500 } else x
def highN (m : Int) (x : Nd) : Nd := if act4 x.kind ∧ 0 ≤ x.prio then { x with prio := x.prio + m } else x
def steepE (e : Ed) : Ed := if 0 ≤ e.2 ∧ e.2 < 900 then (e.1, e.2 + 1) else e
def steepN (x : Nd) : Nd := { x with next := x.next.map steepE }

section
variable {m : Int}
theorem highN_kind (x : Nd) : (highN m x).kind = x.kind := by unfold highN; split <;> rfl
theorem highN_next (x : Nd) : (highN m x).next = x.next := by unfold highN; split <;> rfl
theorem highN_chan (x : Nd) : (highN m x).chan = x.chan := by unfold highN; split <;> rfl
theorem highN_pay (x : Nd) : (highN m x).pay = x.pay := by unfold highN; split <;> rfl
end
theorem steepE_to (e : Ed) : (steepE e).1 = e.1 := by unfold steepE; split <;> rfl
theorem steepE_ge (e : Ed) : e.2 ≤ (steepE e).2 := by unfold steepE; split <;> simp; omega
theorem steepE_le {e : Ed} (h : e.2 ≤ 1000) : (steepE e).2 ≤ 1000 := by
  by_cases hc : 0 ≤ e.2 ∧ e.2 < 900
  · unfold steepE; rw [if_pos hc]; simp only; omega
  · unfold steepE; rw [if_neg hc]; exact h
theorem nodeAt_map (f : Nd → Nd) (xs : List Nd) (i : Int) : nodeAt (xs.map f) i = (nodeAt xs i).map f := by unfold nodeAt; split <;> simp

/-! ### kinds and edges as they were -/
section
variable {f : Nd → Nd} (hk : ∀ x, (f x).kind = x.kind) (hn : ∀ x, (f x).next = x.next) {xs : List Nd}
include hk in
theorem isAl_same (t : Ed) : isAl (xs.map f) t = isAl xs t := by
  unfold isAl
  rw [nodeAt_map]
  cases nodeAt xs t.1 with
  | none => rfl
  | some x => simp only [Option.map_some, hk]
include hk in
theorem pick_same (L : List Ed) : pickL (xs.map f) L = pickL xs L := by
  induction L with
  | nil => rfl
  | cons t L ih => simp only [pickL, isAl_same hk, ih]
include hk hn in
theorem way_same : ∀ (k : Nat) (t : Ed), wayL (xs.map f) k t = wayL xs k t
  | 0, _ => rfl
  | k + 1, t => by
    cases h : nodeAt xs t.1 with
    | none => rw [wayL_none h, wayL_none (by rw [nodeAt_map, h]; rfl)]
    | some x =>
      have h2 : nodeAt (xs.map f) t.1 = some (f x) := by rw [nodeAt_map, h]; rfl
      have ho : onlyNext (f x) = onlyNext x := by unfold onlyNext; rw [hk, hn]
      cases hx : onlyNext x with
      | none => rw [wayL_end h hx, wayL_end h2 (by rw [ho, hx])]
      | some e => rw [wayL_next h hx, wayL_next h2 (by rw [ho, hx]), way_same k]
include hk hn in
theorem resolve_same (t : Ed) : resolveL (xs.map f) t = resolveL xs t := by
  unfold resolveL
  rw [List.length_map, way_same hk hn, pick_same hk]
include hk hn in
theorem lost_same (i : Nat) : lostB (xs.map f) i = lostB xs i := by
  unfold lostB
  rw [List.length_map, way_same hk hn, show isAl (xs.map f) = isAl xs from funext (isAl_same hk)]
include hk hn in
theorem firstLost_same : ∀ (n k : Nat), firstLost (xs.map f) n k = firstLost xs n k
  | 0, _ => rfl
  | n + 1, k => by simp only [firstLost, lost_same hk hn, firstLost_same n (k + 1)]
theorem firstIll_same {n : Nat} : ∀ {l : List Nd} (k : Nat), (∀ x ∈ l, illN n (f x) = illN n x) → firstIll n (l.map f) k = firstIll n l k
  | [], _, _ => rfl
  | x :: l, k, h => by simp only [List.map_cons, firstIll, h x List.mem_cons_self, firstIll_same (k + 1) (fun y hy => h y (List.mem_cons_of_mem _ hy))]
include hk hn in
theorem check_same (hi : ∀ x ∈ xs, illN xs.length (f x) = illN xs.length x) : checkL (xs.map f) = checkL xs := by
  unfold checkL
  rw [List.length_map, firstIll_same 0 hi, firstLost_same hk hn]
end

/-! ### higher by the same -/
theorem lowN_kind (x : Nd) : (lowN x).kind = x.kind := by unfold lowN; split <;> rfl
theorem lowN_lt (x : Nd) (h : act4 (lowN x).kind = true) : (lowN x).prio < 500 := by
  rw [lowN_kind] at h
  unfold lowN
  rw [if_pos h]
  exact Int.tmod_lt_of_pos _ (by decide)
theorem ill_high {n : Nat} {m : Int} (h0 : 0 ≤ m) (h1 : m ≤ 255) {y : Nd} (hy : act4 y.kind = true → y.prio < 500) : illN n (highN m y) = illN n y := by
  by_cases h : act4 y.kind ∧ 0 ≤ y.prio
  · have hp := hy h.1
    obtain ⟨hk, hpr⟩ := h
    have hk' := hk
    simp only [act4, Bool.and_eq_true, decide_eq_true_eq] at hk
    have hm : mostP y.kind = 1000 := by unfold mostP; rw [if_pos (by omega)]
    have e1 : withinB (y.prio + m) 0 (mostP y.kind) = withinB y.prio 0 (mostP y.kind) := by
      rw [hm]; unfold withinB
      rw [decide_eq_true (by omega : 0 ≤ y.prio + m), decide_eq_true (by omega : y.prio + m ≤ 1000), decide_eq_true (by omega : 0 ≤ y.prio), decide_eq_true (by omega : y.prio ≤ 1000)]
    unfold highN
    rw [if_pos ⟨hk', hpr⟩]
    simp only [illN, shapeB, headB, edgesL, payB, e1]
    rfl
  · unfold highN; rw [if_neg h]
section
variable {xs : List Nd} {m : Int} (h0 : 0 ≤ m) (h1 : m ≤ 255) (hl : ∀ x ∈ xs, act4 x.kind = true → x.prio < 500)
include h0 h1 hl in
theorem check_high : checkL (xs.map (highN m)) = checkL xs := check_same highN_kind highN_next (fun x hx => ill_high h0 h1 (hl x hx))
theorem act_high {x : Nd} (hk : 0 ≤ x.kind ∧ x.kind ≤ 5) (hp : 0 ≤ x.prio) (ha : actB x.kind = true) : (highN m x).prio = x.prio + m := by
  simp only [actB, Bool.and_eq_true, Bool.not_eq_true', decide_eq_false_iff_not] at ha
  unfold highN
  rw [if_pos ⟨by simp only [act4, Bool.and_eq_true, decide_eq_true_eq]; omega, hp⟩]
theorem allE_high (x : Nd) : allE (highN m x) = allE x := by unfold allE; rw [highN_next, highN_chan, highN_pay]
include h0 h1 hl in
theorem jump_high (ho : OKT xs) {u : Nat} {x : Nd} {e : Ed} (hx : xs[u]? = some x) (ha : actB x.kind = true) (he : e ∈ allE x) : jumpP (xs.map (highN m)) (highN m x).prio e = jumpP xs x.prio e := by
  have hh : OKT (xs.map (highN m)) := okt_of (by rw [check_high h0 h1 hl, ho.check])
  have hx' : (xs.map (highN m))[u]? = some (highN m x) := by rw [List.getElem?_map, hx]; rfl
  obtain ⟨a, y, s, hy, hy5, _, _, _, hr, _, hj⟩ := ho.jump hx he
  obtain ⟨a', y', s', hy', _, _, _, _, hr', _, hj'⟩ := hh.jump hx' (by rw [allE_high]; exact he)
  have e1 := hr 0 (by omega) (by omega)
  have e2 := hr' 0 (by omega) (by omega)
  rw [resolve_same highN_kind highN_next, e1] at e2
  simp only [Prod.mk.injEq] at e2
  obtain ⟨e2, e3⟩ := e2
  obtain rfl : a = a' := by omega
  rw [List.getElem?_map, hy] at hy'
  simp only [Option.map_some, Option.some.injEq] at hy'
  subst hy'
  rw [hj, hj', highN_kind]
  by_cases hy0 : y.kind = 0
  · rw [if_pos hy0, if_pos hy0]
  · rw [if_neg hy0, if_neg hy0, act_high (ho.end_ hy).1 (ho.end_ hy).2.1.1 (by simp [actB, hy0, hy5]), act_high (ho.end_ hx).1 (ho.end_ hx).2.1.1 ha]
    congr 2
    omega
include h0 h1 hl in
theorem low_high (ho : OKT xs) {x : Nd} (hx : x ∈ xs) : lowB (xs.map (highN m)) (highN m x) = lowB xs x := by
  obtain ⟨u, hu, rfl⟩ := List.getElem_of_mem hx
  have hx' : xs[u]? = some xs[u] := List.getElem?_eq_getElem hu
  unfold lowB
  rw [highN_kind, allE_high]
  cases ha : actB xs[u].kind with
  | false => rfl
  | true =>
    rw [Bool.true_and, Bool.true_and, Bool.eq_iff_iff, List.any_eq_true, List.any_eq_true]
    constructor
    · rintro ⟨e, he, h⟩
      refine ⟨e, he, ?_⟩
      unfold lowE at h ⊢
      rwa [jump_high h0 h1 hl ho hx' ha he] at h
    · rintro ⟨e, he, h⟩
      refine ⟨e, he, ?_⟩
      unfold lowE at h ⊢
      rwa [jump_high h0 h1 hl ho hx' ha he]
theorem firstLow_same {f : Nd → Nd} {ys : List Nd} : ∀ {l : List Nd} (k : Nat), (∀ x ∈ l, lowB ys (f x) = lowB xs x) → firstLow ys (l.map f) k = firstLow xs l k
  | [], _, _ => rfl
  | x :: l, k, h => by simp only [List.map_cons, firstLow, h x List.mem_cons_self, firstLow_same (k + 1) (fun y hy => h y (List.mem_cons_of_mem _ hy))]
include h0 h1 hl in
theorem order_high : orderL (xs.map (highN m)) = orderL xs := by
  unfold orderL
  rw [check_high h0 h1 hl]
  by_cases hc : (checkL xs).2 = 0
  · rw [if_pos hc, if_pos hc]
    exact firstLow_same 0 (fun x hx => low_high h0 h1 hl (okt_of hc) hx)
  · rw [if_neg hc, if_neg hc]
include h0 h1 hl in
theorem eg_high (ho : OKT xs) {u v : Nat} {d : Int} : Eg (xs.map (highN m)) u v d ↔ Eg xs u v d := by
  constructor
  · rintro ⟨x, e, hx, ha, he, hj⟩
    rw [List.getElem?_map] at hx
    obtain ⟨y, hy, rfl⟩ := Option.map_eq_some_iff.1 hx
    rw [highN_kind] at ha
    rw [highN_next] at he
    rw [jump_high h0 h1 hl ho hy ha (List.mem_append_left _ he)] at hj
    exact ⟨y, e, hy, ha, he, hj⟩
  · rintro ⟨x, e, hx, ha, he, hj⟩
    refine ⟨highN m x, e, by rw [List.getElem?_map, hx]; rfl, by rw [highN_kind]; exact ha, by rw [highN_next]; exact he, ?_⟩
    rw [jump_high h0 h1 hl ho hx ha (List.mem_append_left _ he)]
    exact hj
theorem wk_of {ys : List Nd} (h : ∀ u v d, Eg xs u v d → Eg ys u v d) {k u v : Nat} {s : Int} (hw : Wk xs k u v s) : Wk ys k u v s := by
  induction hw with
  | zero => exact .zero _
  | snoc _ he ih => exact ih.snoc (h _ _ _ he)
include h0 h1 hl in
theorem back_high (i : Nat) : backL (xs.map (highN m)) (i : Int) = backL xs (i : Int) := by
  have hoo := order_high h0 h1 hl
  by_cases hc : (orderL xs).2 = 0
  · have hO := ord_of hc
    have hH : ORD (xs.map (highN m)) := ord_of (by rw [hoo]; exact hc)
    cases hx : xs[i]? with
    | none =>
      have hn : nodeB xs.length (i : Int) = false := nodeAt_none (nodeAt_nat.trans hx)
      rw [back_2 hn, back_2 (by rw [List.length_map]; exact hn)]
    | some x =>
      have hx' : (xs.map (highN m))[i]? = some (highN m x) := by rw [List.getElem?_map, hx]; rfl
      cases ha : actB x.kind with
      | false => rw [back_3 (nodeAt_nat.trans hx) ha, back_3 (nodeAt_nat.trans hx') (by rw [highN_kind]; exact ha)]
      | true =>
        have b1 := back_is hO hx ha
        have b2 := back_is hH hx' (by rw [highN_kind]; exact ha)
        refine b2.uniq ?_
        have w1 := fun {k u v : Nat} {s : Int} => wk_of (xs := xs.map (highN m)) (ys := xs) (fun u v d => (eg_high h0 h1 hl hO.ok).1) (k := k) (u := u) (v := v) (s := s)
        have w2 := fun {k u v : Nat} {s : Int} => wk_of (xs := xs) (ys := xs.map (highN m)) (fun u v d => (eg_high h0 h1 hl hO.ok).2) (k := k) (u := u) (v := v) (s := s)
        rcases b1 with ⟨c1, ⟨k, hk, hw⟩, c2⟩ | ⟨c1, c2⟩
        · exact .inl ⟨c1, ⟨k, hk, w2 hw⟩, fun k r hk hw => c2 k r hk (w1 hw)⟩
        · exact .inr ⟨c1, fun k r hk hw => c2 k r hk (w1 hw)⟩
  · rw [back_1 hc, back_1 (by rw [hoo]; exact hc)]
end
end Go.Proofs.Ytablbgfleopbfaa

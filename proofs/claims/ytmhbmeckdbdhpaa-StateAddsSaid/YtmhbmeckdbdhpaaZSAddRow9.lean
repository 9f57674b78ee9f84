/- Texts joined for the claim's sake: GWyP, OOrd. -/
import Derived.Test.YtmhbmeckdbdhpaaZSAddRow7
import Derived.Test.YtmhbmeckdbdhpaaZSAddRow8
namespace Go.Proofs.Ytmhbmeckdbdhpaa
open Go.RowKit

theorem good_one {n : Nat} {x : Nd} (h : Good n x) (hk : x.kind = 5) : ∃ e, x.next = [e] ∧ onlyNext x = some e ∧ edOk n e := by
  have h1 := h.1
  have hs : shapeB x = true := by
    cases hb : shapeB x with
    | true => rfl
    | false => simp [illN, hb] at h1
  have hi : (edgesL x).all (inB n) = true := by
    cases hb : (edgesL x).all (inB n) with
    | true => rfl
    | false => simp [illN, hs, hb] at h1
  simp only [shapeB, headB, Bool.and_eq_true, withinB, decide_eq_true_eq, hk, leastN, mostN] at hs
  obtain ⟨⟨⟨⟨_, hl⟩, _⟩, hp⟩, hsh⟩ := hs
  have hl1 : x.next.length = 1 := by
    have a := hl.1
    have b := hl.2
    simp at a b
    omega
  have hc : x.chan = false := by
    cases hc : x.chan with
    | false => rfl
    | true => simp [payB, hc, paysB] at hp
  obtain ⟨e, he⟩ := List.length_eq_one_iff.1 hl1
  have hed : edgesL x = [e] := by simp [edgesL, hc, he]
  rw [hed] at hsh hi
  simp only [List.all_cons, List.all_nil, Bool.and_true] at hsh hi
  have h2 := nodeB_true.1 hi
  simp only [shiftB, withinB, Bool.and_eq_true, decide_eq_true_eq] at hsh
  exact ⟨e, he, by simp [onlyNext, hk, he], h2.1, h2.2, hsh.1, hsh.2⟩

theorem least_lost (xs : List Nd) : ∀ n : Nat, (∀ j, j < n → lostB xs j = false) ∨ ∃ k, k < n ∧ lostB xs k = true ∧ ∀ j, j < k → lostB xs j = false
  | 0 => .inl fun j hj => by omega
  | n + 1 => by
    rcases least_lost xs n with h | ⟨k, hk, h1, h2⟩
    · cases hl : lostB xs n with
      | true => exact .inr ⟨n, by omega, hl, h⟩
      | false =>
        refine .inl fun j hj => ?_
        by_cases e : j = n
        · subst e; exact hl
        · exact h j (by omega)
    · exact .inr ⟨k, by omega, h1, h2⟩

end Go.Proofs.Ytmhbmeckdbdhpaa

namespace Go.Proofs.Ytmhbmeckdbdhpaa
open Go.RowKit

def actB (k : Int) : Bool := !decide (k = 0) && !decide (k = 5)
/-- Where an edge of a node with the priority p comes to, and how far it rises; none, if that does not act. -/
def jumpP (xs : List Nd) (p : Int) (e : Ed) : Option (Int × Int) :=
  match nodeAt xs (resolveL xs e).1 with
  | none => none
  | some y => if actB y.kind then some ((resolveL xs e).1, wrap64 (wrap64 (y.prio + (resolveL xs e).2) - p)) else none
def allE (x : Nd) : List Ed := x.next ++ (if x.chan then [x.pay] else [])
def lowE (xs : List Nd) (p : Int) (e : Ed) : Bool := match jumpP xs p e with | some (_, r) => decide (r < 1) | none => false
def lowB (xs : List Nd) (x : Nd) : Bool := actB x.kind && (allE x).any (lowE xs x.prio)
def firstLow (xs : List Nd) : List Nd → Nat → Int × Int
  | [], _ => (-1, 0)
  | x :: l, k => if lowB xs x then ((k : Int), 10) else firstLow xs l (k + 1)
def orderL (xs : List Nd) : Int × Int := if (checkL xs).2 = 0 then firstLow xs xs 0 else checkL xs
/-! ### a table whose Check is OK -/
structure OKT (xs : List Nd) : Prop where
  pos : 0 < xs.length
  le : xs.length ≤ 64
  good : ∀ x ∈ xs, Good xs.length x
  found : ∀ j, j < xs.length → lostB xs j = false
theorem ill_all {n : Nat} : ∀ {l : List Nd} {k : Nat}, (firstIll n l k).2 = 0 → ∀ x ∈ l, illN n x = 0
  | [], _, _, x, hx => by cases hx
  | y :: l, k, h, x, hx => by
    by_cases hy : illN n y = 0
    · simp only [firstIll, hy, if_true] at h
      rcases List.mem_cons.1 hx with rfl | hx
      · exact hy
      · exact ill_all h x hx
    · simp only [firstIll, hy, if_false] at h
theorem ill_facts {n : Nat} {x : Nd} (h : illN n x = 0) : headB x = true ∧ (∀ e ∈ edgesL x, 0 ≤ e.2 ∧ e.2 ≤ 1000) ∧ (∀ e ∈ edgesL x, 0 ≤ e.1 ∧ e.1 < n) := by
  have hs : shapeB x = true := by
    cases hb : shapeB x with
    | true => rfl
    | false => simp [illN, hb] at h
  have hi : (edgesL x).all (inB n) = true := by
    cases hb : (edgesL x).all (inB n) with
    | true => rfl
    | false => simp [illN, hs, hb] at h
  unfold shapeB at hs
  rw [Bool.and_eq_true] at hs
  refine ⟨hs.1, fun e he => ?_, fun e he => ?_⟩
  · have := List.all_eq_true.1 hs.2 e he
    simpa [shiftB, withinB] using this
  · exact nodeB_true.1 (List.all_eq_true.1 hi e he)
theorem head_facts {x : Nd} (h : headB x = true) : (0 ≤ x.kind ∧ x.kind ≤ 5) ∧ (0 ≤ x.prio ∧ x.prio ≤ 1000) ∧ x.next.length ≤ 8 ∧ (actB x.kind = true → 1 ≤ x.next.length) := by
  simp only [headB, kindB, withinB, Bool.and_eq_true, decide_eq_true_eq, leastN, mostN, mostP] at h
  obtain ⟨⟨⟨hk, hl⟩, hp⟩, _⟩ := h
  refine ⟨hk, ⟨hp.1, ?_⟩, ?_, fun ha => ?_⟩
  · have := of_decide_eq_true hp.2
    split at this <;> omega
  · have := of_decide_eq_true hl.2
    split at this
    · omega
    · split at this <;> omega
  · simp only [actB, Bool.and_eq_true, Bool.not_eq_true', decide_eq_false_iff_not] at ha
    have := of_decide_eq_true hl.1
    rw [if_neg ha.1] at this
    omega
theorem good_ill {n : Nat} {x : Nd} (h : illN n x = 0) : Good n x := ⟨h, (head_facts (ill_facts h).1).2.2.1⟩
theorem okt_of {xs : List Nd} (h : (checkL xs).2 = 0) : OKT xs := by
  by_cases h0 : xs.length = 0
  · rw [check_0 h0] at h; cases h
  · by_cases h1 : 64 < xs.length
    · rw [check_1 h1] at h; cases h
    · by_cases hi : (firstIll xs.length xs 0).2 = 0
      · by_cases hl : firstLost xs xs.length 0 < 0
        · refine ⟨by omega, by omega, fun x hx => good_ill (ill_all hi x hx), ?_⟩
          rcases least_lost xs xs.length with hn | ⟨k, hk, h3, h4⟩
          · exact hn
          · rw [firstLost_here hk h4 h3] at hl; omega
        · rw [check_4 (by omega) (by omega) hi hl] at h; cases h
      · rw [check_2 (by omega) (by omega) hi] at h; exact absurd h hi
theorem okt_check {xs : List Nd} (h : (checkL xs).2 = 0) : checkL xs = (-1, 0) := by
  have hk := okt_of h
  rcases least_lost xs xs.length with hn | ⟨k, hk2, h3, h4⟩
  · exact check_3 hk.pos hk.le (by rw [firstIll_none (fun j x _ hx => (hk.good x (List.mem_of_getElem? hx)).1)]) (by rw [firstLost_none hn]; decide)
  · rw [hk.found k hk2] at h3; cases h3
theorem OKT.check {xs : List Nd} (hk : OKT xs) : checkL xs = (-1, 0) :=
  check_3 hk.pos hk.le (by rw [firstIll_none (fun j x _ hx => (hk.good x (List.mem_of_getElem? hx)).1)]) (by rw [firstLost_none hk.found]; decide)

theorem wrap_in {a : Int} (h0 : -9223372036854775808 ≤ a) (h1 : a ≤ 9223372036854775807) : wrap64 a = a := IntWalk.wrap64_in _ ⟨by omega, by omega⟩
/-- Offsets along a way. -/
theorem way_off {xs : List Nd} (hg : ∀ x ∈ xs, Good xs.length x) : ∀ {f : Nat} {t s : Ed}, 0 ≤ t.2 → t.2 + 1000 * f ≤ 1000000000 → s ∈ wayL xs f t → t.2 ≤ s.2 ∧ s.2 ≤ t.2 + 1000 * f
  | 0, t, s, _, _, h => by simp [wayL] at h
  | f + 1, t, s, h0, h1, h => by
    cases hn : nodeAt xs t.1 with
    | none => rw [wayL_none hn] at h; simp at h
    | some x =>
      cases ho : onlyNext x with
      | none => rw [wayL_end hn ho] at h; obtain rfl := List.mem_singleton.1 h; omega
      | some e =>
        rw [wayL_next hn ho] at h
        rcases List.mem_cons.1 h with rfl | h
        · omega
        · have hk5 : x.kind = 5 := by
            unfold onlyNext at ho
            split at ho
            · assumption
            · cases ho
          obtain ⟨e', _, ho', hok⟩ := good_one (hg x (List.mem_of_getElem? (nodeAt_some hn).2.2)) hk5
          rw [ho] at ho'
          cases ho'
          have hw : (stepT t e).2 = t.2 + e.2 := by
            show wrap64 (t.2 + e.2) = _
            have := hok.2.2
            exact wrap_in (by omega) (by omega)
          have := hok.2.2
          have := way_off hg (f := f) (t := stepT t e) (s := s) (by rw [hw]; omega) (by rw [hw]; omega) h
          rw [hw] at this
          omega
/-- What a node comes to. -/
theorem OKT.goal {xs : List Nd} (hk : OKT xs) {t : Int} (h0 : 0 ≤ t) (h1 : t < xs.length) : ∃ (m : Nat) (y : Nd) (s : Int), xs[m]? = some y ∧ y.kind ≠ 5 ∧ 0 ≤ s ∧ s ≤ 64000 ∧ m < xs.length ∧ ∀ o, -1000000000 ≤ o → o ≤ 1000000000 → resolveL xs (t, o) = ((m : Int), s + o) := by
  obtain ⟨i, rfl⟩ : ∃ i : Nat, t = i := ⟨t.toNat, by omega⟩
  rcases resolve_at xs ((i : Int), 0) with h | ⟨y, hy, hk5⟩
  · have := (lost_iff xs i).1 (by rw [h]; decide)
    rw [hk.found i (by omega)] at this
    cases this
  · obtain ⟨a0, a1, a2⟩ := nodeAt_some hy
    have hm : resolveL xs ((i : Int), 0) ∈ wayL xs xs.length ((i : Int), 0) := by
      rcases pick_some (xs := xs) (L := wayL xs xs.length ((i : Int), 0)) with h | ⟨h, _⟩
      · have h2 : resolveL xs ((i : Int), 0) = (-1, 0) := h
        rw [h2] at a0
        simp at a0
      · exact h
    have hw := way_off hk.good (by simp) (by have := hk.le; simp; omega) hm
    simp only at hw
    have hle := hk.le
    refine ⟨(resolveL xs ((i : Int), 0)).1.toNat, y, (resolveL xs ((i : Int), 0)).2, a2, hk5, by omega, by omega, by omega, fun o ho0 ho1 => ?_⟩
    have := resolve_shift o rfl hy
    simp only at this
    rw [wrap_in (by omega) (by omega), Int.zero_add] at this
    rw [this, wrap_in (by omega) (by omega)]
    ext <;> simp; omega
theorem OKT.end_ {xs : List Nd} {m : Nat} {y : Nd} (hk : OKT xs) (hy : xs[m]? = some y) : (0 ≤ y.kind ∧ y.kind ≤ 5) ∧ (0 ≤ y.prio ∧ y.prio ≤ 1000) ∧ y.next.length ≤ 8 ∧ (actB y.kind = true → 1 ≤ y.next.length) :=
  head_facts (ill_facts (hk.good y (List.mem_of_getElem? hy)).1).1
theorem mem_edges {x : Nd} {e : Ed} : e ∈ edgesL x ↔ e ∈ allE x := by
  unfold edgesL allE
  simp only [List.mem_append]
  exact Or.comm
theorem OKT.edge {xs : List Nd} (hk : OKT xs) {u : Nat} {x : Nd} {e : Ed} (hx : xs[u]? = some x) (he : e ∈ allE x) : 0 ≤ e.1 ∧ e.1 < xs.length ∧ 0 ≤ e.2 ∧ e.2 ≤ 1000 := by
  have h := ill_facts (hk.good x (List.mem_of_getElem? hx)).1
  have a := h.2.1 e (mem_edges.2 he)
  have b := h.2.2 e (mem_edges.2 he)
  omega
/-- How far an edge of a table rises. -/
theorem OKT.jump {xs : List Nd} (hk : OKT xs) {u : Nat} {x : Nd} {e : Ed} (hx : xs[u]? = some x) (he : e ∈ allE x) :
    ∃ (m : Nat) (y : Nd) (s : Int), xs[m]? = some y ∧ y.kind ≠ 5 ∧ m < xs.length ∧ 0 ≤ s ∧ s ≤ 65000 ∧ (∀ o, 0 ≤ o → o ≤ 100000000 → resolveL xs (e.1, o + e.2) = ((m : Int), s + o)) ∧ (resolveL xs (e.1, 0)).1 = (m : Int) ∧
      jumpP xs x.prio e = if y.kind = 0 then none else some ((m : Int), y.prio + s - x.prio) := by
  obtain ⟨h0, h1, h2, h3⟩ := hk.edge hx he
  obtain ⟨m, y, s, hy, hk5, hs0, hs1, hm, hr⟩ := hk.goal h0 h1
  refine ⟨m, y, s + e.2, hy, hk5, hm, by omega, by omega, fun o ho0 ho1 => by rw [hr _ (by omega) (by omega)]; congr 1; omega, by rw [hr 0 (by omega) (by omega)], ?_⟩
  have hre : resolveL xs e = ((m : Int), s + e.2) := hr e.2 (by omega) (by omega)
  have hn : nodeAt xs (m : Int) = some y := nodeAt_nat.trans hy
  unfold jumpP
  rw [hre]
  simp only [hn]
  have hp := (hk.end_ hy).2.1
  have hx1 := (hk.end_ hx).2.1
  rw [wrap_in (a := y.prio + (s + e.2)) (by omega) (by omega), wrap_in (by omega) (by omega)]
  by_cases hy0 : y.kind = 0
  · simp [actB, hy0]
  · simp [actB, hy0, hk5]

/-! ### the order -/
theorem low_all {xs : List Nd} : ∀ {l : List Nd} {k : Nat}, (firstLow xs l k).2 = 0 → ∀ x ∈ l, lowB xs x = false
  | [], _, _, x, hx => by cases hx
  | y :: l, k, h, x, hx => by
    by_cases hy : lowB xs y = true
    · simp [firstLow, hy] at h
    · simp only [firstLow, hy] at h
      rcases List.mem_cons.1 hx with rfl | hx
      · simpa using hy
      · exact low_all h x hx
theorem firstLow_none {xs : List Nd} : ∀ {l : List Nd} {k : Nat}, (∀ x ∈ l, lowB xs x = false) → firstLow xs l k = (-1, 0)
  | [], _, _ => rfl
  | y :: l, k, h => by
    simp only [firstLow, h y List.mem_cons_self]
    exact firstLow_none (fun x hx => h x (List.mem_cons_of_mem _ hx))
theorem firstLow_here {xs : List Nd} {x : Nd} : ∀ {l : List Nd} {i k : Nat}, l[i]? = some x → (∀ j y, j < i → l[j]? = some y → lowB xs y = false) → lowB xs x = true → firstLow xs l k = (((k + i : Nat) : Int), 10)
  | [], i, k, h, _, _ => by simp at h
  | y :: l, 0, k, h, _, hx => by
    simp only [List.getElem?_cons_zero, Option.some.injEq] at h
    subst h
    simp [firstLow, hx]
  | y :: l, i + 1, k, h, hb, hx => by
    rw [List.getElem?_cons_succ] at h
    have hy := hb 0 y (by omega) rfl
    simp only [firstLow, hy]
    have := firstLow_here (k := k + 1) h (fun j z hj hz => hb (j + 1) z (by omega) (by rw [List.getElem?_cons_succ]; exact hz)) hx
    rw [show k + (i + 1) = k + 1 + i by omega]
    exact this
/-- A table whose order is OK. -/
structure ORD (xs : List Nd) : Prop where
  ok : OKT xs
  low : ∀ x ∈ xs, lowB xs x = false
theorem ord_of {xs : List Nd} (h : (orderL xs).2 = 0) : ORD xs := by
  unfold orderL at h
  by_cases hc : (checkL xs).2 = 0
  · rw [if_pos hc] at h
    exact ⟨okt_of hc, low_all h⟩
  · rw [if_neg hc] at h; exact absurd h hc
theorem ORD.order {xs : List Nd} (h : ORD xs) : orderL xs = (-1, 0) := by
  unfold orderL
  rw [h.ok.check, if_pos rfl]
  exact firstLow_none h.low
/-- An edge that rises. -/
theorem ORD.rise {xs : List Nd} (h : ORD xs) {u : Nat} {x : Nd} {e : Ed} {v d : Int} (hx : xs[u]? = some x) (ha : actB x.kind = true) (he : e ∈ allE x) (hj : jumpP xs x.prio e = some (v, d)) : 1 ≤ d ∧ d ≤ 66000 ∧ 0 ≤ v ∧ v < xs.length ∧ ∃ y, xs[v.toNat]? = some y ∧ actB y.kind = true := by
  have hl := h.low x (List.mem_of_getElem? hx)
  unfold lowB at hl
  rw [ha, Bool.true_and, List.any_eq_false] at hl
  have hle := hl e he
  simp only [lowE, hj, decide_eq_true_eq] at hle
  obtain ⟨m, y, s, hy, hk5, hm, hs0, hs1, _, _, hjm⟩ := h.ok.jump hx he
  rw [hjm] at hj
  by_cases hy0 : y.kind = 0
  · rw [if_pos hy0] at hj; cases hj
  · rw [if_neg hy0] at hj
    simp only [Option.some.injEq, Prod.mk.injEq] at hj
    have a := (h.ok.end_ hy).2.1
    have b := (h.ok.end_ hx).2.1
    refine ⟨by omega, by omega, by omega, by omega, y, ?_, by simp [actB, hy0, hk5]⟩
    rw [← hj.1]; simpa using hy

/-- An edge along which one goes on. -/
def Eg (xs : List Nd) (u v : Nat) (d : Int) : Prop := ∃ x e, xs[u]? = some x ∧ actB x.kind = true ∧ e ∈ x.next ∧ jumpP xs x.prio e = some ((v : Int), d)
theorem ORD.eg {xs : List Nd} (h : ORD xs) {u v : Nat} {d : Int} (he : Eg xs u v d) : 1 ≤ d ∧ d ≤ 66000 ∧ v < xs.length ∧ u < xs.length ∧ ∃ y, xs[v]? = some y ∧ actB y.kind = true := by
  obtain ⟨x, e, hx, ha, hm, hj⟩ := he
  obtain ⟨h1, h2, h3, h4, h5⟩ := h.rise hx ha (List.mem_append_left _ hm) hj
  exact ⟨h1, h2, by omega, (List.getElem?_eq_some_iff.1 hx).1, by simpa using h5⟩

/-- A walk of k edges. -/
inductive Wk (xs : List Nd) : Nat → Nat → Nat → Int → Prop
  | zero (u : Nat) : Wk xs 0 u u 0
  | snoc {k u v z : Nat} {s d : Int} : Wk xs k u v s → Eg xs v z d → Wk xs (k + 1) u z (s + d)
theorem Wk.trans {xs : List Nd} {a u v : Nat} {s : Int} (h : Wk xs a u v s) : ∀ {b z : Nat} {t : Int}, Wk xs b v z t → Wk xs (a + b) u z (s + t) := fun {b z t} h2 => by
  induction h2 with
  | zero => simpa using h
  | snoc _ he ih => rw [← Nat.add_assoc, ← Int.add_assoc]; exact (ih h).snoc he
theorem Wk.pos {xs : List Nd} (h : ORD xs) {k u v : Nat} {s : Int} (hw : Wk xs k u v s) : (k : Int) ≤ s := by
  induction hw with
  | zero => simp
  | snoc _ he ih => have := (h.eg he).1; omega
/-- How far the way back rises that rises least; or that there is none. -/
def BackIs (xs : List Nd) (u : Nat) (p : Int × Bool) : Prop :=
  (p.2 = true ∧ (∃ k, 1 ≤ k ∧ Wk xs k u u p.1) ∧ ∀ k r, 1 ≤ k → Wk xs k u u r → p.1 ≤ r) ∨ (p = (0, false) ∧ ∀ k r, 1 ≤ k → ¬ Wk xs k u u r)
theorem BackIs.uniq {xs : List Nd} {u : Nat} {p q : Int × Bool} (hp : BackIs xs u p) (hq : BackIs xs u q) : p = q := by
  obtain ⟨a, b⟩ := p
  obtain ⟨c, d⟩ := q
  rcases hp with ⟨h1, ⟨k, hk, hw⟩, h2⟩ | ⟨h1, h2⟩ <;> rcases hq with ⟨g1, ⟨j, hj, gw⟩, g2⟩ | ⟨g1, g2⟩
  · have a1 := h2 j _ hj gw
    have a2 := g2 k _ hk hw
    simp only at *
    rw [h1, g1, show a = c by omega]
  · exact absurd hw (g2 k _ hk)
  · exact absurd gw (h2 j _ hj)
  · rw [h1, g1]
end Go.Proofs.Ytmhbmeckdbdhpaa

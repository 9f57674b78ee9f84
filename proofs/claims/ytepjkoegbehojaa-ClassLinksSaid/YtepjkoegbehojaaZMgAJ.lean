/- Texts joined for the claim's sake: OOrd, DDual, CCls, CTab. -/
import Derived.Test.YtepjkoegbehojaaZMgAI
import Derived.Test.YtepjkoegbehojaaZMgAE
import Derived.Test.YtepjkoegbehojaaZMgAA
import Derived.Test.YtepjkoegbehojaaZMgAF
/- Priorities along a table: how far edges rise, walks along edges, the way back that rises least. No program. -/
namespace Go.Proofs.Ytepjkoegbehojaa
open Go.RowKit

def actB (k : Int) : Bool := !decide (k = 0) && !decide (k = 5)
/-- Where an edge of a node with the priority p comes to, and how far it rises; none, if that does not act. -/
def jumpP (xs : List Nd) (p : Int) (e : Ed) : Option (Int × Int) :=
  match nodeAt xs (resolveL xs e).1 with
  | none => none
  | some y => if actB y.kind then some ((resolveL xs e).1, wrap64 (wrap64 (y.prio + (resolveL xs e).2) - p)) else none
def allE (x : Nd) : List Ed := x.next ++ (if x.chan then [x.pay] else [])
def lowE (xs : List Nd) (p : Int) (e : Ed) : Bool := match jumpP xs p e with | some (_, r) => decide (r < 1) | none => false
def lowB (xs : List Nd) (x : Nd) : Bool := actB x.kind && (allE x).any (lowE xs x.prio)
def firstLow (xs : List Nd) : List Nd → Nat → Int × Int
  | [], _ => (-1, 0)
  | x :: l, k => if lowB xs x then ((k : Int), 10) else firstLow xs l (k + 1)
def orderL (xs : List Nd) : Int × Int := if (checkL xs).2 = 0 then firstLow xs xs 0 else checkL xs
def jumpA (xs : List Nd) (fr : Int) (e : Ed) : Int × Bool :=
  if (checkL xs).2 = 0 ∧ nodeB xs.length e.1 = true then
    (match nodeAt xs fr with
     | none => (0, false)
     | some x => match jumpP xs x.prio e with | some (_, r) => (r, true) | none => (0, false))
  else (0, false)

/-! ### a table whose Check is OK -/
structure OKT (xs : List Nd) : Prop where
  pos : 0 < xs.length
  le : xs.length ≤ 64
  good : ∀ x ∈ xs, Good xs.length x
  found : ∀ j, j < xs.length → lostB xs j = false
theorem ill_all {n : Nat} : ∀ {l : List Nd} {k : Nat}, (firstIll n l k).2 = 0 → ∀ x ∈ l, illN n x = 0
  | [], _, _, x, hx => by cases hx
  | y :: l, k, h, x, hx => by
    by_cases hy : illN n y = 0
    · simp only [firstIll, hy, if_true] at h
      rcases List.mem_cons.1 hx with rfl | hx
      · exact hy
      · exact ill_all h x hx
    · simp only [firstIll, hy, if_false] at h
theorem ill_facts {n : Nat} {x : Nd} (h : illN n x = 0) : headB x = true ∧ (∀ e ∈ edgesL x, 0 ≤ e.2 ∧ e.2 ≤ 1000) ∧ (∀ e ∈ edgesL x, 0 ≤ e.1 ∧ e.1 < n) := by
  have hs : shapeB x = true := by
    cases hb : shapeB x with
    | true => rfl
    | false => simp [illN, hb] at h
  have hi : (edgesL x).all (inB n) = true := by
    cases hb : (edgesL x).all (inB n) with
    | true => rfl
    | false => simp [illN, hs, hb] at h
  unfold shapeB at hs
  rw [Bool.and_eq_true] at hs
  refine ⟨hs.1, fun e he => ?_, fun e he => ?_⟩
  · have := List.all_eq_true.1 hs.2 e he
    simpa [shiftB, withinB] using this
  · exact nodeB_true.1 (List.all_eq_true.1 hi e he)
theorem head_facts {x : Nd} (h : headB x = true) : (0 ≤ x.kind ∧ x.kind ≤ 5) ∧ (0 ≤ x.prio ∧ x.prio ≤ 1000) ∧ x.next.length ≤ 8 ∧ (actB x.kind = true → 1 ≤ x.next.length) := by
  simp only [headB, kindB, withinB, Bool.and_eq_true, decide_eq_true_eq, leastN, mostN, mostP] at h
  obtain ⟨⟨⟨hk, hl⟩, hp⟩, _⟩ := h
  refine ⟨hk, ⟨hp.1, ?_⟩, ?_, fun ha => ?_⟩
  · have := of_decide_eq_true hp.2
    split at this <;> omega
  · have := of_decide_eq_true hl.2
    split at this
    · omega
    · split at this <;> omega
  · simp only [actB, Bool.and_eq_true, Bool.not_eq_true', decide_eq_false_iff_not] at ha
    have := of_decide_eq_true hl.1
    rw [if_neg ha.1] at this
    omega
theorem good_ill {n : Nat} {x : Nd} (h : illN n x = 0) : Good n x := ⟨h, (head_facts (ill_facts h).1).2.2.1⟩
theorem okt_of {xs : List Nd} (h : (checkL xs).2 = 0) : OKT xs := by
  by_cases h0 : xs.length = 0
  · rw [check_0 h0] at h; cases h
  · by_cases h1 : 64 < xs.length
    · rw [check_1 h1] at h; cases h
    · by_cases hi : (firstIll xs.length xs 0).2 = 0
      · by_cases hl : firstLost xs xs.length 0 < 0
        · refine ⟨by omega, by omega, fun x hx => good_ill (ill_all hi x hx), ?_⟩
          rcases least_lost xs xs.length with hn | ⟨k, hk, h3, h4⟩
          · exact hn
          · rw [firstLost_here hk h4 h3] at hl; omega
        · rw [check_4 (by omega) (by omega) hi hl] at h; cases h
      · rw [check_2 (by omega) (by omega) hi] at h; exact absurd h hi
theorem okt_check {xs : List Nd} (h : (checkL xs).2 = 0) : checkL xs = (-1, 0) := by
  have hk := okt_of h
  rcases least_lost xs xs.length with hn | ⟨k, hk2, h3, h4⟩
  · exact check_3 hk.pos hk.le (by rw [firstIll_none (fun j x _ hx => (hk.good x (List.mem_of_getElem? hx)).1)]) (by rw [firstLost_none hn]; decide)
  · rw [hk.found k hk2] at h3; cases h3
theorem OKT.check {xs : List Nd} (hk : OKT xs) : checkL xs = (-1, 0) :=
  check_3 hk.pos hk.le (by rw [firstIll_none (fun j x _ hx => (hk.good x (List.mem_of_getElem? hx)).1)]) (by rw [firstLost_none hk.found]; decide)

theorem wrap_in {a : Int} (h0 : -9223372036854775808 ≤ a) (h1 : a ≤ 9223372036854775807) : wrap64 a = a := IntWalk.wrap64_in _ ⟨by omega, by omega⟩
/-- Offsets along a way. -/
theorem way_off {xs : List Nd} (hg : ∀ x ∈ xs, Good xs.length x) : ∀ {f : Nat} {t s : Ed}, 0 ≤ t.2 → t.2 + 1000 * f ≤ 1000000000 → s ∈ wayL xs f t → t.2 ≤ s.2 ∧ s.2 ≤ t.2 + 1000 * f
  | 0, t, s, _, _, h => by simp [wayL] at h
  | f + 1, t, s, h0, h1, h => by
    cases hn : nodeAt xs t.1 with
    | none => rw [wayL_none hn] at h; simp at h
    | some x =>
      cases ho : onlyNext x with
      | none => rw [wayL_end hn ho] at h; obtain rfl := List.mem_singleton.1 h; omega
      | some e =>
        rw [wayL_next hn ho] at h
        rcases List.mem_cons.1 h with rfl | h
        · omega
        · have hk5 : x.kind = 5 := by
            unfold onlyNext at ho
            split at ho
            · assumption
            · cases ho
          obtain ⟨e', _, ho', hok⟩ := good_one (hg x (List.mem_of_getElem? (nodeAt_some hn).2.2)) hk5
          rw [ho] at ho'
          cases ho'
          have hw : (stepT t e).2 = t.2 + e.2 := by
            show wrap64 (t.2 + e.2) = _
            have := hok.2.2
            exact wrap_in (by omega) (by omega)
          have := hok.2.2
          have := way_off hg (f := f) (t := stepT t e) (s := s) (by rw [hw]; omega) (by rw [hw]; omega) h
          rw [hw] at this
          omega
/-- What a node comes to. -/
theorem OKT.goal {xs : List Nd} (hk : OKT xs) {t : Int} (h0 : 0 ≤ t) (h1 : t < xs.length) : ∃ (m : Nat) (y : Nd) (s : Int), xs[m]? = some y ∧ y.kind ≠ 5 ∧ 0 ≤ s ∧ s ≤ 64000 ∧ m < xs.length ∧ ∀ o, -1000000000 ≤ o → o ≤ 1000000000 → resolveL xs (t, o) = ((m : Int), s + o) := by
  obtain ⟨i, rfl⟩ : ∃ i : Nat, t = i := ⟨t.toNat, by omega⟩
  rcases resolve_at xs ((i : Int), 0) with h | ⟨y, hy, hk5⟩
  · have := (lost_iff xs i).1 (by rw [h]; decide)
    rw [hk.found i (by omega)] at this
    cases this
  · obtain ⟨a0, a1, a2⟩ := nodeAt_some hy
    have hm : resolveL xs ((i : Int), 0) ∈ wayL xs xs.length ((i : Int), 0) := by
      rcases pick_some (xs := xs) (L := wayL xs xs.length ((i : Int), 0)) with h | ⟨h, _⟩
      · have h2 : resolveL xs ((i : Int), 0) = (-1, 0) := h
        rw [h2] at a0
        simp at a0
      · exact h
    have hw := way_off hk.good (by simp) (by have := hk.le; simp; omega) hm
    simp only at hw
    have hle := hk.le
    refine ⟨(resolveL xs ((i : Int), 0)).1.toNat, y, (resolveL xs ((i : Int), 0)).2, a2, hk5, by omega, by omega, by omega, fun o ho0 ho1 => ?_⟩
    have := resolve_shift o rfl hy
    simp only at this
    rw [wrap_in (by omega) (by omega), Int.zero_add] at this
    rw [this, wrap_in (by omega) (by omega)]
    ext <;> simp; omega
theorem OKT.end_ {xs : List Nd} {m : Nat} {y : Nd} (hk : OKT xs) (hy : xs[m]? = some y) : (0 ≤ y.kind ∧ y.kind ≤ 5) ∧ (0 ≤ y.prio ∧ y.prio ≤ 1000) ∧ y.next.length ≤ 8 ∧ (actB y.kind = true → 1 ≤ y.next.length) :=
  head_facts (ill_facts (hk.good y (List.mem_of_getElem? hy)).1).1
theorem mem_edges {x : Nd} {e : Ed} : e ∈ edgesL x ↔ e ∈ allE x := by
  unfold edgesL allE
  simp only [List.mem_append]
  exact Or.comm
theorem OKT.edge {xs : List Nd} (hk : OKT xs) {u : Nat} {x : Nd} {e : Ed} (hx : xs[u]? = some x) (he : e ∈ allE x) : 0 ≤ e.1 ∧ e.1 < xs.length ∧ 0 ≤ e.2 ∧ e.2 ≤ 1000 := by
  have h := ill_facts (hk.good x (List.mem_of_getElem? hx)).1
  have a := h.2.1 e (mem_edges.2 he)
  have b := h.2.2 e (mem_edges.2 he)
  omega
/-- How far an edge of a table rises. -/
theorem OKT.jump {xs : List Nd} (hk : OKT xs) {u : Nat} {x : Nd} {e : Ed} (hx : xs[u]? = some x) (he : e ∈ allE x) :
    ∃ (m : Nat) (y : Nd) (s : Int), xs[m]? = some y ∧ y.kind ≠ 5 ∧ m < xs.length ∧ 0 ≤ s ∧ s ≤ 65000 ∧ (∀ o, 0 ≤ o → o ≤ 100000000 → resolveL xs (e.1, o + e.2) = ((m : Int), s + o)) ∧ (resolveL xs (e.1, 0)).1 = (m : Int) ∧
      jumpP xs x.prio e = if y.kind = 0 then none else some ((m : Int), y.prio + s - x.prio) := by
  obtain ⟨h0, h1, h2, h3⟩ := hk.edge hx he
  obtain ⟨m, y, s, hy, hk5, hs0, hs1, hm, hr⟩ := hk.goal h0 h1
  refine ⟨m, y, s + e.2, hy, hk5, hm, by omega, by omega, fun o ho0 ho1 => by rw [hr _ (by omega) (by omega)]; congr 1; omega, by rw [hr 0 (by omega) (by omega)], ?_⟩
  have hre : resolveL xs e = ((m : Int), s + e.2) := hr e.2 (by omega) (by omega)
  have hn : nodeAt xs (m : Int) = some y := nodeAt_nat.trans hy
  unfold jumpP
  rw [hre]
  simp only [hn]
  have hp := (hk.end_ hy).2.1
  have hx1 := (hk.end_ hx).2.1
  rw [wrap_in (a := y.prio + (s + e.2)) (by omega) (by omega), wrap_in (by omega) (by omega)]
  by_cases hy0 : y.kind = 0
  · simp [actB, hy0]
  · simp [actB, hy0, hk5]

/-! ### the order -/
theorem low_all {xs : List Nd} : ∀ {l : List Nd} {k : Nat}, (firstLow xs l k).2 = 0 → ∀ x ∈ l, lowB xs x = false
  | [], _, _, x, hx => by cases hx
  | y :: l, k, h, x, hx => by
    by_cases hy : lowB xs y = true
    · simp [firstLow, hy] at h
    · simp only [firstLow, hy] at h
      rcases List.mem_cons.1 hx with rfl | hx
      · simpa using hy
      · exact low_all h x hx
theorem firstLow_none {xs : List Nd} : ∀ {l : List Nd} {k : Nat}, (∀ x ∈ l, lowB xs x = false) → firstLow xs l k = (-1, 0)
  | [], _, _ => rfl
  | y :: l, k, h => by
    simp only [firstLow, h y List.mem_cons_self]
    exact firstLow_none (fun x hx => h x (List.mem_cons_of_mem _ hx))
theorem firstLow_here {xs : List Nd} {x : Nd} : ∀ {l : List Nd} {i k : Nat}, l[i]? = some x → (∀ j y, j < i → l[j]? = some y → lowB xs y = false) → lowB xs x = true → firstLow xs l k = (((k + i : Nat) : Int), 10)
  | [], i, k, h, _, _ => by simp at h
  | y :: l, 0, k, h, _, hx => by
    simp only [List.getElem?_cons_zero, Option.some.injEq] at h
    subst h
    simp [firstLow, hx]
  | y :: l, i + 1, k, h, hb, hx => by
    rw [List.getElem?_cons_succ] at h
    have hy := hb 0 y (by omega) rfl
    simp only [firstLow, hy]
    have := firstLow_here (k := k + 1) h (fun j z hj hz => hb (j + 1) z (by omega) (by rw [List.getElem?_cons_succ]; exact hz)) hx
    rw [show k + (i + 1) = k + 1 + i by omega]
    exact this
/-- A table whose order is OK. -/
structure ORD (xs : List Nd) : Prop where
  ok : OKT xs
  low : ∀ x ∈ xs, lowB xs x = false
theorem ord_of {xs : List Nd} (h : (orderL xs).2 = 0) : ORD xs := by
  unfold orderL at h
  by_cases hc : (checkL xs).2 = 0
  · rw [if_pos hc] at h
    exact ⟨okt_of hc, low_all h⟩
  · rw [if_neg hc] at h; exact absurd h hc
theorem ORD.order {xs : List Nd} (h : ORD xs) : orderL xs = (-1, 0) := by
  unfold orderL
  rw [h.ok.check, if_pos rfl]
  exact firstLow_none h.low
/-- An edge that rises. -/
theorem ORD.rise {xs : List Nd} (h : ORD xs) {u : Nat} {x : Nd} {e : Ed} {v d : Int} (hx : xs[u]? = some x) (ha : actB x.kind = true) (he : e ∈ allE x) (hj : jumpP xs x.prio e = some (v, d)) : 1 ≤ d ∧ d ≤ 66000 ∧ 0 ≤ v ∧ v < xs.length ∧ ∃ y, xs[v.toNat]? = some y ∧ actB y.kind = true := by
  have hl := h.low x (List.mem_of_getElem? hx)
  unfold lowB at hl
  rw [ha, Bool.true_and, List.any_eq_false] at hl
  have hle := hl e he
  simp only [lowE, hj, decide_eq_true_eq] at hle
  obtain ⟨m, y, s, hy, hk5, hm, hs0, hs1, _, _, hjm⟩ := h.ok.jump hx he
  rw [hjm] at hj
  by_cases hy0 : y.kind = 0
  · rw [if_pos hy0] at hj; cases hj
  · rw [if_neg hy0] at hj
    simp only [Option.some.injEq, Prod.mk.injEq] at hj
    have a := (h.ok.end_ hy).2.1
    have b := (h.ok.end_ hx).2.1
    refine ⟨by omega, by omega, by omega, by omega, y, ?_, by simp [actB, hy0, hk5]⟩
    rw [← hj.1]; simpa using hy

/-- An edge along which one goes on. -/
def Eg (xs : List Nd) (u v : Nat) (d : Int) : Prop := ∃ x e, xs[u]? = some x ∧ actB x.kind = true ∧ e ∈ x.next ∧ jumpP xs x.prio e = some ((v : Int), d)
theorem ORD.eg {xs : List Nd} (h : ORD xs) {u v : Nat} {d : Int} (he : Eg xs u v d) : 1 ≤ d ∧ d ≤ 66000 ∧ v < xs.length ∧ u < xs.length ∧ ∃ y, xs[v]? = some y ∧ actB y.kind = true := by
  obtain ⟨x, e, hx, ha, hm, hj⟩ := he
  obtain ⟨h1, h2, h3, h4, h5⟩ := h.rise hx ha (List.mem_append_left _ hm) hj
  exact ⟨h1, h2, by omega, (List.getElem?_eq_some_iff.1 hx).1, by simpa using h5⟩

/-- A walk of k edges. -/
inductive Wk (xs : List Nd) : Nat → Nat → Nat → Int → Prop
  | zero (u : Nat) : Wk xs 0 u u 0
  | snoc {k u v z : Nat} {s d : Int} : Wk xs k u v s → Eg xs v z d → Wk xs (k + 1) u z (s + d)
theorem Wk.trans {xs : List Nd} {a u v : Nat} {s : Int} (h : Wk xs a u v s) : ∀ {b z : Nat} {t : Int}, Wk xs b v z t → Wk xs (a + b) u z (s + t) := fun {b z t} h2 => by
  induction h2 with
  | zero => simpa using h
  | snoc _ he ih => rw [← Nat.add_assoc, ← Int.add_assoc]; exact (ih h).snoc he
theorem Wk.fns {xs : List Nd} {k u v : Nat} {s : Int} (h : Wk xs k u v s) : ∃ (P : Nat → Nat) (R : Nat → Int), P 0 = u ∧ R 0 = 0 ∧ P k = v ∧ R k = s ∧ ∀ i, i < k → Eg xs (P i) (P (i + 1)) (R (i + 1) - R i) := by
  induction h with
  | zero u => exact ⟨fun _ => u, fun _ => 0, rfl, rfl, rfl, rfl, fun i hi => by omega⟩
  | @snoc k u v z s d _ he ih =>
    obtain ⟨P, R, h0, h1, h2, h3, h4⟩ := ih
    refine ⟨fun i => if i = k + 1 then z else P i, fun i => if i = k + 1 then s + d else R i, by simp [h0], by simp [h1], by simp, by simp, fun i hi => ?_⟩
    by_cases e : i = k
    · subst e
      have : ¬ i = i + 1 := by omega
      simp only [this, if_false, if_true]
      rw [h2, h3, show s + d - s = d by omega]
      exact he
    · have a : ¬ i = k + 1 := by omega
      have b : ¬ i + 1 = k + 1 := by omega
      simp only [a, b, if_false]
      exact h4 i (by omega)
theorem Wk.of_fns {xs : List Nd} {k : Nat} {P : Nat → Nat} {R : Nat → Int} (h : ∀ i, i < k → Eg xs (P i) (P (i + 1)) (R (i + 1) - R i)) : ∀ j i, i + j ≤ k → Wk xs j (P i) (P (i + j)) (R (i + j) - R i)
  | 0, i, _ => by simpa using Wk.zero (xs := xs) (P i)
  | j + 1, i, hj => by
    have := (Wk.of_fns h j i (by omega)).snoc (h (i + j) (by omega))
    rw [show R (i + j) - R i + (R (i + j + 1) - R (i + j)) = R (i + j + 1) - R i by omega] at this
    exact this
theorem pigeon : ∀ (n : Nat) (f : Nat → Nat), (∀ i, i ≤ n → f i < n) → ∃ i j, i < j ∧ j ≤ n ∧ f i = f j
  | 0, f, h => absurd (h 0 (Nat.le_refl _)) (by omega)
  | n + 1, f, h => by
    by_cases hc : ∃ i, i ≤ n ∧ f i = f (n + 1)
    · obtain ⟨i, hi, he⟩ := hc
      exact ⟨i, n + 1, by omega, Nat.le_refl _, he⟩
    · have hne : ∀ i, i ≤ n → f i ≠ f (n + 1) := fun i hi e => hc ⟨i, hi, e⟩
      have hm := h (n + 1) (Nat.le_refl _)
      obtain ⟨i, j, hij, hj, he⟩ := pigeon n (fun i => if f i = n then f (n + 1) else f i) (fun i hi => by
        have h1 := hne i hi
        have h2 := h i (by omega)
        by_cases e : f i = n
        · simp only [e, if_true]; omega
        · simp only [e, if_false]; omega)
      refine ⟨i, j, hij, by omega, ?_⟩
      have h1 := hne i (by omega)
      have h2 := hne j (by omega)
      by_cases e1 : f i = n <;> by_cases e2 : f j = n
      · omega
      · rw [if_pos e1, if_neg e2] at he; omega
      · rw [if_neg e1, if_pos e2] at he; omega
      · rw [if_neg e1, if_neg e2] at he; exact he
theorem Wk.pos {xs : List Nd} (h : ORD xs) {k u v : Nat} {s : Int} (hw : Wk xs k u v s) : (k : Int) ≤ s := by
  induction hw with
  | zero => simp
  | snoc _ he ih => have := (h.eg he).1; omega
/-- Each walk has one of no more edges than there are nodes beside it that rises no more. -/
theorem Wk.short {xs : List Nd} (h : ORD xs) {u v : Nat} : ∀ (k : Nat) {s : Int}, Wk xs k u v s → 1 ≤ k → ∃ k' s', 1 ≤ k' ∧ k' ≤ xs.length ∧ s' ≤ s ∧ Wk xs k' u v s' := fun k => by
  induction k using Nat.strongRecOn with
  | ind k ih =>
    intro s hw hk
    by_cases hle : k ≤ xs.length
    · exact ⟨k, s, hk, hle, Int.le_refl _, hw⟩
    · obtain ⟨P, R, h0, h1, h2, h3, h4⟩ := hw.fns
      obtain ⟨i, j, hij, hj, he⟩ := pigeon xs.length (fun i => P (i + 1)) (fun i hi => (h.eg (h4 i (by omega))).2.2.1)
      have w1 := Wk.of_fns h4 (i + 1) 0 (by omega)
      have w2 := Wk.of_fns h4 (k - (j + 1)) (j + 1) (by omega)
      have w3 := (Wk.of_fns h4 (j - i) (i + 1) (by omega)).pos h
      rw [show i + 1 + (j - i) = j + 1 by omega] at w3
      rw [Nat.zero_add, h0, h1] at w1
      rw [show j + 1 + (k - (j + 1)) = k by omega, h2, h3, ← he] at w2
      obtain ⟨k', s', a, b, c, d⟩ := ih (i + 1 + (k - (j + 1))) (by omega) (w1.trans w2) (by omega)
      exact ⟨k', s', a, b, by omega, d⟩

/-- How far the way back rises that rises least; or that there is none. -/
def BackIs (xs : List Nd) (u : Nat) (p : Int × Bool) : Prop :=
  (p.2 = true ∧ (∃ k, 1 ≤ k ∧ Wk xs k u u p.1) ∧ ∀ k r, 1 ≤ k → Wk xs k u u r → p.1 ≤ r) ∨ (p = (0, false) ∧ ∀ k r, 1 ≤ k → ¬ Wk xs k u u r)
theorem BackIs.uniq {xs : List Nd} {u : Nat} {p q : Int × Bool} (hp : BackIs xs u p) (hq : BackIs xs u q) : p = q := by
  obtain ⟨a, b⟩ := p
  obtain ⟨c, d⟩ := q
  rcases hp with ⟨h1, ⟨k, hk, hw⟩, h2⟩ | ⟨h1, h2⟩ <;> rcases hq with ⟨g1, ⟨j, hj, gw⟩, g2⟩ | ⟨g1, g2⟩
  · have a1 := h2 j _ hj gw
    have a2 := g2 k _ hk hw
    simp only at *
    rw [h1, g1, show a = c by omega]
  · exact absurd hw (g2 k _ hk)
  · exact absurd gw (h2 j _ hj)
  · rw [h1, g1]
end Go.Proofs.Ytepjkoegbehojaa

/- Dual tables as plain lists: the dual table, mates, what types come to there. No program. -/
namespace Go.Proofs.Ytepjkoegbehojaa
open Go.RowKit

def dualK (k : Int) : Int := if k = 1 then 2 else if k = 2 then 1 else if k = 3 then 4 else if k = 4 then 3 else k
theorem dualK_5 (k : Int) : dualK k = 5 ↔ k = 5 := by unfold dualK; repeat' split
                                                      all_goals omega
theorem dualK_twice (k : Int) : dualK (dualK k) = k := by
  by_cases h1 : k = 1
  · subst h1; rfl
  · by_cases h2 : k = 2
    · subst h2; rfl
    · by_cases h3 : k = 3
      · subst h3; rfl
      · by_cases h4 : k = 4
        · subst h4; rfl
        · simp [dualK, h1, h2, h3, h4]
def upE (n : Nat) (e : Ed) : Ed := (e.1 + n, e.2)
def turnN (x : Nd) : Nd := { x with kind := dualK x.kind }
def dualN (n : Nat) (x : Nd) : Nd := { x with kind := dualK x.kind, next := x.next.map (upE n) }
def twoL (xs : List Nd) : List Nd := xs ++ xs.map (dualN xs.length)
def tableL (xs : List Nd) : List Nd := if (checkL xs).2 = 0 then twoL xs else []
def mateA (n node : Int) : Int := if n < 1 ∨ node < 0 ∨ 2 * n ≤ node then -1 else if node < n then node + n else node - n
def matesB (two : List Nd) (a b : Ed) : Bool :=
  decide (two.length % 2 = 0) && (decide (0 ≤ (resolveL two a).1) && (decide (0 ≤ (resolveL two b).1) && (decide (mateA ((two.length / 2 : Nat) : Int) (resolveL two a).1 = (resolveL two b).1) && decide ((resolveL two a).2 = (resolveL two b).2))))

theorem twoL_len (xs : List Nd) : (twoL xs).length = 2 * xs.length := by unfold twoL; rw [List.length_append, List.length_map]; omega
theorem tableL_ok {xs : List Nd} (h : (checkL xs).2 = 0) : tableL xs = twoL xs := by unfold tableL; rw [if_pos h]
theorem tableL_not {xs : List Nd} (h : (checkL xs).2 ≠ 0) : tableL xs = [] := by unfold tableL; rw [if_neg h]

/-- Of the first half, or of the second one. -/
def upS (n : Nat) (s : Bool) (e : Ed) : Ed := if s then upE n e else e
def nodeS (n : Nat) (s : Bool) (x : Nd) : Nd := if s then dualN n x else x
theorem upS_2 (n : Nat) (s : Bool) (e : Ed) : (upS n s e).2 = e.2 := by cases s <;> rfl
theorem upS_1 (n : Nat) (s : Bool) (e : Ed) : (upS n s e).1 = e.1 + (if s then (n : Int) else 0) := by cases s <;> simp [upS, upE]
theorem nodeS_5 (n : Nat) (s : Bool) (x : Nd) : (nodeS n s x).kind = 5 ↔ x.kind = 5 := by
  cases s
  · exact Iff.rfl
  · exact dualK_5 x.kind
theorem nodeS_next (n : Nat) (s : Bool) (x : Nd) : (nodeS n s x).next = x.next.map (upS n s) := by
  cases s
  · show x.next = x.next.map (fun e => e)
    simp
  · show x.next.map (upE n) = x.next.map (upE n)
    rfl
theorem nodeS_only (n : Nat) (s : Bool) (x : Nd) : onlyNext (nodeS n s x) = (onlyNext x).map (upS n s) := by
  by_cases h : x.kind = 5
  · unfold onlyNext
    rw [if_pos h, if_pos ((nodeS_5 n s x).2 h), nodeS_next]
    match x.next with
    | [] => rfl
    | [e] => rfl
    | _ :: _ :: _ => rfl
  · unfold onlyNext
    rw [if_neg h, if_neg (fun e => h ((nodeS_5 n s x).1 e))]
    rfl
section
variable {xs : List Nd}
theorem two_at {i : Nat} {x : Nd} (h : xs[i]? = some x) : (twoL xs)[i]? = some x := by
  unfold twoL
  rw [List.getElem?_append_left (List.getElem?_eq_some_iff.1 h).1]; exact h
theorem two_up {i : Nat} {x : Nd} (h : xs[i]? = some x) : (twoL xs)[xs.length + i]? = some (dualN xs.length x) := by
  unfold twoL
  rw [List.getElem?_append_right (by omega), List.getElem?_map, show xs.length + i - xs.length = i by omega, h]; rfl
theorem nodeAt_two {t : Ed} {x : Nd} (s : Bool) (h : nodeAt xs t.1 = some x) : nodeAt (twoL xs) (upS xs.length s t).1 = some (nodeS xs.length s x) := by
  obtain ⟨h0, h1, h2⟩ := nodeAt_some h
  obtain ⟨i, hi⟩ : ∃ i : Nat, t.1 = i := ⟨t.1.toNat, by omega⟩
  rw [hi] at h2
  simp only [Int.toNat_natCast] at h2
  rw [upS_1, hi]
  cases s
  · simp only [Bool.false_eq_true, if_false, Int.add_zero]
    exact nodeAt_nat.trans (two_at h2)
  · simp only [if_true]
    rw [show (i : Int) + (xs.length : Int) = ((xs.length + i : Nat) : Int) by omega]
    exact nodeAt_nat.trans (two_up h2)
theorem isAl_two {t : Ed} (s : Bool) (h0 : 0 ≤ t.1) (h1 : t.1 < xs.length) : isAl (twoL xs) (upS xs.length s t) = isAl xs t := by
  obtain ⟨x, hx, _⟩ := nodeAt_of (nodeB_true.2 ⟨h0, h1⟩)
  rw [isAl_at hx, isAl_at (nodeAt_two s hx)]
  exact decide_eq_decide.2 (nodeS_5 _ s x)
theorem way_two (hg : ∀ x ∈ xs, Good xs.length x) (s : Bool) : ∀ (f : Nat) (t : Ed), 0 ≤ t.1 → t.1 < xs.length → wayL (twoL xs) f (upS xs.length s t) = (wayL xs f t).map (upS xs.length s) ∧ ∀ u ∈ wayL xs f t, 0 ≤ u.1 ∧ u.1 < xs.length
  | 0, _, _, _ => ⟨rfl, fun u hu => by cases hu⟩
  | f + 1, t, h0, h1 => by
    obtain ⟨x, hx, hxi⟩ := nodeAt_of (nodeB_true.2 ⟨h0, h1⟩)
    have hx2 := nodeAt_two s hx
    have ho := nodeS_only xs.length s x
    cases hn : onlyNext x with
    | none =>
      rw [hn] at ho
      rw [wayL_end hx hn, wayL_end hx2 ho]
      exact ⟨rfl, fun u hu => by rcases List.mem_singleton.1 hu with rfl; exact ⟨h0, h1⟩⟩
    | some e =>
      rw [hn] at ho
      rw [wayL_next hx hn, wayL_next hx2 ho]
      have hk : x.kind = 5 := by
        apply Classical.byContradiction
        intro hk
        unfold onlyNext at hn
        rw [if_neg hk] at hn
        cases hn
      obtain ⟨e', _, he2, hed⟩ := good_one (hg x (List.mem_of_getElem? hxi)) hk
      obtain rfl : e' = e := by rw [hn] at he2; exact (Option.some.inj he2).symm
      have es : stepT (upS xs.length s t) (upS xs.length s e') = upS xs.length s (stepT t e') := by cases s <;> rfl
      obtain ⟨i1, i2⟩ := way_two hg s f (stepT t e') hed.1 hed.2.1
      rw [es, i1]
      refine ⟨rfl, fun u hu => ?_⟩
      rcases List.mem_cons.1 hu with rfl | hu
      · exact ⟨h0, h1⟩
      · exact i2 u hu
theorem pick_two (s : Bool) : ∀ (L : List Ed), (∀ u ∈ L, 0 ≤ u.1 ∧ u.1 < xs.length) → 0 ≤ (pickL xs L).1 → pickL (twoL xs) (L.map (upS xs.length s)) = upS xs.length s (pickL xs L)
  | [], _, h => by simp [pickL] at h
  | t :: L, hr, h => by
    have ht := hr t List.mem_cons_self
    have ha := isAl_two (xs := xs) s ht.1 ht.2
    cases hb : isAl xs t with
    | true =>
      simp only [List.map_cons, pickL, ha, hb, if_true] at h ⊢
      exact pick_two s L (fun u hu => hr u (List.mem_cons_of_mem _ hu)) h
    | false => simp only [List.map_cons, pickL, ha, hb, Bool.false_eq_true, if_false]
theorem pick_fuel (t : Ed) (k : Nat) : pickL xs (wayL xs (xs.length + k) t) = resolveL xs t := by
  induction k with
  | zero => rfl
  | succ k ih =>
    rw [← ih]
    cases h : ends xs (xs.length + k) t.1 with
    | true => exact pick_true h
    | false =>
      have h2 : ends xs (xs.length + (k + 1)) t.1 = false := by rw [ends_more]; rw [ends_more] at h; exact h
      rw [pick_false h, pick_false h2]
/-- What types of a dual table come to. -/
theorem resolve_two (hk : OKT xs) {t : Ed} (s : Bool) (h0 : 0 ≤ t.1) (h1 : t.1 < xs.length) (hr : 0 ≤ (resolveL xs t).1) : resolveL (twoL xs) (upS xs.length s t) = upS xs.length s (resolveL xs t) := by
  have hw := way_two hk.good s (2 * xs.length) t h0 h1
  have hp : pickL xs (wayL xs (2 * xs.length) t) = resolveL xs t := by
    rw [show 2 * xs.length = xs.length + xs.length by omega]; exact pick_fuel t _
  unfold resolveL
  rw [twoL_len, hw.1, pick_two s _ hw.2 (by rw [hp]; exact hr), hp]
  rfl
/-- A step of the walk: where both stand, and what they do there. -/
theorem dual_step (hk : OKT xs) {t o : Int} (h0 : 0 ≤ t) (h1 : t < xs.length) (o0 : -1000000000 ≤ o) (o1 : o ≤ 1000000000) :
    ∃ (m : Nat) (y : Nd) (d : Int), xs[m]? = some y ∧ y.kind ≠ 5 ∧ m < xs.length ∧ 0 ≤ d ∧ d ≤ 64000 ∧ ∀ s : Bool, resolveL (twoL xs) (t + (if s then (xs.length : Int) else 0), o) = ((m : Int) + (if s then (xs.length : Int) else 0), d + o) := by
  obtain ⟨m, y, d, hy, h5, d0, d1, hm, hr⟩ := hk.goal h0 h1
  have hro := hr o o0 o1
  refine ⟨m, y, d, hy, h5, hm, d0, d1, fun s => ?_⟩
  have h2 := resolve_two hk (t := (t, o)) s h0 h1 (by rw [hro]; show (0 : Int) ≤ m; omega)
  rw [hro] at h2
  have e1 : upS xs.length s (t, o) = (t + (if s then (xs.length : Int) else 0), o) := Prod.ext (upS_1 _ _ _) (upS_2 _ _ _)
  have e2 : upS xs.length s ((m : Int), d + o) = ((m : Int) + (if s then (xs.length : Int) else 0), d + o) := Prod.ext (upS_1 _ _ _) (upS_2 _ _ _)
  rw [e1, e2] at h2
  exact h2
end
theorem mate_low {n m : Int} (h : 1 ≤ n) (h0 : 0 ≤ m) (h1 : m < n) : mateA n m = m + n := by unfold mateA; rw [if_neg (by omega), if_pos h1]
theorem mate_high {n m : Int} (h : 1 ≤ n) (h0 : n ≤ m) (h1 : m < 2 * n) : mateA n m = m - n := by unfold mateA; rw [if_neg (by omega), if_neg (by omega)]
/-- Mates, told of both halves. -/
theorem mate_s {n m : Int} (h : 1 ≤ n) (h0 : 0 ≤ m) (h1 : m < n) (s : Bool) : mateA n (m + (if s then n else 0)) = m + (if s then 0 else n) := by
  cases s
  · simp only [Bool.false_eq_true, if_false, Int.add_zero]
    exact mate_low h h0 h1
  · simp only [if_true, Int.add_zero]
    rw [mate_high h (by omega) (by omega)]; omega
theorem mates_s {xs : List Nd} (hk : OKT xs) {t o : Int} (h0 : 0 ≤ t) (h1 : t < xs.length) (o0 : -1000000000 ≤ o) (o1 : o ≤ 1000000000) (s r : Bool) :
    matesB (twoL xs) (t + (if s then (xs.length : Int) else 0), o) (t + (if r then (xs.length : Int) else 0), o) = (s != r) := by
  obtain ⟨m, y, d, _, _, hm, d0, d1, hr⟩ := dual_step hk h0 h1 o0 o1
  have hp := hk.pos
  unfold matesB
  rw [hr s, hr r, twoL_len, decide_eq_true (by omega : 2 * xs.length % 2 = 0), show 2 * xs.length / 2 = xs.length by omega, mate_s (by omega) (by omega) (by omega) s]
  simp only [Bool.true_and, decide_true, Bool.and_true]
  cases s <;> cases r <;> simp <;> omega

/-! ### the dual of the dual -/
section
variable {f : Nd → Nd} (hk : ∀ x, (f x).kind = 5 ↔ x.kind = 5) (hn : ∀ x, (f x).next = x.next) {xs : List Nd}
theorem nodeAt_mapD (f : Nd → Nd) (xs : List Nd) (i : Int) : nodeAt (xs.map f) i = (nodeAt xs i).map f := by unfold nodeAt; split <;> simp
include hk in
theorem isAl_turned (t : Ed) : isAl (xs.map f) t = isAl xs t := by
  unfold isAl
  rw [nodeAt_mapD]
  cases nodeAt xs t.1 with
  | none => rfl
  | some x => exact decide_eq_decide.2 (hk x)
include hk hn in
theorem way_turned : ∀ (k : Nat) (t : Ed), wayL (xs.map f) k t = wayL xs k t
  | 0, _ => rfl
  | k + 1, t => by
    cases h : nodeAt xs t.1 with
    | none => rw [wayL_none h, wayL_none (by rw [nodeAt_mapD, h]; rfl)]
    | some x =>
      have h2 : nodeAt (xs.map f) t.1 = some (f x) := by rw [nodeAt_mapD, h]; rfl
      have ho : onlyNext (f x) = onlyNext x := by
        unfold onlyNext
        rw [hn]
        by_cases h5 : x.kind = 5
        · rw [if_pos h5, if_pos ((hk x).2 h5)]
        · rw [if_neg h5, if_neg (fun e => h5 ((hk x).1 e))]
      cases hx : onlyNext x with
      | none => rw [wayL_end h hx, wayL_end h2 (by rw [ho, hx])]
      | some e => rw [wayL_next h hx, wayL_next h2 (by rw [ho, hx]), way_turned k]
include hk hn in
theorem lost_turned (i : Nat) : lostB (xs.map f) i = lostB xs i := by
  unfold lostB
  rw [List.length_map, way_turned hk hn, show isAl (xs.map f) = isAl xs from funext (isAl_turned hk)]
end
theorem head_turn (x : Nd) : headB (turnN x) = headB x := by
  unfold headB turnN
  simp only
  by_cases h1 : x.kind = 1
  · rw [h1]; rfl
  · by_cases h2 : x.kind = 2
    · rw [h2]; rfl
    · by_cases h3 : x.kind = 3
      · rw [h3]; rfl
      · by_cases h4 : x.kind = 4
        · rw [h4]; rfl
        · rw [show dualK x.kind = x.kind by simp [dualK, h1, h2, h3, h4]]
theorem ill_turn (n : Nat) (x : Nd) : illN n (turnN x) = illN n x := by
  unfold illN shapeB
  rw [head_turn]
  rfl
theorem okt_turn {xs : List Nd} (hk : OKT xs) : OKT (xs.map turnN) := by
  refine ⟨by rw [List.length_map]; exact hk.pos, by rw [List.length_map]; exact hk.le, fun y hy => ?_, fun j hj => ?_⟩
  · obtain ⟨x, hx, rfl⟩ := List.mem_map.1 hy
    have hg := hk.good x hx
    rw [List.length_map]
    exact ⟨by rw [ill_turn]; exact hg.1, hg.2⟩
  · rw [List.length_map] at hj
    rw [lost_turned (f := turnN) (fun x => dualK_5 x.kind) (fun _ => rfl)]
    exact hk.found j hj
/-- The second half of the second half. -/
theorem twice_at {xs : List Nd} {i : Nat} {x : Nd} (h : xs[i]? = some x) : (twoL (xs.map turnN))[xs.length + i]? = some { x with next := x.next.map (upE xs.length) } := by
  have h2 : (xs.map turnN)[i]? = some (turnN x) := by rw [List.getElem?_map, h]; rfl
  have h3 := two_up h2
  rw [List.length_map] at h3
  rw [h3]
  show some ({ x with kind := dualK (dualK x.kind), next := x.next.map (upE xs.length) } : Nd) = _
  rw [dualK_twice]
end Go.Proofs.Ytepjkoegbehojaa

/- Classes of a table of types and their duals, as plain lists. No program. -/
namespace Go.Proofs.Ytepjkoegbehojaa
open Go.RowKit

/-- What a table of nodes and their duals is good for. -/
structure TW (L : List Nd) : Prop where
  good : ∀ x ∈ L, (0 ≤ x.kind ∧ x.kind ≤ 5) ∧ (0 ≤ x.prio ∧ x.prio ≤ 1000) ∧ x.next.length ≤ 8
  edge : ∀ x ∈ L, ∀ e ∈ allE x, 0 ≤ e.1 ∧ e.1 < (L.length : Int) ∧ 0 ≤ e.2 ∧ e.2 ≤ 1000
  root : ∀ t : Int, 0 ≤ t → t < (L.length : Int) → ∃ (m : Nat) (y : Nd) (s : Int), L[m]? = some y ∧ y.kind ≠ 5 ∧ 0 ≤ s ∧ s ≤ 64000 ∧ ∀ o, -1000000000 ≤ o → o ≤ 1000000000 → resolveL L (t, o) = ((m : Int), s + o)
  self : ∀ (m : Nat) (y : Nd) (o : Int), L[m]? = some y → y.kind ≠ 5 → resolveL L ((m : Int), o) = ((m : Int), o)
theorem resolve_self {L : List Nd} {m : Nat} {y : Nd} (o : Int) (h : L[m]? = some y) (h5 : y.kind ≠ 5) : resolveL L ((m : Int), o) = ((m : Int), o) := by
  have hm := (List.getElem?_eq_some_iff.1 h).1
  have hn : nodeAt L (m : Int) = some y := nodeAt_nat.trans h
  have ha : isAl L ((m : Int), o) = false := by unfold isAl; rw [hn]; simp [h5]
  obtain ⟨n, hl⟩ : ∃ n, L.length = n + 1 := ⟨L.length - 1, by omega⟩
  unfold resolveL
  rw [hl]
  unfold wayL
  dsimp only
  rw [hn]
  dsimp only
  unfold pickL
  rw [ha]
  rfl
theorem tw_two {xs : List Nd} (hk : OKT xs) : TW (twoL xs) := by
  have part : ∀ x ∈ twoL xs, ∃ (u : Nat) (y : Nd), xs[u]? = some y ∧ (x = y ∨ x = dualN xs.length y) := fun x hx => by
    unfold twoL at hx
    rcases List.mem_append.1 hx with hx | hx
    · obtain ⟨u, hu⟩ := List.mem_iff_getElem?.1 hx
      exact ⟨u, x, hu, .inl rfl⟩
    · obtain ⟨y, hy, rfl⟩ := List.mem_map.1 hx
      obtain ⟨u, hu⟩ := List.mem_iff_getElem?.1 hy
      exact ⟨u, y, hu, .inr rfl⟩
  have h2 : ((twoL xs).length : Int) = 2 * (xs.length : Int) := by rw [twoL_len]; omega
  refine ⟨fun x hx => ?_, fun x hx e he => ?_, fun t h0 h1 => ?_, fun m y o hy h5 => resolve_self o hy h5⟩
  · obtain ⟨u, y, hu, rfl | rfl⟩ := part x hx
    · have := hk.end_ hu; exact ⟨this.1, this.2.1, this.2.2.1⟩
    · have := hk.end_ hu
      refine ⟨?_, this.2.1, by show (y.next.map _).length ≤ 8; rw [List.length_map]; exact this.2.2.1⟩
      have hd : (dualN xs.length y).kind = dualK y.kind := rfl
      rw [hd]
      unfold dualK
      repeat' split
      all_goals omega
  · obtain ⟨u, y, hu, rfl | rfl⟩ := part x hx
    · have := hk.edge hu he
      omega
    · unfold allE at he
      rcases List.mem_append.1 he with he | he
      · obtain ⟨f, hf, rfl⟩ := List.mem_map.1 he
        have := hk.edge hu (List.mem_append_left _ hf)
        simp only [upE]
        omega
      · have := hk.edge hu (e := e) (List.mem_append_right _ he)
        omega
  · by_cases ht : t < (xs.length : Int)
    · obtain ⟨m, y, d, hy, h5, d0, d1, _, hr⟩ := hk.goal h0 ht
      refine ⟨m, y, d, two_at hy, h5, d0, d1, fun o o0 o1 => ?_⟩
      have h3 := resolve_two hk (t := (t, o)) false h0 ht (by rw [hr o o0 o1]; show (0 : Int) ≤ (m : Int); omega)
      rw [hr o o0 o1] at h3
      exact h3
    · have ht0 : 0 ≤ t - (xs.length : Int) := by omega
      have ht1 : t - (xs.length : Int) < (xs.length : Int) := by omega
      obtain ⟨m, y, d, hy, h5, d0, d1, _, hr⟩ := hk.goal ht0 ht1
      refine ⟨xs.length + m, dualN xs.length y, d, two_up hy, fun e => h5 ((dualK_5 _).1 e), d0, d1, fun o o0 o1 => ?_⟩
      have h3 := resolve_two hk (t := (t - (xs.length : Int), o)) true ht0 ht1 (by rw [hr o o0 o1]; show (0 : Int) ≤ (m : Int); omega)
      rw [hr o o0 o1] at h3
      have e1 : upS xs.length true (t - (xs.length : Int), o) = (t, o) := by simp [upS, upE]
      have e2 : upS xs.length true ((m : Int), d + o) = (((xs.length + m : Nat) : Int), d + o) := by simp [upS, upE]; omega
      rw [e1, e2] at h3
      exact h3

def hdL (L : List Nd) (a : Nat) : Int × Bool × Nat := match L[a]? with | some x => (x.kind, x.chan, x.next.length) | none => (0, false, 0)
/-- What an edge of a node comes to, and how far it rises; 0, if that is an End. -/
def placeL (L : List Nd) (x : Nd) (e : Ed) : Nat × Int :=
  ((resolveL L e).1.toNat, match L[(resolveL L e).1.toNat]? with | some y => if y.kind = 0 then 0 else y.prio + (resolveL L e).2 - x.prio | none => 0)
def scL (L : List Nd) (a : Nat) : List (Nat × Int) := match L[a]? with | some x => (allE x).map (placeL L x) | none => []
def liveB (L : List Nd) (a : Nat) : Bool := match L[a]? with | some x => !decide (x.kind = 5) | none => false
theorem allE_len (x : Nd) : (allE x).length = x.next.length + (if x.chan then 1 else 0) := by unfold allE; split <;> simp [*]
theorem hd_len (L : List Nd) : HdLen (hdL L) (scL L) := by
  intro a b h
  unfold hdL at h
  unfold scL
  cases ha : L[a]? with
  | none =>
    cases hb : L[b]? with
    | none => rfl
    | some y =>
      rw [ha, hb] at h
      simp only [Prod.mk.injEq] at h
      dsimp only
      rw [List.length_map, allE_len, ← h.2.1, ← h.2.2]; rfl
  | some x =>
    cases hb : L[b]? with
    | none =>
      rw [ha, hb] at h
      simp only [Prod.mk.injEq] at h
      dsimp only
      rw [List.length_map, allE_len, h.2.1, h.2.2]; rfl
    | some y =>
      rw [ha, hb] at h
      simp only [Prod.mk.injEq] at h
      dsimp only
      rw [List.length_map, List.length_map, allE_len, allE_len, h.2.1, h.2.2]
section
variable {L : List Nd}
theorem live_lt {a : Nat} (h : liveB L a = true) : a < L.length := by
  unfold liveB at h
  cases ha : L[a]? with
  | none => rw [ha] at h; cases h
  | some x => exact (List.getElem?_eq_some_iff.1 ha).1
theorem live_some {a : Nat} (h : liveB L a = true) : ∃ x, L[a]? = some x ∧ x.kind ≠ 5 := by
  unfold liveB at h
  cases ha : L[a]? with
  | none => rw [ha] at h; cases h
  | some x => rw [ha] at h; exact ⟨x, rfl, by simpa using h⟩
theorem live_of {a : Nat} {x : Nd} (h : L[a]? = some x) (h5 : x.kind ≠ 5) : liveB L a = true := by unfold liveB; rw [h]; simp [h5]
/-- An edge comes to a node that is no alias. -/
theorem TW.goes (h : TW L) {x : Nd} (hx : x ∈ L) {e : Ed} (he : e ∈ allE x) : ∃ (m : Nat) (y : Nd) (s : Int), L[m]? = some y ∧ y.kind ≠ 5 ∧ 0 ≤ s ∧ s ≤ 65000 ∧ resolveL L e = ((m : Int), s) ∧ placeL L x e = (m, if y.kind = 0 then 0 else y.prio + s - x.prio) := by
  obtain ⟨h0, h1, h2, h3⟩ := h.edge x hx e he
  obtain ⟨m, y, s, hy, h5, s0, s1, hr⟩ := h.root e.1 h0 h1
  have hre : resolveL L e = ((m : Int), s + e.2) := hr e.2 (by omega) (by omega)
  refine ⟨m, y, s + e.2, hy, h5, by omega, by omega, hre, ?_⟩
  unfold placeL
  rw [hre]
  simp only [Int.toNat_natCast, hy]
theorem TW.closed (h : TW L) (a j m : Nat) (r : Int) (hs : (scL L a)[j]? = some (m, r)) : liveB L m = true := by
  unfold scL at hs
  cases ha : L[a]? with
  | none => rw [ha] at hs; simp at hs
  | some x =>
    rw [ha] at hs
    dsimp only at hs
    rw [List.getElem?_map] at hs
    obtain ⟨e, he, hp⟩ := Option.map_eq_some_iff.1 hs
    obtain ⟨m', y, s, hy, h5, _, _, _, hpl⟩ := h.goes (List.mem_of_getElem? ha) (List.mem_of_getElem? he)
    rw [hpl] at hp
    simp only [Prod.mk.injEq] at hp
    rw [← hp.1]
    exact live_of hy h5
end
/-- Whether two nodes are told apart. -/
def apL (L : List Nd) (a b : Nat) : Bool := aptK (hdL L) (scL L) L.length a b
theorem apL_iff {L : List Nd} (h : TW L) {a b : Nat} (ha : liveB L a = true) (hb : liveB L b = true) : apL L a b = true ↔ Apt (hdL L) (scL L) a b :=
  aptK_full (D := liveB L) (hd_len L) (fun _ hi => live_lt hi) (fun a j m r _ hs => h.closed a j m r hs) ha hb
theorem apL_alike {L : List Nd} (D : Nat → Prop) : Alike (fun a b => apL L a b = false) D :=
  ⟨fun a _ => aptK_refl _ a, fun _ _ _ _ h => likeK_symm h, fun _ _ _ _ _ _ h1 h2 => likeK_trans (hd_len L) h1 h2⟩

/-! ### The table of classes -/
/-- The node that a type of node i comes to, and its priority, without an offset of the type. -/
def rootL (L : List Nd) (i : Nat) : Nat := (resolveL L ((i : Int), 0)).1.toNat
def prioL (L : List Nd) (i : Nat) : Int := match L[rootL L i]? with | some y => if y.kind = 0 then 0 else y.prio + (resolveL L ((i : Int), 0)).2 | none => 0
def rootsL (L : List Nd) : List Nat := (List.range L.length).map (rootL L)
def numL (L : List Nd) : List Nat × List Nat := clsL (apL L) (rootsL L)
/-- A link: the class of what an edge comes to, how far it rises. -/
def linkL (L : List Nd) (os : List Nat) (x : Nd) (e : Ed) : Ed := (((os.getD (placeL L x e).1 0 : Nat) : Int), (placeL L x e).2)
/-- What a class tells, of the node that is its first: its Kind, its Dual, IsChan, its links. -/
def clsN (L : List Nd) (n : Nat) (os : List Nat) (m : Nat) : Nd := match L[m]? with
  | some x => ⟨x.kind, ((os.getD ((m + n) % L.length) 0 : Nat) : Int), x.chan, if x.chan then linkL L os x x.pay else (0, 0), x.next.map (linkL L os x)⟩
  | none => ⟨0, 0, false, (0, 0), []⟩
structure ClsT where
  cls : List Nd
  of_ : List Int
  prio : List Int
def clsT (xs : List Nd) : ClsT := if (orderL xs).2 = 0 then
    ⟨(numL (twoL xs)).1.map (clsN (twoL xs) xs.length (numL (twoL xs)).2), (numL (twoL xs)).2.map Int.ofNat, (List.range (twoL xs).length).map (prioL (twoL xs))⟩
  else ⟨[], [], []⟩
end Go.Proofs.Ytepjkoegbehojaa

/- Tables of classes in memory, and what is asked of them. -/
namespace Go.Proofs.Ytepjkoegbehojaa
open Go.RowKit

/-- A slice that reads as a list of ints. -/
def Ints (W : World) (v : Value) (zs : List Int) : Prop := ∃ (A : Option Addr) (c : Nat), v = .slice A zs.length c ∧ zs.length ≤ 9223372036854775807 ∧ (zs ≠ [] → ∃ b off, A = some ⟨b, off, none⟩ ∧ ∀ (i : Nat) (z : Int), zs[i]? = some z → W.cell? ⟨b, off + i, none⟩ = some (.int .i64 z))
theorem Ints.keep {W W' : World} {v : Value} {zs : List Int} (h : Ints W v zs) (hk : Keeps W W') : Ints W' v zs := by
  obtain ⟨A, c, h1, hl, h2⟩ := h
  refine ⟨A, c, h1, hl, fun hn => ?_⟩
  obtain ⟨b, off, h3, h4⟩ := h2 hn
  exact ⟨b, off, h3, fun i z hz => hk _ _ (h4 i z hz)⟩
theorem Ints.nil_ (W : World) : Ints W (.slice none 0 0) [] := ⟨none, 0, rfl, by simp, fun h => absurd rfl h⟩
/-- A value that reads as a table of classes. -/
def TabV (W : World) (v : Value) (T : ClsT) : Prop := ∃ vc vo vp, v = .agg #[vc, vo, vp] ∧ Tbl W vc T.cls ∧ Ints W vo T.of_ ∧ Ints W vp T.prio
theorem TabV.keep {W W' : World} {v : Value} {T : ClsT} (h : TabV W v T) (hk : Keeps W W') : TabV W' v T := by
  obtain ⟨vc, vo, vp, h1, h2, h3, h4⟩ := h
  exact ⟨vc, vo, vp, h1, h2.keep hk, h3.keep hk, h4.keep hk⟩

/-! ### What is asked of a table of classes -/
def kindC (T : ClsT) (c : Int) : Int := match nodeAt T.cls c with | some x => x.kind | none => 0
def alongA (T : ClsT) (k : Ed) (prio : Int) : Int × Int := if kindC T k.1 = 0 then (k.1, 0) else (k.1, wrap64 (prio + k.2))
def typeA (T : ClsT) (x : Ed) : Int × Int := if x.1 < 0 ∨ (T.of_.length : Int) ≤ x.1 then (-1, 0) else if kindC T (T.of_.getD x.1.toNat 0) = 0 then (T.of_.getD x.1.toNat 0, 0) else (T.of_.getD x.1.toNat 0, wrap64 (T.prio.getD x.1.toNat 0 + x.2))
def nextA (T : ClsT) (c prio i : Int) : Int × Int := match nodeAt T.cls c with
  | none => (-1, 0)
  | some x => if i < 0 ∨ (x.next.length : Int) ≤ i then (-1, 0) else alongA T (x.next.getD i.toNat (0, 0)) prio
def payA (T : ClsT) (c prio : Int) : Int × Int := match nodeAt T.cls c with
  | none => (-1, 0)
  | some x => if x.chan then alongA T x.pay prio else (-1, 0)
/-- What a table of classes holds by itself: its numbers are classes. -/
structure Wf (T : ClsT) : Prop where
  len : T.prio.length = T.of_.length
  of_ : ∀ c ∈ T.of_, 0 ≤ c ∧ c < (T.cls.length : Int)
  next : ∀ x ∈ T.cls, ∀ e ∈ x.next, 0 ≤ e.1 ∧ e.1 < (T.cls.length : Int)
  pay : ∀ x ∈ T.cls, x.chan = true → 0 ≤ x.pay.1 ∧ x.pay.1 < (T.cls.length : Int)
  small : T.cls.length ≤ 1000000 ∧ T.of_.length ≤ 1000000 ∧ ∀ x ∈ T.cls, x.next.length ≤ 1000000
end Go.Proofs.Ytepjkoegbehojaa

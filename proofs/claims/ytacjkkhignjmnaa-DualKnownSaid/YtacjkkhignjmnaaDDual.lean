/- Dual tables as plain lists: the dual table, mates, what types come to there. No program. -/
import Derived.Test.YtacjkkhignjmnaaOOrd
namespace Go.Proofs.Ytacjkkhignjmnaa
open Go.RowKit

def dualK (k : Int) : Int := if k = 1 then 2 else if k = 2 then 1 else if k = 3 then 4 else if k = 4 then 3 else k
theorem dualK_5 (k : Int) : dualK k = 5 ↔ k = 5 := by unfold dualK; repeat' split
                                                      all_goals omega
theorem dualK_twice (k : Int) : dualK (dualK k) = k := by
  by_cases h1 : k = 1
  · subst h1; rfl
  · by_cases h2 : k = 2
    · subst h2; rfl
    · by_cases h3 : k = 3
      · subst h3; rfl
      · by_cases h4 : k = 4
        · subst h4; rfl
        · simp [dualK, h1, h2, h3, h4]
def upE (n : Nat) (e : Ed) : Ed := (e.1 + n, e.2)
def turnN (x : Nd) : Nd := { x with kind := dualK x.kind }
def dualN (n : Nat) (x : Nd) : Nd := { x with kind := dualK x.kind, next := x.next.map (upE n) }
def twoL (xs : List Nd) : List Nd := xs ++ xs.map (dualN xs.length)
def tableL (xs : List Nd) : List Nd := if (checkL xs).2 = 0 then twoL xs else []
def mateA (n node : Int) : Int := if n < 1 ∨ node < 0 ∨ 2 * n ≤ node then -1 else if node < n then node + n else node - n
def matesB (two : List Nd) (a b : Ed) : Bool :=
  decide (two.length % 2 = 0) && (decide (0 ≤ (resolveL two a).1) && (decide (0 ≤ (resolveL two b).1) && (decide (mateA ((two.length / 2 : Nat) : Int) (resolveL two a).1 = (resolveL two b).1) && decide ((resolveL two a).2 = (resolveL two b).2))))

theorem twoL_len (xs : List Nd) : (twoL xs).length = 2 * xs.length := by unfold twoL; rw [List.length_append, List.length_map]; omega
theorem tableL_ok {xs : List Nd} (h : (checkL xs).2 = 0) : tableL xs = twoL xs := by unfold tableL; rw [if_pos h]
theorem tableL_not {xs : List Nd} (h : (checkL xs).2 ≠ 0) : tableL xs = [] := by unfold tableL; rw [if_neg h]

/-- Of the first half, or of the second one. -/
def upS (n : Nat) (s : Bool) (e : Ed) : Ed := if s then upE n e else e
def nodeS (n : Nat) (s : Bool) (x : Nd) : Nd := if s then dualN n x else x
theorem upS_2 (n : Nat) (s : Bool) (e : Ed) : (upS n s e).2 = e.2 := by cases s <;> rfl
theorem upS_1 (n : Nat) (s : Bool) (e : Ed) : (upS n s e).1 = e.1 + (if s then (n : Int) else 0) := by cases s <;> simp [upS, upE]
theorem nodeS_5 (n : Nat) (s : Bool) (x : Nd) : (nodeS n s x).kind = 5 ↔ x.kind = 5 := by
  cases s
  · exact Iff.rfl
  · exact dualK_5 x.kind
theorem nodeS_next (n : Nat) (s : Bool) (x : Nd) : (nodeS n s x).next = x.next.map (upS n s) := by
  cases s
  · show x.next = x.next.map (fun e => e)
    simp
  · show x.next.map (upE n) = x.next.map (upE n)
    rfl
theorem nodeS_only (n : Nat) (s : Bool) (x : Nd) : onlyNext (nodeS n s x) = (onlyNext x).map (upS n s) := by
  by_cases h : x.kind = 5
  · unfold onlyNext
    rw [if_pos h, if_pos ((nodeS_5 n s x).2 h), nodeS_next]
    match x.next with
    | [] => rfl
    | [e] => rfl
    | _ :: _ :: _ => rfl
  · unfold onlyNext
    rw [if_neg h, if_neg (fun e => h ((nodeS_5 n s x).1 e))]
    rfl
section
variable {xs : List Nd}
theorem two_at {i : Nat} {x : Nd} (h : xs[i]? = some x) : (twoL xs)[i]? = some x := by
  unfold twoL
  rw [List.getElem?_append_left (List.getElem?_eq_some_iff.1 h).1]; exact h
theorem two_up {i : Nat} {x : Nd} (h : xs[i]? = some x) : (twoL xs)[xs.length + i]? = some (dualN xs.length x) := by
  unfold twoL
  rw [List.getElem?_append_right (by omega), List.getElem?_map, show xs.length + i - xs.length = i by omega, h]; rfl
theorem nodeAt_two {t : Ed} {x : Nd} (s : Bool) (h : nodeAt xs t.1 = some x) : nodeAt (twoL xs) (upS xs.length s t).1 = some (nodeS xs.length s x) := by
  obtain ⟨h0, h1, h2⟩ := nodeAt_some h
  obtain ⟨i, hi⟩ : ∃ i : Nat, t.1 = i := ⟨t.1.toNat, by omega⟩
  rw [hi] at h2
  simp only [Int.toNat_natCast] at h2
  rw [upS_1, hi]
  cases s
  · simp only [Bool.false_eq_true, if_false, Int.add_zero]
    exact nodeAt_nat.trans (two_at h2)
  · simp only [if_true]
    rw [show (i : Int) + (xs.length : Int) = ((xs.length + i : Nat) : Int) by omega]
    exact nodeAt_nat.trans (two_up h2)
theorem isAl_two {t : Ed} (s : Bool) (h0 : 0 ≤ t.1) (h1 : t.1 < xs.length) : isAl (twoL xs) (upS xs.length s t) = isAl xs t := by
  obtain ⟨x, hx, _⟩ := nodeAt_of (nodeB_true.2 ⟨h0, h1⟩)
  rw [isAl_at hx, isAl_at (nodeAt_two s hx)]
  exact decide_eq_decide.2 (nodeS_5 _ s x)
theorem way_two (hg : ∀ x ∈ xs, Good xs.length x) (s : Bool) : ∀ (f : Nat) (t : Ed), 0 ≤ t.1 → t.1 < xs.length → wayL (twoL xs) f (upS xs.length s t) = (wayL xs f t).map (upS xs.length s) ∧ ∀ u ∈ wayL xs f t, 0 ≤ u.1 ∧ u.1 < xs.length
  | 0, _, _, _ => ⟨rfl, fun u hu => by cases hu⟩
  | f + 1, t, h0, h1 => by
    obtain ⟨x, hx, hxi⟩ := nodeAt_of (nodeB_true.2 ⟨h0, h1⟩)
    have hx2 := nodeAt_two s hx
    have ho := nodeS_only xs.length s x
    cases hn : onlyNext x with
    | none =>
      rw [hn] at ho
      rw [wayL_end hx hn, wayL_end hx2 ho]
      exact ⟨rfl, fun u hu => by rcases List.mem_singleton.1 hu with rfl; exact ⟨h0, h1⟩⟩
    | some e =>
      rw [hn] at ho
      rw [wayL_next hx hn, wayL_next hx2 ho]
      have hk : x.kind = 5 := by
        apply Classical.byContradiction
        intro hk
        unfold onlyNext at hn
        rw [if_neg hk] at hn
        cases hn
      obtain ⟨e', _, he2, hed⟩ := good_one (hg x (List.mem_of_getElem? hxi)) hk
      obtain rfl : e' = e := by rw [hn] at he2; exact (Option.some.inj he2).symm
      have es : stepT (upS xs.length s t) (upS xs.length s e') = upS xs.length s (stepT t e') := by cases s <;> rfl
      obtain ⟨i1, i2⟩ := way_two hg s f (stepT t e') hed.1 hed.2.1
      rw [es, i1]
      refine ⟨rfl, fun u hu => ?_⟩
      rcases List.mem_cons.1 hu with rfl | hu
      · exact ⟨h0, h1⟩
      · exact i2 u hu
theorem pick_two (s : Bool) : ∀ (L : List Ed), (∀ u ∈ L, 0 ≤ u.1 ∧ u.1 < xs.length) → 0 ≤ (pickL xs L).1 → pickL (twoL xs) (L.map (upS xs.length s)) = upS xs.length s (pickL xs L)
  | [], _, h => by simp [pickL] at h
  | t :: L, hr, h => by
    have ht := hr t List.mem_cons_self
    have ha := isAl_two (xs := xs) s ht.1 ht.2
    cases hb : isAl xs t with
    | true =>
      simp only [List.map_cons, pickL, ha, hb, if_true] at h ⊢
      exact pick_two s L (fun u hu => hr u (List.mem_cons_of_mem _ hu)) h
    | false => simp only [List.map_cons, pickL, ha, hb, Bool.false_eq_true, if_false]
theorem pick_fuel (t : Ed) (k : Nat) : pickL xs (wayL xs (xs.length + k) t) = resolveL xs t := by
  induction k with
  | zero => rfl
  | succ k ih =>
    rw [← ih]
    cases h : ends xs (xs.length + k) t.1 with
    | true => exact pick_true h
    | false =>
      have h2 : ends xs (xs.length + (k + 1)) t.1 = false := by rw [ends_more]; rw [ends_more] at h; exact h
      rw [pick_false h, pick_false h2]
/-- What types of a dual table come to. -/
theorem resolve_two (hk : OKT xs) {t : Ed} (s : Bool) (h0 : 0 ≤ t.1) (h1 : t.1 < xs.length) (hr : 0 ≤ (resolveL xs t).1) : resolveL (twoL xs) (upS xs.length s t) = upS xs.length s (resolveL xs t) := by
  have hw := way_two hk.good s (2 * xs.length) t h0 h1
  have hp : pickL xs (wayL xs (2 * xs.length) t) = resolveL xs t := by
    rw [show 2 * xs.length = xs.length + xs.length by omega]; exact pick_fuel t _
  unfold resolveL
  rw [twoL_len, hw.1, pick_two s _ hw.2 (by rw [hp]; exact hr), hp]
  rfl
/-- A step of the walk: where both stand, and what they do there. -/
theorem dual_step (hk : OKT xs) {t o : Int} (h0 : 0 ≤ t) (h1 : t < xs.length) (o0 : -1000000000 ≤ o) (o1 : o ≤ 1000000000) :
    ∃ (m : Nat) (y : Nd) (d : Int), xs[m]? = some y ∧ y.kind ≠ 5 ∧ m < xs.length ∧ 0 ≤ d ∧ d ≤ 64000 ∧ ∀ s : Bool, resolveL (twoL xs) (t + (if s then (xs.length : Int) else 0), o) = ((m : Int) + (if s then (xs.length : Int) else 0), d + o) := by
  obtain ⟨m, y, d, hy, h5, d0, d1, hm, hr⟩ := hk.goal h0 h1
  have hro := hr o o0 o1
  refine ⟨m, y, d, hy, h5, hm, d0, d1, fun s => ?_⟩
  have h2 := resolve_two hk (t := (t, o)) s h0 h1 (by rw [hro]; show (0 : Int) ≤ m; omega)
  rw [hro] at h2
  have e1 : upS xs.length s (t, o) = (t + (if s then (xs.length : Int) else 0), o) := Prod.ext (upS_1 _ _ _) (upS_2 _ _ _)
  have e2 : upS xs.length s ((m : Int), d + o) = ((m : Int) + (if s then (xs.length : Int) else 0), d + o) := Prod.ext (upS_1 _ _ _) (upS_2 _ _ _)
  rw [e1, e2] at h2
  exact h2
end
theorem mate_low {n m : Int} (h : 1 ≤ n) (h0 : 0 ≤ m) (h1 : m < n) : mateA n m = m + n := by unfold mateA; rw [if_neg (by omega), if_pos h1]
theorem mate_high {n m : Int} (h : 1 ≤ n) (h0 : n ≤ m) (h1 : m < 2 * n) : mateA n m = m - n := by unfold mateA; rw [if_neg (by omega), if_neg (by omega)]
/-- Mates, told of both halves. -/
theorem mate_s {n m : Int} (h : 1 ≤ n) (h0 : 0 ≤ m) (h1 : m < n) (s : Bool) : mateA n (m + (if s then n else 0)) = m + (if s then 0 else n) := by
  cases s
  · simp only [Bool.false_eq_true, if_false, Int.add_zero]
    exact mate_low h h0 h1
  · simp only [if_true, Int.add_zero]
    rw [mate_high h (by omega) (by omega)]; omega
theorem mates_s {xs : List Nd} (hk : OKT xs) {t o : Int} (h0 : 0 ≤ t) (h1 : t < xs.length) (o0 : -1000000000 ≤ o) (o1 : o ≤ 1000000000) (s r : Bool) :
    matesB (twoL xs) (t + (if s then (xs.length : Int) else 0), o) (t + (if r then (xs.length : Int) else 0), o) = (s != r) := by
  obtain ⟨m, y, d, _, _, hm, d0, d1, hr⟩ := dual_step hk h0 h1 o0 o1
  have hp := hk.pos
  unfold matesB
  rw [hr s, hr r, twoL_len, decide_eq_true (by omega : 2 * xs.length % 2 = 0), show 2 * xs.length / 2 = xs.length by omega, mate_s (by omega) (by omega) (by omega) s]
  simp only [Bool.true_and, decide_true, Bool.and_true]
  cases s <;> cases r <;> simp <;> omega

/-! ### the dual of the dual -/
section
variable {f : Nd → Nd} (hk : ∀ x, (f x).kind = 5 ↔ x.kind = 5) (hn : ∀ x, (f x).next = x.next) {xs : List Nd}
theorem nodeAt_mapD (f : Nd → Nd) (xs : List Nd) (i : Int) : nodeAt (xs.map f) i = (nodeAt xs i).map f := by unfold nodeAt; split <;> simp
include hk in
theorem isAl_turned (t : Ed) : isAl (xs.map f) t = isAl xs t := by
  unfold isAl
  rw [nodeAt_mapD]
  cases nodeAt xs t.1 with
  | none => rfl
  | some x => exact decide_eq_decide.2 (hk x)
include hk hn in
theorem way_turned : ∀ (k : Nat) (t : Ed), wayL (xs.map f) k t = wayL xs k t
  | 0, _ => rfl
  | k + 1, t => by
    cases h : nodeAt xs t.1 with
    | none => rw [wayL_none h, wayL_none (by rw [nodeAt_mapD, h]; rfl)]
    | some x =>
      have h2 : nodeAt (xs.map f) t.1 = some (f x) := by rw [nodeAt_mapD, h]; rfl
      have ho : onlyNext (f x) = onlyNext x := by
        unfold onlyNext
        rw [hn]
        by_cases h5 : x.kind = 5
        · rw [if_pos h5, if_pos ((hk x).2 h5)]
        · rw [if_neg h5, if_neg (fun e => h5 ((hk x).1 e))]
      cases hx : onlyNext x with
      | none => rw [wayL_end h hx, wayL_end h2 (by rw [ho, hx])]
      | some e => rw [wayL_next h hx, wayL_next h2 (by rw [ho, hx]), way_turned k]
include hk hn in
theorem lost_turned (i : Nat) : lostB (xs.map f) i = lostB xs i := by
  unfold lostB
  rw [List.length_map, way_turned hk hn, show isAl (xs.map f) = isAl xs from funext (isAl_turned hk)]
end
theorem head_turn (x : Nd) : headB (turnN x) = headB x := by
  unfold headB turnN
  simp only
  by_cases h1 : x.kind = 1
  · rw [h1]; rfl
  · by_cases h2 : x.kind = 2
    · rw [h2]; rfl
    · by_cases h3 : x.kind = 3
      · rw [h3]; rfl
      · by_cases h4 : x.kind = 4
        · rw [h4]; rfl
        · rw [show dualK x.kind = x.kind by simp [dualK, h1, h2, h3, h4]]
theorem ill_turn (n : Nat) (x : Nd) : illN n (turnN x) = illN n x := by
  unfold illN shapeB
  rw [head_turn]
  rfl
theorem okt_turn {xs : List Nd} (hk : OKT xs) : OKT (xs.map turnN) := by
  refine ⟨by rw [List.length_map]; exact hk.pos, by rw [List.length_map]; exact hk.le, fun y hy => ?_, fun j hj => ?_⟩
  · obtain ⟨x, hx, rfl⟩ := List.mem_map.1 hy
    have hg := hk.good x hx
    rw [List.length_map]
    exact ⟨by rw [ill_turn]; exact hg.1, hg.2⟩
  · rw [List.length_map] at hj
    rw [lost_turned (f := turnN) (fun x => dualK_5 x.kind) (fun _ => rfl)]
    exact hk.found j hj
/-- The second half of the second half. -/
theorem twice_at {xs : List Nd} {i : Nat} {x : Nd} (h : xs[i]? = some x) : (twoL (xs.map turnN))[xs.length + i]? = some { x with next := x.next.map (upE xs.length) } := by
  have h2 : (xs.map turnN)[i]? = some (turnN x) := by rw [List.getElem?_map, h]; rfl
  have h3 := two_up h2
  rw [List.length_map] at h3
  rw [h3]
  show some ({ x with kind := dualK (dualK x.kind), next := x.next.map (upE xs.length) } : Nd) = _
  rw [dualK_twice]
end Go.Proofs.Ytacjkkhignjmnaa

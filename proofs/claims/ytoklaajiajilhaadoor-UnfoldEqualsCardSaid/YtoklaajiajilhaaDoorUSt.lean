/- How deep one must look for types to be equal: as deep as there are pairs of nodes. No program. -/
import Derived.Test.YtoklaajiajilhaaDoorUEq
namespace Go.Proofs.YtoklaajiajilhaaDoor
open Go.RowKit

section
variable {xs : List Nd}
/-- What two nodes' parts are to a depth, both seen from the priority 0. -/
def kD (xs : List Nd) (d : Nat) (x y : Nd) : Bool := partsB (eqD xs d) x y (0, -x.prio) (0, -y.prio)
theorem step_up0 (m : Int) (z : Int) (i : Int) (p : Int) (e : Ed) (h : wrap64 p = wrap64 (z + m)) : stepT (i, p) e = upT m (stepT (0, z) e) := by
  unfold stepT upT
  dsimp only
  rw [wr_add, ← wr_add p, h, wr_add, show z + m + e.2 = z + e.2 + m by omega]
theorem parts_norm (d : Nat) {x y : Nd} {p q : Ed} (h : wrap64 (x.prio + p.2) = wrap64 (y.prio + q.2)) : partsB (eqD xs d) x y p q = kD xs d x y := by
  obtain ⟨pi, po⟩ := p
  obtain ⟨qi, qo⟩ := q
  dsimp only at h
  have h1 : wrap64 po = wrap64 (-x.prio + (x.prio + po)) := by rw [show -x.prio + (x.prio + po) = po by omega]
  have h2 : wrap64 qo = wrap64 (-y.prio + (x.prio + po)) := by
    rw [← wr_add_r, h, wr_add_r, show -y.prio + (y.prio + qo) = qo by omega]
  unfold kD partsB
  rw [step_up0 _ _ _ _ _ h1, step_up0 _ _ _ _ _ h2, eqD_up, allTwo_congr (S := fun e f => eqD xs d (stepT (0, -x.prio) e) (stepT (0, -y.prio) f)) (fun e f => by rw [step_up0 _ _ _ _ _ h1, step_up0 _ _ _ _ _ h2, eqD_up])]
theorem eqD_succ (d : Nat) (a b : Ed) : eqD xs (d + 1) a b = match nodeAt xs (resolveL xs a).1, nodeAt xs (resolveL xs b).1 with
    | none, none => true
    | some x, some y => if actsK x.kind && actsK y.kind then decide (wrap64 (x.prio + (resolveL xs a).2) = wrap64 (y.prio + (resolveL xs b).2)) && kD xs d x y else decide (x.kind = y.kind)
    | _, _ => false := by
  rw [eqD]
  cases h1 : nodeAt xs (resolveL xs a).1 with
  | none => cases nodeAt xs (resolveL xs b).1 <;> rfl
  | some x =>
    cases h2 : nodeAt xs (resolveL xs b).1 with
    | none => rfl
    | some y =>
      dsimp only
      by_cases hp : wrap64 (x.prio + (resolveL xs a).2) = wrap64 (y.prio + (resolveL xs b).2)
      · rw [parts_norm d hp]
      · rw [decide_eq_false hp, Bool.false_and, Bool.false_and]
theorem kD_down (d : Nat) (x y : Nd) (h : kD xs (d + 1) x y = true) : kD xs d x y = true := partsB_mono (eqD_down d) h
def SteadyAt (xs : List Nd) (d : Nat) : Prop := ∀ x ∈ xs, ∀ y ∈ xs, kD xs (d + 1) x y = kD xs d x y
theorem nodeAt_mem {i : Int} {x : Nd} (h : nodeAt xs i = some x) : x ∈ xs := List.mem_of_getElem? (nodeAt_some h).2.2
theorem steady_eq {d : Nat} (h : SteadyAt xs d) (a b : Ed) : eqD xs (d + 2) a b = eqD xs (d + 1) a b := by
  rw [eqD_succ (d + 1), eqD_succ d]
  cases h1 : nodeAt xs (resolveL xs a).1 with
  | none => cases nodeAt xs (resolveL xs b).1 <;> rfl
  | some x =>
    cases h2 : nodeAt xs (resolveL xs b).1 with
    | none => rfl
    | some y =>
      dsimp only
      rw [h x (nodeAt_mem h1) y (nodeAt_mem h2)]
theorem parts_congr {R S : Ed → Ed → Bool} (h : ∀ a b, R a b = S a b) (x y : Nd) (p q : Ed) : partsB R x y p q = partsB S x y p q := by
  have : R = S := funext fun a => funext fun b => h a b
  rw [this]
theorem steady_next {d : Nat} (h : SteadyAt xs d) : SteadyAt xs (d + 1) := fun x _ y _ => parts_congr (fun a b => steady_eq h a b) x y _ _
theorem steady_all {d : Nat} (h : SteadyAt xs d) : ∀ (k : Nat) (a b : Ed), eqD xs (d + 1 + k) a b = eqD xs (d + 1) a b := by
  have hk : ∀ k, SteadyAt xs (d + k) := by
    intro k
    induction k with
    | zero => exact h
    | succ k ih => exact steady_next ih
  intro k
  induction k with
  | zero => intro a b; rfl
  | succ k ih =>
    intro a b
    rw [← ih a b, show d + 1 + (k + 1) = d + k + 2 by omega, show d + 1 + k = d + k + 1 by omega]
    exact steady_eq (hk k) a b
/-- All pairs of nodes. -/
def pairsL (xs : List Nd) : List (Nd × Nd) := xs.flatMap fun x => xs.map fun y => (x, y)
theorem pairs_len (xs : List Nd) : (pairsL xs).length = xs.length * xs.length := by
  unfold pairsL
  rw [List.length_flatMap]
  generalize hn : xs.length = n
  have : ∀ l : List Nd, (l.map fun x => (xs.map fun y => (x, y)).length).sum = l.length * n := by
    intro l
    induction l with
    | nil => simp
    | cons x l ih =>
      rw [List.map_cons, List.sum_cons, ih, List.length_map, hn, List.length_cons, Nat.add_mul]
      omega
  rw [this xs, hn]
theorem pairs_mem {x y : Nd} (hx : x ∈ xs) (hy : y ∈ xs) : (x, y) ∈ pairsL xs := List.mem_flatMap.2 ⟨x, hx, List.mem_map.2 ⟨y, hy, rfl⟩⟩
theorem count_less {α : Type} {p q : α → Bool} : ∀ {l : List α}, (∀ x ∈ l, p x = true → q x = true) → (∃ x ∈ l, p x = false ∧ q x = true) → l.countP p < l.countP q
  | [], _, h => by obtain ⟨x, hx, _⟩ := h; cases hx
  | y :: l, h, hx => by
    have hle : l.countP p ≤ l.countP q := List.countP_mono_left fun x hx => h x (List.mem_cons_of_mem _ hx)
    rw [List.countP_cons, List.countP_cons]
    obtain ⟨x, hm, hp, hq⟩ := hx
    rcases List.mem_cons.1 hm with rfl | hm
    · rw [hp, hq]; simp; omega
    · have ih := count_less (fun x hx => h x (List.mem_cons_of_mem _ hx)) ⟨x, hm, hp, hq⟩
      have hy := h y List.mem_cons_self
      cases hpy : p y with
      | false => simp; omega
      | true => rw [hy hpy]; simp; omega
theorem steady_some (xs : List Nd) : ∃ d, d ≤ xs.length * xs.length ∧ SteadyAt xs d := by
  refine Classical.byContradiction fun hno => ?_
  have grow : ∀ k, k ≤ xs.length * xs.length + 1 → (pairsL xs).countP (fun p => kD xs k p.1 p.2) + k ≤ xs.length * xs.length := by
    intro k
    induction k with
    | zero =>
      intro _
      have := List.countP_le_length (p := fun p : Nd × Nd => kD xs 0 p.1 p.2) (l := pairsL xs)
      rw [pairs_len] at this
      exact this
    | succ k ih =>
      intro hk
      have ih := ih (by omega)
      have hex : ∃ p ∈ pairsL xs, kD xs (k + 1) p.1 p.2 = false ∧ kD xs k p.1 p.2 = true := by
        refine Classical.byContradiction fun hne => hno ⟨k, by omega, fun x hx y hy => ?_⟩
        cases h0 : kD xs k x y with
        | false =>
          cases h1 : kD xs (k + 1) x y with
          | false => rfl
          | true => rw [kD_down k x y h1] at h0; cases h0
        | true =>
          cases h1 : kD xs (k + 1) x y with
          | true => rfl
          | false => exact absurd ⟨(x, y), pairs_mem hx hy, h1, h0⟩ hne
      have := count_less (p := fun p : Nd × Nd => kD xs (k + 1) p.1 p.2) (q := fun p => kD xs k p.1 p.2) (fun p _ h => kD_down k p.1 p.2 h) hex
      omega
  have := grow (xs.length * xs.length + 1) (Nat.le_refl _)
  omega
/-- P8.3's last sentence. -/
theorem eqD_steady {k : Nat} (h : xs.length * xs.length + 1 ≤ k) (a b : Ed) : eqD xs k a b = eqD xs (xs.length * xs.length + 1) a b := by
  obtain ⟨d, hd, hs⟩ := steady_some xs
  have h1 := steady_all hs (k - (d + 1)) a b
  have h2 := steady_all hs (xs.length * xs.length - d) a b
  rw [show d + 1 + (k - (d + 1)) = k by omega] at h1
  rw [show d + 1 + (xs.length * xs.length - d) = xs.length * xs.length + 1 by omega] at h2
  rw [h1, h2]
end
end Go.Proofs.YtoklaajiajilhaaDoor

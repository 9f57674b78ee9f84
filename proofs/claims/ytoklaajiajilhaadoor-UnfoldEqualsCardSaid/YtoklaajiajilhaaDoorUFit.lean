/- The document's own way to equality, by rounds of what is known of each two nodes: it is equality to a depth. No program. -/
import Derived.Test.YtoklaajiajilhaaDoorUSt
namespace Go.Proofs.YtoklaajiajilhaaDoor
open Go.RowKit

/-- Are two types, by what is known of the nodes that they come to? -/
def fitsA (xs : List Nd) (K : Nat → Nat → Bool) (a b : Ed) : Bool := match nodeAt xs (resolveL xs a).1, nodeAt xs (resolveL xs b).1 with
  | none, none => true
  | some x, some y => if actsK x.kind && actsK y.kind then decide (wrap64 (x.prio + (resolveL xs a).2) = wrap64 (y.prio + (resolveL xs b).2)) && K (resolveL xs a).1.toNat (resolveL xs b).1.toNat else decide (x.kind = y.kind)
  | _, _ => false
/-- What two nodes must have alike by themselves. -/
def alikeB (x y : Nd) : Bool := actsK x.kind && decide (x.kind = y.kind) && decide (x.next.length = y.next.length) && decide (x.chan = y.chan)
def nodeK (xs : List Nd) (R : Ed → Ed → Bool) (i j : Nat) : Bool := match xs[i]?, xs[j]? with
  | some x, some y => alikeB x y && (!x.chan || R (stepT (0, -x.prio) x.pay) (stepT (0, -y.prio) y.pay)) && allTwo (fun e f => R (stepT (0, -x.prio) e) (stepT (0, -y.prio) f)) x.next y.next
  | _, _ => false
/-- What is known of each two nodes after so many rounds. -/
def knownA (xs : List Nd) : Nat → Nat → Nat → Bool
  | 0 => nodeK xs fun _ _ => true
  | d + 1 => nodeK xs (fitsA xs (knownA xs d))
theorem allTwo_true {R : Ed → Ed → Bool} (hR : ∀ a b, R a b = true) : ∀ l k : List Ed, allTwo R l k = decide (l.length = k.length)
  | [], [] => rfl
  | a :: l, b :: k => by
    unfold allTwo
    rw [hR, Bool.true_and, allTwo_true hR l k, List.length_cons, List.length_cons]
    exact decide_eq_decide.2 (by omega)
  | [], b :: k => by unfold allTwo; rw [decide_eq_false (by simp)]
  | a :: l, [] => by unfold allTwo; rw [decide_eq_false (by simp)]
section
variable {xs : List Nd}
/-- Of nodes that act, what is known after d rounds is what parts tell to the depth d. -/
theorem nodeK_parts {R : Ed → Ed → Bool} {i j : Nat} {x y : Nd} (hi : xs[i]? = some x) (hj : xs[j]? = some y) (ha : actsK x.kind = true) : nodeK xs R i j = partsB R x y (0, -x.prio) (0, -y.prio) := by
  unfold nodeK
  rw [hi, hj]
  dsimp only
  unfold alikeB partsB
  rw [ha, Bool.true_and]
  cases h : allTwo (fun e f => R (stepT (0, -x.prio) e) (stepT (0, -y.prio) f)) x.next y.next with
  | false => rw [Bool.and_false, Bool.and_false]
  | true =>
    rw [decide_eq_true (allTwo_len h)]
    cases decide (x.kind = y.kind) <;> cases decide (x.chan = y.chan) <;> rfl
theorem knownA_parts : ∀ (d : Nat) {i j : Nat} {x y : Nd}, xs[i]? = some x → xs[j]? = some y → actsK x.kind = true → knownA xs d i j = kD xs d x y
  | 0, i, j, x, y, hi, hj, ha => nodeK_parts hi hj ha
  | d + 1, i, j, x, y, hi, hj, ha => by
    unfold knownA
    rw [nodeK_parts hi hj ha]
    refine parts_congr (fun a b => ?_) x y _ _
    rw [eqD_succ d]
    unfold fitsA
    cases h1 : nodeAt xs (resolveL xs a).1 with
    | none => cases nodeAt xs (resolveL xs b).1 <;> rfl
    | some u =>
      cases h2 : nodeAt xs (resolveL xs b).1 with
      | none => rfl
      | some v =>
        dsimp only
        by_cases hc : (actsK u.kind && actsK v.kind) = true
        · rw [if_pos hc, if_pos hc]
          rw [Bool.and_eq_true] at hc
          rw [knownA_parts d (nodeAt_some h1).2.2 (nodeAt_some h2).2.2 hc.1]
        · rw [if_neg hc, if_neg hc]
/-- The document's answer, to the depth d + 1. -/
theorem fits_eqD (d : Nat) (a b : Ed) : fitsA xs (knownA xs d) a b = eqD xs (d + 1) a b := by
  rw [eqD_succ d]
  unfold fitsA
  cases h1 : nodeAt xs (resolveL xs a).1 with
  | none => cases nodeAt xs (resolveL xs b).1 <;> rfl
  | some u =>
    cases h2 : nodeAt xs (resolveL xs b).1 with
    | none => rfl
    | some v =>
      dsimp only
      by_cases hc : (actsK u.kind && actsK v.kind) = true
      · rw [if_pos hc, if_pos hc]
        rw [Bool.and_eq_true] at hc
        rw [knownA_parts d (nodeAt_some h1).2.2 (nodeAt_some h2).2.2 hc.1]
      · rw [if_neg hc, if_neg hc]
end
end Go.Proofs.YtoklaajiajilhaaDoor

/- Types that are equal to a depth, and their texts, plainly. No program. -/
import Derived.Test.YtoklaajiajilhaaDoorGLan
namespace Go.Proofs.YtoklaajiajilhaaDoor
open Go.RowKit

theorem wr_add (a b : Int) : wrap64 (wrap64 a + b) = wrap64 (a + b) := by unfold wrap64; omega
theorem wr_add_r (a b : Int) : wrap64 (a + wrap64 b) = wrap64 (a + b) := by unfold wrap64; omega
theorem wr_cancel {a b : Int} (m : Int) : wrap64 (a + m) = wrap64 (b + m) ↔ wrap64 a = wrap64 b := by unfold wrap64; omega
def actsK (k : Int) : Bool := decide (1 ≤ k) && decide (k ≤ 4)
/-- The type with a number added to its offset. -/
def upT (m : Int) (t : Ed) : Ed := (t.1, wrap64 (t.2 + m))
theorem step_up (m : Int) (t e : Ed) : stepT (upT m t) e = upT m (stepT t e) := by
  unfold stepT upT
  dsimp only
  rw [wr_add, wr_add, show t.2 + m + e.2 = t.2 + e.2 + m by omega]
theorem resolve_up (xs : List Nd) (m : Int) (t : Ed) : (nodeAt xs (resolveL xs t).1 = none ∧ nodeAt xs (resolveL xs (upT m t)).1 = none) ∨ ∃ x, nodeAt xs (resolveL xs t).1 = some x ∧ x.kind ≠ 5 ∧ resolveL xs (upT m t) = upT m (resolveL xs t) := by
  rcases resolve_at xs t with h | ⟨x, h, h5⟩
  · rcases pick_shift (xs := xs) m (f := xs.length) (t := t) with ⟨_, h2⟩ | h2
    · exact .inl ⟨by rw [h]; rfl, by show nodeAt xs (pickL xs (wayL xs xs.length (upT m t))).1 = none; unfold upT; rw [h2]; rfl⟩
    · refine .inl ⟨by rw [h]; rfl, ?_⟩
      have h3 : resolveL xs (upT m t) = ((resolveL xs t).1, wrap64 ((resolveL xs t).2 + m)) := h2
      rw [h3, h]; rfl
  · exact .inr ⟨x, h, h5, resolve_shift m rfl h⟩

/-- Both lists are as long, and their things, one by one, are so. -/
def allTwo (R : Ed → Ed → Bool) : List Ed → List Ed → Bool
  | [], [] => true
  | a :: l, b :: k => R a b && allTwo R l k
  | _, _ => false
/-- What two nodes' parts must be, seen from two offsets. -/
def partsB (R : Ed → Ed → Bool) (x y : Nd) (p q : Ed) : Bool := decide (x.kind = y.kind) && decide (x.chan = y.chan) && (!x.chan || R (stepT p x.pay) (stepT q y.pay)) && allTwo (fun e f => R (stepT p e) (stepT q f)) x.next y.next
def eqD (xs : List Nd) : Nat → Ed → Ed → Bool
  | 0, _, _ => true
  | d + 1, a, b => match nodeAt xs (resolveL xs a).1, nodeAt xs (resolveL xs b).1 with
    | none, none => true
    | some x, some y => if actsK x.kind && actsK y.kind then decide (wrap64 (x.prio + (resolveL xs a).2) = wrap64 (y.prio + (resolveL xs b).2)) && partsB (eqD xs d) x y (resolveL xs a) (resolveL xs b) else decide (x.kind = y.kind)
    | _, _ => false
theorem allTwo_refl {R : Ed → Ed → Bool} (h : ∀ a, R a a = true) : ∀ l, allTwo R l l = true
  | [] => rfl
  | a :: l => by unfold allTwo; rw [h, allTwo_refl h l]; rfl
theorem allTwo_symm {R S : Ed → Ed → Bool} (h : ∀ a b, R a b = S b a) : ∀ l k, allTwo R l k = allTwo S k l
  | [], [] => rfl
  | a :: l, b :: k => by unfold allTwo; rw [h, allTwo_symm h l k]
  | [], _ :: _ => rfl
  | _ :: _, [] => rfl
theorem allTwo_mono {R S : Ed → Ed → Bool} (h : ∀ a b, R a b = true → S a b = true) : ∀ l k, allTwo R l k = true → allTwo S l k = true
  | [], [], _ => rfl
  | a :: l, b :: k, hh => by
    unfold allTwo at hh ⊢
    rw [Bool.and_eq_true] at hh ⊢
    exact ⟨h _ _ hh.1, allTwo_mono h l k hh.2⟩
theorem allTwo_len {R : Ed → Ed → Bool} : ∀ {l k}, allTwo R l k = true → l.length = k.length
  | [], [], _ => rfl
  | a :: l, b :: k, h => by
    unfold allTwo at h
    rw [Bool.and_eq_true] at h
    rw [List.length_cons, List.length_cons, allTwo_len h.2]
theorem allTwo_congr {R S : Ed → Ed → Bool} (h : ∀ a b, R a b = S a b) (l k : List Ed) : allTwo R l k = allTwo S l k := by
  have : R = S := funext fun a => funext fun b => h a b
  rw [this]
section
variable {xs : List Nd}
theorem eqD_refl : ∀ (d : Nat) (a : Ed), eqD xs d a a = true
  | 0, _ => rfl
  | d + 1, a => by
    unfold eqD
    cases h : nodeAt xs (resolveL xs a).1 with
    | none => rfl
    | some x =>
      dsimp only
      split
      · unfold partsB
        rw [eqD_refl d, allTwo_refl (R := fun e f => eqD xs d (stepT (resolveL xs a) e) (stepT (resolveL xs a) f)) (fun e => eqD_refl d _)]
        simp
      · simp
theorem eqD_symm : ∀ (d : Nat) (a b : Ed), eqD xs d a b = eqD xs d b a
  | 0, _, _ => rfl
  | d + 1, a, b => by
    unfold eqD
    cases h : nodeAt xs (resolveL xs a).1 with
    | none => cases nodeAt xs (resolveL xs b).1 <;> rfl
    | some x =>
      cases h2 : nodeAt xs (resolveL xs b).1 with
      | none => rfl
      | some y =>
        dsimp only
        have e1 : (actsK x.kind && actsK y.kind) = (actsK y.kind && actsK x.kind) := Bool.and_comm _ _
        have e2 : decide (x.kind = y.kind) = decide (y.kind = x.kind) := decide_eq_decide.2 eq_comm
        have e3 : partsB (eqD xs d) x y (resolveL xs a) (resolveL xs b) = partsB (eqD xs d) y x (resolveL xs b) (resolveL xs a) := by
          unfold partsB
          rw [e2, allTwo_symm (S := fun e f => eqD xs d (stepT (resolveL xs b) e) (stepT (resolveL xs a) f)) (fun e f => eqD_symm d _ _), eqD_symm d (stepT (resolveL xs a) x.pay)]
          by_cases hc : x.chan = y.chan
          · rw [hc]
          · rw [decide_eq_false hc, decide_eq_false (p := y.chan = x.chan) (fun h => hc h.symm)]
            simp
        rw [e1, e2, e3, decide_eq_decide.2 (eq_comm (a := wrap64 (x.prio + (resolveL xs a).2)))]
theorem partsB_mono {R S : Ed → Ed → Bool} (h : ∀ a b, R a b = true → S a b = true) {x y : Nd} {p q : Ed} (hp : partsB R x y p q = true) : partsB S x y p q = true := by
  unfold partsB at hp ⊢
  rw [Bool.and_eq_true, Bool.and_eq_true, Bool.or_eq_true] at hp ⊢
  exact ⟨⟨hp.1.1, hp.1.2.imp id (h _ _)⟩, allTwo_mono (fun _ _ => h _ _) _ _ hp.2⟩
theorem eqD_down : ∀ (d : Nat) (a b : Ed), eqD xs (d + 1) a b = true → eqD xs d a b = true
  | 0, _, _, _ => rfl
  | d + 1, a, b, h => by
    unfold eqD at h ⊢
    cases h1 : nodeAt xs (resolveL xs a).1 with
    | none => rw [h1] at h; cases h2 : nodeAt xs (resolveL xs b).1 with
      | none => rfl
      | some y => rw [h2] at h; cases h
    | some x =>
      rw [h1] at h
      cases h2 : nodeAt xs (resolveL xs b).1 with
      | none => rw [h2] at h; cases h
      | some y =>
        rw [h2] at h
        dsimp only at h ⊢
        split at h
        · rename_i hc
          rw [if_pos hc]
          rw [Bool.and_eq_true] at h ⊢
          exact ⟨h.1, partsB_mono (eqD_down d) h.2⟩
        · rename_i hc
          rw [if_neg hc]
          exact h
theorem eqD_le {d : Nat} : ∀ {k : Nat}, k ≤ d → ∀ {a b : Ed}, eqD xs d a b = true → eqD xs k a b = true := by
  induction d with
  | zero => intro k hk a b h; obtain rfl : k = 0 := (by omega); exact h
  | succ d ih =>
    intro k hk a b h
    by_cases e : k = d + 1
    · subst e; exact h
    · exact ih (by omega) (eqD_down d a b h)
theorem partsB_up {R : Ed → Ed → Bool} {m : Int} (h : ∀ a b, R (upT m a) (upT m b) = R a b) (x y : Nd) (p q : Ed) : partsB R x y (upT m p) (upT m q) = partsB R x y p q := by
  unfold partsB
  rw [step_up, step_up, h, allTwo_congr (S := fun e f => R (stepT p e) (stepT q f)) (fun e f => by rw [step_up, step_up, h])]
theorem eqD_up (m : Int) : ∀ (d : Nat) (a b : Ed), eqD xs d (upT m a) (upT m b) = eqD xs d a b
  | 0, _, _ => rfl
  | d + 1, a, b => by
    unfold eqD
    rcases resolve_up xs m a with ⟨h1, h2⟩ | ⟨x, h1, _, h2⟩
    · rw [h1, h2]
      rcases resolve_up xs m b with ⟨g1, g2⟩ | ⟨y, g1, _, g2⟩
      · rw [g1, g2]
      · rw [g2, g1, show (upT m (resolveL xs b)).1 = (resolveL xs b).1 from rfl, g1]
    · rw [h2, show (upT m (resolveL xs a)).1 = (resolveL xs a).1 from rfl, h1]
      rcases resolve_up xs m b with ⟨g1, g2⟩ | ⟨y, g1, _, g2⟩
      · rw [g1, g2]
      · rw [g2, show (upT m (resolveL xs b)).1 = (resolveL xs b).1 from rfl, g1]
        dsimp only
        rw [partsB_up (eqD_up m d)]
        have e : decide (wrap64 (x.prio + (upT m (resolveL xs a)).2) = wrap64 (y.prio + (upT m (resolveL xs b)).2)) = decide (wrap64 (x.prio + (resolveL xs a).2) = wrap64 (y.prio + (resolveL xs b).2)) := by
          refine decide_eq_decide.2 ?_
          unfold upT
          dsimp only
          rw [wr_add_r, wr_add_r, ← Int.add_assoc, ← Int.add_assoc]
          exact wr_cancel m
        rw [e]
end
end Go.Proofs.YtoklaajiajilhaaDoor

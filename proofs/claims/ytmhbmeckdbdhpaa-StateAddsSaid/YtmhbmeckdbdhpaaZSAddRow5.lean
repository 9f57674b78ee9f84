/- Texts joined for the claim's sake: GRefC, GPig. -/
import Derived.Test.YtmhbmeckdbdhpaaZSAddRow4
import Derived.LoopTactic
import Derived.RegionTactic
import Derived.Deep.RegionWith
namespace Go.Proofs.Ytmhbmeckdbdhpaa
open Go.RowKit Go.Shelf

end Go.Proofs.Ytmhbmeckdbdhpaa

namespace Go.Proofs.Ytmhbmeckdbdhpaa
open Go.RowKit

def ends (xs : List Nd) : Nat → Int → Bool
  | 0, _ => false
  | f + 1, i => match nodeAt xs i with
    | none => false
    | some x => if x.kind = 5 then (match onlyNext x with | none => false | some e => ends xs f e.1) else true
theorem ends_none {xs : List Nd} {f : Nat} {i : Int} (h : nodeAt xs i = none) : ends xs (f + 1) i = false := by simp only [ends, h]
theorem ends_here {xs : List Nd} {f : Nat} {i : Int} {x : Nd} (h : nodeAt xs i = some x) (hk : x.kind ≠ 5) : ends xs (f + 1) i = true := by simp only [ends, h, hk, if_false]
theorem ends_stop {xs : List Nd} {f : Nat} {i : Int} {x : Nd} (h : nodeAt xs i = some x) (hk : x.kind = 5) (ho : onlyNext x = none) : ends xs (f + 1) i = false := by simp only [ends, h, hk, if_true, ho]
theorem ends_next {xs : List Nd} {f : Nat} {i : Int} {x : Nd} {e : Ed} (h : nodeAt xs i = some x) (hk : x.kind = 5) (ho : onlyNext x = some e) : ends xs (f + 1) i = ends xs f e.1 := by simp only [ends, h, hk, if_true, ho]
theorem ends_mono {xs : List Nd} : ∀ {f : Nat} {i : Int}, ends xs f i = true → ends xs (f + 1) i = true
  | 0, _, h => by simp [ends] at h
  | f + 1, i, h => by
    rcases node_cases xs i with h0 | ⟨x, h0, hk⟩ | ⟨x, h0, hk, ho⟩ | ⟨x, e, h0, hk, ho⟩
    · rw [ends_none h0] at h; cases h
    · exact ends_here h0 hk
    · rw [ends_stop h0 hk ho] at h; cases h
    · rw [ends_next h0 hk ho] at h ⊢; exact ends_mono h
theorem pick_false {xs : List Nd} : ∀ {f : Nat} {t : Ed}, ends xs f t.1 = false → pickL xs (wayL xs f t) = (-1, 0)
  | 0, _, _ => rfl
  | f + 1, t, h => by
    rcases node_cases xs t.1 with h0 | ⟨x, h0, hk⟩ | ⟨x, h0, hk, ho⟩ | ⟨x, e, h0, hk, ho⟩
    · exact pick_none h0
    · rw [ends_here h0 hk] at h; cases h
    · exact pick_stop h0 hk ho
    · rw [ends_next h0 hk ho] at h
      rw [pick_next h0 ho]
      exact pick_false h
theorem pick_true {xs : List Nd} : ∀ {f : Nat} {t : Ed}, ends xs f t.1 = true → pickL xs (wayL xs (f + 1) t) = pickL xs (wayL xs f t)
  | 0, _, h => by simp [ends] at h
  | f + 1, t, h => by
    rcases node_cases xs t.1 with h0 | ⟨x, h0, hk⟩ | ⟨x, h0, hk, ho⟩ | ⟨x, e, h0, hk, ho⟩
    · rw [ends_none h0] at h; cases h
    · rw [pick_here h0 hk, pick_here h0 hk]
    · rw [ends_stop h0 hk ho] at h; cases h
    · rw [ends_next h0 hk ho] at h
      rw [pick_next h0 ho, pick_next h0 ho]
      exact pick_true h
theorem ends_stable {xs : List Nd} {f : Nat} (h : ∀ i, ends xs (f + 1) i = ends xs f i) : ∀ i, ends xs (f + 2) i = ends xs (f + 1) i := fun i => by
  rcases node_cases xs i with h0 | ⟨x, h0, hk⟩ | ⟨x, h0, hk, ho⟩ | ⟨x, e, h0, hk, ho⟩
  · rw [ends_none h0, ends_none h0]
  · rw [ends_here h0 hk, ends_here h0 hk]
  · rw [ends_stop h0 hk ho, ends_stop h0 hk ho]
  · rw [ends_next h0 hk ho, ends_next h0 hk ho]; exact h _
theorem ends_range {xs : List Nd} {f : Nat} {i : Int} (h : ends xs f i = true) : 0 ≤ i ∧ i < xs.length := by
  cases f with
  | zero => simp [ends] at h
  | succ f =>
    cases h0 : nodeAt xs i with
    | none => rw [ends_none h0] at h; cases h
    | some x => have := nodeAt_some h0; exact ⟨this.1, this.2.1⟩
theorem countP_le_of {p q : Nat → Bool} : ∀ (l : List Nat), (∀ i, p i = true → q i = true) → l.countP p ≤ l.countP q
  | [], _ => by simp
  | a :: l, h => by
    have := countP_le_of l h
    rw [List.countP_cons, List.countP_cons]
    by_cases hp : p a = true
    · rw [if_pos hp, if_pos (h a hp)]; omega
    · rw [if_neg hp]; split <;> omega
theorem countP_lt_of {p q : Nat → Bool} : ∀ (l : List Nat), (∀ i, p i = true → q i = true) → ∀ j ∈ l, p j = false → q j = true → l.countP p < l.countP q
  | [], _, j, hj, _, _ => by cases hj
  | a :: l, h, j, hj, hp, hq => by
    rw [List.countP_cons, List.countP_cons]
    rcases List.mem_cons.1 hj with rfl | hj
    · have := countP_le_of l h
      rw [hp, hq]
      simp
      omega
    · have := countP_lt_of l h j hj hp hq
      by_cases hp : p a = true
      · rw [if_pos hp, if_pos (h a hp)]; omega
      · rw [if_neg hp]; split <;> omega
def cnt (xs : List Nd) (f : Nat) : Nat := (List.range xs.length).countP fun (i : Nat) => ends xs f (i : Int)
theorem cnt_le (xs : List Nd) (f : Nat) : cnt xs f ≤ xs.length := by
  unfold cnt
  have := List.countP_le_length (p := fun (i : Nat) => ends xs f (i : Int)) (l := List.range xs.length)
  simpa using this
theorem cnt_lt {xs : List Nd} {f : Nat} (h : ¬ ∀ i, ends xs (f + 1) i = ends xs f i) : cnt xs f < cnt xs (f + 1) := by
  obtain ⟨i, hi⟩ := Classical.not_forall.1 h
  have h1 : ends xs f i = false := by
    cases h0 : ends xs f i with
    | false => rfl
    | true => exact absurd ((ends_mono h0).trans h0.symm) hi
  have h2 : ends xs (f + 1) i = true := by
    cases h0 : ends xs (f + 1) i with
    | true => rfl
    | false => exact absurd (h0.trans h1.symm) hi
  have hr := ends_range h2
  obtain ⟨j, rfl⟩ : ∃ j : Nat, i = j := ⟨i.toNat, by omega⟩
  exact countP_lt_of (p := fun (i : Nat) => ends xs f (i : Int)) (q := fun (i : Nat) => ends xs (f + 1) (i : Int)) (List.range xs.length) (fun i hi => ends_mono hi) j (List.mem_range.2 (by omega)) h1 h2
theorem ends_all (xs : List Nd) : ∀ i, ends xs (xs.length + 1) i = ends xs xs.length i := by
  apply Classical.byContradiction
  intro h
  have key : ∀ f, f ≤ xs.length → ¬ ∀ i, ends xs (f + 1) i = ends xs f i := fun f hf hs => by
    have : ∀ k, ∀ i, ends xs (f + k + 1) i = ends xs (f + k) i := fun k => by
      induction k with
      | zero => exact hs
      | succ k ih => exact ends_stable ih
    have h2 := this (xs.length - f)
    rw [show f + (xs.length - f) = xs.length by omega] at h2
    exact h h2
  have count : ∀ f, f ≤ xs.length + 1 → f ≤ cnt xs f := fun f => by
    induction f with
    | zero => intro _; omega
    | succ f ih =>
      intro hf
      have h1 := ih (by omega)
      have h2 := cnt_lt (key f (by omega))
      omega
  have h1 := count (xs.length + 1) (Nat.le_refl _)
  have h2 := cnt_le xs (xs.length + 1)
  omega
/-- .. nor do more steps still. -/
theorem ends_more {xs : List Nd} : ∀ (k : Nat) (i : Int), ends xs (xs.length + k) i = ends xs xs.length i
  | 0, _ => rfl
  | k + 1, i => by
    have : ∀ k, ∀ i, ends xs (xs.length + k + 1) i = ends xs (xs.length + k) i := fun k => by
      induction k with
      | zero => exact ends_all xs
      | succ k ih => exact ends_stable ih
    exact (this k i).trans (ends_more k i)
end Go.Proofs.Ytmhbmeckdbdhpaa

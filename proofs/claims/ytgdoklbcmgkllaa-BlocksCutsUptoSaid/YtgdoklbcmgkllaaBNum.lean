/- What numbers blocks have, as they are counted from the front. No program. -/
import Derived.Test.YtgdoklbcmgkllaaBLaw
namespace Go.Proofs.Ytgdoklbcmgkllaa

theorem count_cut (p : Nat → Bool) (i : Nat) : ∀ n, i < n → (List.range n).countP (fun s => p s && decide (s ≤ i)) = (List.range (i + 1)).countP p
  | 0, h => absurd h (by omega)
  | n + 1, h => by
    by_cases e : i = n
    · subst e
      apply List.countP_congr
      intro s hs
      have := List.mem_range.1 hs
      simp
      omega
    · rw [List.range_succ, List.countP_append, count_cut p i n (by omega)]
      have : decide (n ≤ i) = false := by simp; omega
      simp [this]
/-- The number, from the front. -/
theorem num_front {cs : List Bi} {i : Nat} (hi : i < cs.length) : numB cs i = ((List.range (i + 1)).filter (beginB cs)).length - 1 := by
  unfold numB startsL
  rw [List.countP_filter, ← List.countP_eq_length_filter, ← count_cut (beginB cs) i cs.length hi]
  congr 1
  apply List.countP_congr
  intro s _
  simp [Bool.and_comm]
theorem starts_step (cs : List Bi) (i : Nat) : (List.range (i + 1)).filter (beginB cs) = (List.range i).filter (beginB cs) ++ (if beginB cs i then [i] else []) := by
  rw [List.range_succ, List.filter_append]
  simp only [List.filter_cons, List.filter_nil]
end Go.Proofs.Ytgdoklbcmgkllaa

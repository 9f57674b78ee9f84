/- Looking for a silent round with a stack: what stands as it goes on, and that it ends. No program. -/
import Derived.Test.YtgdoklbcmgkllaaBLaw
namespace Go.Proofs.Ytgdoklbcmgkllaa

/-- What stands: the stack, and which ones were seen. -/
structure Dfs (cs : List Bi) (i : Nat) (T : List Int) (seen : List Bool) : Prop where
  len : seen.length = cs.length
  quiet : quietN cs i = true
  rng : ∀ t ∈ T, 0 ≤ t ∧ t < (cs.length : Int)
  way : ∀ t ∈ T, ∃ m, Pth cs m i t.toNat
  sn : ∀ k, seen[k]? = some true → quietN cs k = true ∧ k ≠ i ∧ ∃ m, Pth cs m i k
  cl : ∀ k, (k = i ∨ seen[k]? = some true) → ∀ t ∈ goesN cs k, t ∈ T ∨ seen[t.toNat]? = some true ∨ quietN cs t.toNat = false
theorem sil_of {cs : List Bi} {i : Nat} {t : Int} (hq : quietN cs i = true) (ht : t ∈ goesN cs i) (h0 : 0 ≤ t) : silB cs i t.toNat = true := by
  unfold silB
  rw [hq, Bool.true_and, List.contains_iff_mem]
  have e : ((t.toNat : Nat) : Int) = t := by omega
  rw [e]
  exact ht
section
variable {cs : List Bi} {i : Nat} {T : List Int} {seen : List Bool}
theorem Dfs.start (hj : ∀ i x, cs[i]? = some x → jumpX cs.length i x = true) (hq : quietN cs i = true) : Dfs cs i (goesN cs i) (List.replicate cs.length false) :=
  ⟨by simp, hq, fun t ht => goes_lt hj ht, fun t ht => ⟨1, .one (sil_of hq ht (goes_lt hj ht).1) (by have := goes_lt hj ht; omega)⟩,
   fun k hk => by rw [List.getElem?_replicate] at hk; split at hk <;> simp at hk,
   fun k hk t ht => by
    rcases hk with rfl | hk
    · exact .inl ht
    · rw [List.getElem?_replicate] at hk
      split at hk <;> simp at hk⟩
theorem Dfs.found (h : Dfs cs i (T ++ [(i : Int)]) seen) : roundB cs i = true := by
  obtain ⟨m, hm⟩ := h.way (i : Int) (by simp)
  rw [Int.toNat_natCast] at hm
  exact round_iff.2 ⟨m, hm⟩
theorem Dfs.skip {t : Int} (h : Dfs cs i (T ++ [t]) seen) (ht : seen[t.toNat]? = some true ∨ quietN cs t.toNat = false) : Dfs cs i T seen :=
  ⟨h.len, h.quiet, fun u hu => h.rng u (by simp [hu]), fun u hu => h.way u (by simp [hu]), h.sn, fun k hk u hu => by
    rcases h.cl k hk u hu with h1 | h1
    · rcases List.mem_append.1 h1 with h2 | h2
      · exact .inl h2
      · simp only [List.mem_singleton] at h2
        subst h2
        exact .inr ht
    · exact .inr h1⟩
theorem Dfs.step (hj : ∀ i x, cs[i]? = some x → jumpX cs.length i x = true) {t : Int} (h : Dfs cs i (T ++ [t]) seen) (hi : t ≠ (i : Int)) (hq : quietN cs t.toNat = true) : Dfs cs i (T ++ goesN cs t.toNat) (seen.set t.toNat true) := by
  obtain ⟨t0, t1⟩ := h.rng t (by simp)
  obtain ⟨m, hm⟩ := h.way t (by simp)
  have hlt : t.toNat < seen.length := by rw [h.len]; omega
  have hset : ∀ k, (seen.set t.toNat true)[k]? = some true ↔ k = t.toNat ∨ seen[k]? = some true := fun k => by
    by_cases e : k = t.toNat
    · subst e
      rw [List.getElem?_set_self hlt]
      simp
    · rw [List.getElem?_set_ne (fun e2 => e e2.symm)]
      simp [e]
  refine ⟨by rw [List.length_set]; exact h.len, h.quiet, fun u hu => ?_, fun u hu => ?_, fun k hk => ?_, fun k hk u hu => ?_⟩
  · rcases List.mem_append.1 hu with h1 | h1
    · exact h.rng u (by simp [h1])
    · exact goes_lt hj h1
  · rcases List.mem_append.1 hu with h1 | h1
    · exact h.way u (by simp [h1])
    · have hu2 := goes_lt hj h1
      exact ⟨m + 1, .snoc hm (sil_of hq h1 hu2.1) (by omega)⟩
  · rcases (hset k).1 hk with rfl | h1
    · exact ⟨hq, by omega, m, hm⟩
    · exact h.sn k h1
  · by_cases e : k = t.toNat
    · subst e
      exact .inl (List.mem_append.2 (.inr hu))
    · have hk' : k = i ∨ seen[k]? = some true := by
        rcases hk with h1 | h1
        · exact .inl h1
        · rcases (hset k).1 h1 with h2 | h2
          · exact absurd h2 e
          · exact .inr h2
      rcases h.cl k hk' u hu with h1 | h1 | h1
      · rcases List.mem_append.1 h1 with h2 | h2
        · exact .inl (List.mem_append.2 (.inl h2))
        · simp only [List.mem_singleton] at h2
          subst h2
          exact .inr (.inl ((hset _).2 (.inl rfl)))
      · exact .inr (.inl ((hset _).2 (.inr h1)))
      · exact .inr (.inr h1)
theorem Dfs.done (h : Dfs cs i [] seen) : roundB cs i = false := by
  cases hr : roundB cs i with
  | false => rfl
  | true =>
    obtain ⟨m, hm⟩ := round_iff.1 hr
    have step : ∀ {k j : Nat}, (k = i ∨ seen[k]? = some true) → silB cs k j = true → seen[j]? = some true ∨ quietN cs j = false := fun {k j} hk hs => by
      unfold silB at hs
      rw [Bool.and_eq_true, List.contains_iff_mem] at hs
      rcases h.cl k hk _ hs.2 with h1 | h1 | h1
      · cases h1
      · exact .inl (by rwa [Int.toNat_natCast] at h1)
      · exact .inr (by rwa [Int.toNat_natCast] at h1)
    have all : ∀ {m a j : Nat}, Pth cs m a j → a = i → seen[j]? = some true ∨ quietN cs j = false := fun {m a j} hp => by
      induction hp with
      | one hs _ => intro e; subst e; exact step (.inl rfl) hs
      | snoc _ hs _ ih =>
        intro e
        rcases ih e with h1 | h1
        · exact step (.inr h1) hs
        · unfold silB at hs
          rw [h1] at hs
          cases hs
    rcases all hm rfl with h1 | h1
    · exact absurd rfl (h.sn i h1).2.1
    · rw [h.quiet] at h1
      cases h1
end
/-- How much is left to be looked at. -/
def leftB (cs : List Bi) (seen : List Bool) : Nat := ((List.range cs.length).map fun k => if seen[k]? = some true then 0 else (goesN cs k).length).sum
theorem sum_one {f g : Nat → Nat} {a : Nat} : ∀ (n : Nat), (∀ k, k ≠ a → f k = g k) → a < n → ((List.range n).map f).sum + g a = ((List.range n).map g).sum + f a
  | 0, _, h => absurd h (by omega)
  | n + 1, he, h => by
    rw [List.range_succ, List.map_append, List.map_append, List.sum_append, List.sum_append]
    simp only [List.map_cons, List.map_nil, List.sum_cons, List.sum_nil, Nat.add_zero]
    by_cases e : a = n
    · subst e
      have : ((List.range a).map f) = ((List.range a).map g) := List.map_congr_left fun k hk => he k (by have := List.mem_range.1 hk; omega)
      rw [this]
      omega
    · have := sum_one n he (by omega)
      have h2 := he n (fun e2 => e e2.symm)
      omega
theorem left_step {cs : List Bi} {seen : List Bool} {k : Nat} (hk : k < cs.length) (hl : seen.length = cs.length) (hs : seen[k]? ≠ some true) : leftB cs (seen.set k true) + (goesN cs k).length = leftB cs seen := by
  unfold leftB
  have h := sum_one (f := fun j => if (seen.set k true)[j]? = some true then 0 else (goesN cs j).length) (g := fun j => if seen[j]? = some true then 0 else (goesN cs j).length) (a := k) cs.length (fun j hj => by rw [List.getElem?_set_ne (fun e => hj e.symm)]) hk
  simp only [if_neg hs, List.getElem?_set_self (show k < seen.length by omega), if_true, Nat.add_zero] at h
  exact h
end Go.Proofs.Ytgdoklbcmgkllaa

/- Looking for a silent round along one way: what stands as it goes on, and that it ends. No program. -/
import Derived.Test.YtgdoklbcmgkllaaBDfs
namespace Go.Proofs.Ytgdoklbcmgkllaa

/-- What stands: the way, and which ones were passed. -/
structure Wy (cs : List Bi) (i : Nat) (T : List Int) (seen : List Bool) : Prop where
  len : seen.length = cs.length
  qt : quietN cs i = true
  stk : ∀ t ∈ T, ∃ k : Nat, t = (k : Int) ∧ k < cs.length ∧ (k = i ∨ seen[k]? = some true)
  sn : ∀ k, seen[k]? = some true → quietN cs k = true ∧ k ≠ i ∧ ∃ m, Pth cs m i k
  cl : ∀ k : Nat, (k = i ∨ seen[k]? = some true) → (k : Int) ∉ T → ∀ t ∈ goesN cs k, t ≠ (i : Int) ∧ (seen[t.toNat]? = some true ∨ quietN cs t.toNat = false)
section
variable {cs : List Bi} {i : Nat} {T : List Int} {seen : List Bool}
theorem Wy.start (hi : i < cs.length) (hq : quietN cs i = true) : Wy cs i [(i : Int)] (List.replicate cs.length false) :=
  ⟨by simp, hq, fun t ht => ⟨i, by simpa using ht, hi, .inl rfl⟩, fun k hk => by rw [List.getElem?_replicate] at hk; split at hk <;> simp at hk, fun k hk hn => by
    rcases hk with rfl | hk
    · simp at hn
    · rw [List.getElem?_replicate] at hk
      split at hk <;> simp at hk⟩
theorem Wy.top {u : Int} (h : Wy cs i (T ++ [u]) seen) : ∃ k : Nat, u = (k : Int) ∧ k < cs.length ∧ quietN cs k = true ∧ (k = i ∨ ∃ m, Pth cs m i k) := by
  obtain ⟨k, e, hk, h1⟩ := h.stk u (by simp)
  refine ⟨k, e, hk, ?_, ?_⟩
  · rcases h1 with rfl | h1
    · exact h.qt
    · exact (h.sn k h1).1
  · rcases h1 with h1 | h1
    · exact .inl h1
    · exact .inr (h.sn k h1).2.2
theorem Wy.goes_ {k : Nat} {t : Int} (hj : ∀ i x, cs[i]? = some x → jumpX cs.length i x = true) (hq : quietN cs k = true) (hk : k = i ∨ ∃ m, Pth cs m i k) (ht : t ∈ goesN cs k) : ∃ m, Pth cs m i t.toNat := by
  have h2 := goes_lt hj ht
  have hs := sil_of hq ht h2.1
  rcases hk with rfl | ⟨m, hm⟩
  · exact ⟨1, .one hs (by omega)⟩
  · exact ⟨m + 1, .snoc hm hs (by omega)⟩
theorem Wy.found {k : Nat} (hj : ∀ i x, cs[i]? = some x → jumpX cs.length i x = true) (hq : quietN cs k = true) (hk : k = i ∨ ∃ m, Pth cs m i k) (ht : (i : Int) ∈ goesN cs k) : roundB cs i = true := by
  obtain ⟨m, hm⟩ := Wy.goes_ hj hq hk ht
  rw [Int.toNat_natCast] at hm
  exact round_iff.2 ⟨m, hm⟩
theorem Wy.push {k t : Nat} (hj : ∀ i x, cs[i]? = some x → jumpX cs.length i x = true) (h : Wy cs i T seen) (hq : quietN cs k = true) (hk : k = i ∨ ∃ m, Pth cs m i k) (ht : (t : Int) ∈ goesN cs k) (hi : t ≠ i) (hqt : quietN cs t = true) : Wy cs i (T ++ [(t : Int)]) (seen.set t true) := by
  have hlt2 := goes_lt hj ht
  have hlt : t < seen.length := by rw [h.len]; omega
  obtain ⟨m, hm⟩ := Wy.goes_ hj hq hk ht
  rw [Int.toNat_natCast] at hm
  have hset : ∀ k, (seen.set t true)[k]? = some true ↔ k = t ∨ seen[k]? = some true := fun k => by
    by_cases e : k = t
    · subst e
      rw [List.getElem?_set_self hlt]
      simp
    · rw [List.getElem?_set_ne (fun e2 => e e2.symm)]
      simp [e]
  refine ⟨by rw [List.length_set]; exact h.len, h.qt, fun u hu => ?_, fun k2 hk2 => ?_, fun k2 hk2 hn u hu => ?_⟩
  · rcases List.mem_append.1 hu with h1 | h1
    · obtain ⟨a, b, c, d⟩ := h.stk u h1
      exact ⟨a, b, c, d.imp_right fun d => (hset a).2 (.inr d)⟩
    · exact ⟨t, by simpa using h1, by omega, .inr ((hset t).2 (.inl rfl))⟩
  · rcases (hset k2).1 hk2 with rfl | h1
    · exact ⟨hqt, hi, m, hm⟩
    · exact h.sn k2 h1
  · have hn1 : (k2 : Int) ∉ T := fun e => hn (List.mem_append.2 (.inl e))
    have hn2 : k2 ≠ t := fun e => hn (by rw [e]; simp)
    have hk3 : k2 = i ∨ seen[k2]? = some true := hk2.imp_right fun d => ((hset k2).1 d).resolve_left hn2
    obtain ⟨a, b⟩ := h.cl k2 hk3 hn1 u hu
    exact ⟨a, b.imp_left fun d => (hset _).2 (.inr d)⟩
theorem Wy.pop {k : Nat} (h : Wy cs i (T ++ [(k : Int)]) seen) (ha : ∀ t ∈ goesN cs k, t ≠ (i : Int) ∧ (seen[t.toNat]? = some true ∨ quietN cs t.toNat = false)) : Wy cs i T seen :=
  ⟨h.len, h.qt, fun t ht => h.stk t (List.mem_append.2 (.inl ht)), h.sn, fun k2 hk2 hn t ht => by
    by_cases e : k2 = k
    · subst e
      exact ha t ht
    · exact h.cl k2 hk2 (fun hm => by
        rcases List.mem_append.1 hm with h1 | h1
        · exact hn h1
        · simp at h1; omega) t ht⟩
theorem Wy.done (h : Wy cs i [] seen) : roundB cs i = false := by
  cases hr : roundB cs i with
  | false => rfl
  | true =>
    obtain ⟨m, hm⟩ := round_iff.1 hr
    have step : ∀ {k j : Nat}, (k = i ∨ seen[k]? = some true) → silB cs k j = true → j ≠ i ∧ (seen[j]? = some true ∨ quietN cs j = false) := fun {k j} hk hs => by
      unfold silB at hs
      rw [Bool.and_eq_true, List.contains_iff_mem] at hs
      obtain ⟨a, b⟩ := h.cl k hk (by simp) _ hs.2
      rw [Int.toNat_natCast] at b
      exact ⟨by omega, b⟩
    have all : ∀ {m a j : Nat}, Pth cs m a j → a = i → j ≠ i ∧ (seen[j]? = some true ∨ quietN cs j = false) := fun {m a j} hp => by
      induction hp with
      | one hs _ => intro e; subst e; exact step (.inl rfl) hs
      | snoc _ hs _ ih =>
        intro e
        rcases (ih e).2 with h1 | h1
        · exact step (.inr h1) hs
        · unfold silB at hs
          rw [h1] at hs
          cases hs
    exact absurd rfl (all hm rfl).1
end
theorem count_setB {seen : List Bool} {t : Nat} (h : seen[t]? = some false) : (seen.set t true).count false + 1 = seen.count false := by
  induction seen generalizing t with
  | nil => simp at h
  | cons b l ih =>
    cases t with
    | zero => simp at h; subst h; simp
    | succ t =>
      simp at h
      have := ih h
      cases b <;> simp <;> omega
end Go.Proofs.Ytgdoklbcmgkllaa

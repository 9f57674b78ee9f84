/- BlocksKnown: the codes, and how they are cut. No program. -/
import Derived.Test.YtnejikkibneegaaBLaw
namespace Go.Proofs.Ytnejikkibneegaa

def nopsL (n : Nat) : List Bi := List.replicate n (0, []) ++ [(24, [])]
theorem nops_len (n : Nat) : (nopsL n).length = n + 1 := by simp [nopsL]
theorem nops_at {n i : Nat} : (nopsL n)[i]? = if i < n then some (0, []) else if i = n then some (24, []) else none := by
  unfold nopsL
  by_cases h : i < n
  · rw [if_pos h, List.getElem?_append_left (by simpa using h), List.getElem?_replicate, if_pos h]
  · rw [if_neg h, List.getElem?_append_right (by simpa using h), List.length_replicate]
    by_cases h2 : i = n
    · subst h2; simp
    · rw [if_neg h2, List.getElem?_eq_none (by simp; omega)]
theorem cut_129 : cutA (nopsL 128) = (([], []), -1, 2) := by
  unfold cutA
  rw [if_pos (by rw [nops_len]; omega)]
theorem starts_128 : startsL (nopsL 127) = [0] := by decide +kernel
theorem sil_128 {i j : Nat} (h : silB (nopsL 127) i j = true) : i < j := by
  unfold silB at h
  rw [Bool.and_eq_true, List.contains_iff_mem] at h
  have h2 := h.2
  unfold goesN at h2
  rw [nops_at] at h2
  by_cases h1 : i < 127
  · rw [if_pos h1] at h2
    have h3 : ((j : Nat) : Int) ∈ [((i + 1 : Nat) : Int)] := h2
    simp only [List.mem_singleton] at h3
    omega
  · rw [if_neg h1] at h2
    by_cases h4 : i = 127
    · rw [if_pos h4] at h2
      subst h4
      have h3 : ((j : Nat) : Int) ∈ ([] : List Int) := h2
      cases h3
    · rw [if_neg h4] at h2
      cases h2
theorem ok_128 : CutOk (nopsL 127) := by
  refine ⟨by rw [nops_len]; omega, by rw [nops_len]; omega, fun i x hx => ?_, fun b hb => ?_, fun i _ => round_up id (fun i j h => sil_128 h) i⟩
  · rw [nops_len]
    rw [nops_at] at hx
    by_cases h1 : i < 127
    · rw [if_pos h1] at hx
      injection hx with hx
      subst hx
      unfold jumpX
      have : decide (i + 1 < 127 + 1) = true := decide_eq_true (by omega)
      rw [this]
      rfl
    · rw [if_neg h1] at hx
      by_cases h4 : i = 127
      · rw [if_pos h4] at hx
        injection hx with hx
        subst hx
        unfold jumpX
        have : closeB 24 = true := rfl
        simp only [this, Bool.or_true, Bool.and_true]
        rfl
      · rw [if_neg h4] at hx
        cases hx
  · rw [starts_128] at hb
    obtain rfl : b = 0 := by simpa using hb
    rfl
/-- The codes, each with what is told of it. -/
def kR : List (List Bi × Int × Int) := [([], -1, 2), (nopsL 128, -1, 2), (nopsL 127, -1, 0), ([(0, [])], 0, 12), ([(0, []), (11, [0])], 0, 14), ([(11, [2]), (0, []), (24, [])], 1, 13), ([(11, [1, 1]), (24, [])], 0, 12), ([(11, []), (24, [])], 0, 12), ([(19, []), (24, [])], 0, 12),
  ([(0, []), (12, [3]), (24, [])], 1, 12), ([(0, []), (12, [0])], 1, 12), ([(24, []), (24, [])], 1, 13), ([(15, []), (11, [1])], 1, 14), ([(19, [0])], -1, 0), ([(14, [9]), (24, [])], -1, 0), ([(99, []), (24, [])], -1, 0)]
theorem kR_cut : ∀ p ∈ kR, (cutA p.1).2 = p.2 := by
  intro p hp
  simp only [kR, List.mem_cons, List.not_mem_nil, or_false] at hp
  rcases hp with rfl | rfl | rfl | rfl | rfl | rfl | rfl | rfl | rfl | rfl | rfl | rfl | rfl | rfl | rfl | rfl
  · decide
  · show (cutA (nopsL 128)).2 = _; rw [cut_129]
  · show (cutA (nopsL 127)).2 = _; rw [ok_128.is]
  all_goals decide
theorem kR_len : ∀ p ∈ kR, ∀ x ∈ p.1, x.2.length ≤ 1048576 := by
  have hn : ∀ n, ∀ x ∈ nopsL n, x.2.length ≤ 1048576 := fun n x hx => by
    unfold nopsL at hx
    rcases List.mem_append.1 hx with h | h
    · rw [(List.mem_replicate.1 h).2]; simp
    · rw [List.mem_singleton.1 h]; simp
  intro p hp
  simp only [kR, List.mem_cons, List.not_mem_nil, or_false] at hp
  rcases hp with rfl | rfl | rfl | rfl | rfl | rfl | rfl | rfl | rfl | rfl | rfl | rfl | rfl | rfl | rfl | rfl
  · simp
  · exact hn 128
  · exact hn 127
  all_goals (intro x hx; simp only [List.mem_cons, List.not_mem_nil, or_false] at hx; rcases hx with rfl | rfl | rfl <;> simp)
theorem cut_k1 : cutA [(0, []), (15, []), (11, [0])] = (([0], [[0]]), -1, 0) := by decide
theorem cut_k2 : cutA [(19, [2, 1, 2]), (0, []), (15, []), (12, [1]), (24, [])] = (([0, 1, 2, 4], [[2, 1, 2], [2], [1, 3], []]), -1, 0) := by decide
end Go.Proofs.Ytnejikkibneegaa

/- Blocks as the chapter has them: what follows of a code that is cut, and of one that is not. No program. -/
import Derived.Test.YtgdoklbcmgkllaaBDoc
namespace Go.Proofs.Ytgdoklbcmgkllaa

/-- What a code is that is cut. -/
structure CutOk (cs : List Bi) : Prop where
  n0 : 1 ≤ cs.length
  n1 : cs.length ≤ 128
  jmp : ∀ i x, cs[i]? = some x → jumpX cs.length i x = true
  live : ∀ b, b < (startsL cs).length → deadB cs b = false
  still : ∀ i, i < cs.length → roundB cs i = false
abbrev flowB (cs : List Bi) : List Nat × List (List Nat) := (startsL cs, (List.range (startsL cs).length).map (nextB cs))
theorem find_first {p : Nat → Bool} {n i : Nat} (h : (List.range n).find? p = some i) : i < n ∧ p i = true ∧ ∀ j, j < i → p j = false := by
  rw [List.find?_range_eq_some] at h
  exact ⟨List.mem_range.1 h.2.1, h.1, fun j hj => by simpa using h.2.2 j hj⟩
theorem find_nowhere {p : Nat → Bool} {n : Nat} (h : (List.range n).find? p = none) : ∀ j, j < n → p j = false := by
  rw [List.find?_eq_none] at h
  exact fun j hj => by simpa using h j (List.mem_range.2 hj)
theorem cut_cases (cs : List Bi) : (cutA cs = (([], []), -1, 2) ∧ (cs.length < 1 ∨ 128 < cs.length)) ∨
    (∃ i, i < cs.length ∧ cs.length ≤ 128 ∧ cutA cs = (([], []), (i : Int), 12) ∧ jumpN cs i = false ∧ ∀ j, j < i → jumpN cs j = true) ∨
    (∃ b, 1 ≤ cs.length ∧ cs.length ≤ 128 ∧ (∀ i x, cs[i]? = some x → jumpX cs.length i x = true) ∧ b < (startsL cs).length ∧ cutA cs = (([], []), (((startsL cs).getD b 0 : Nat) : Int), 13) ∧ deadB cs b = true ∧ ∀ j, j < b → deadB cs j = false) ∨
    (∃ i, i < cs.length ∧ cs.length ≤ 128 ∧ (∀ i x, cs[i]? = some x → jumpX cs.length i x = true) ∧ (∀ b, b < (startsL cs).length → deadB cs b = false) ∧ cutA cs = (([], []), (i : Int), 14) ∧ roundB cs i = true ∧ ∀ j, j < i → roundB cs j = false) ∨
    (CutOk cs ∧ cutA cs = (flowB cs, -1, 0)) := by
  unfold cutA
  by_cases h1 : cs.length < 1 ∨ 128 < cs.length
  · rw [if_pos h1]; exact .inl ⟨rfl, h1⟩
  · rw [if_neg h1]
    refine .inr ?_
    cases h2 : (List.range cs.length).find? (fun i => !jumpN cs i) with
    | some i =>
      obtain ⟨a, b, c⟩ := find_first h2
      exact .inl ⟨i, a, by omega, rfl, by simpa using b, fun j hj => by simpa using c j hj⟩
    | none =>
      have hj : ∀ i x, cs[i]? = some x → jumpX cs.length i x = true := fun i x hx => by
        have := find_nowhere h2 i (List.getElem?_eq_some_iff.1 hx).1
        unfold jumpN at this
        rw [hx] at this
        simpa using this
      refine .inr ?_
      cases h3 : (List.range (startsL cs).length).find? (deadB cs) with
      | some b =>
        obtain ⟨a, c, d⟩ := find_first h3
        exact .inl ⟨b, by omega, by omega, hj, a, rfl, c, d⟩
      | none =>
        refine .inr ?_
        cases h4 : (List.range cs.length).find? (roundB cs) with
        | some i =>
          obtain ⟨a, b, c⟩ := find_first h4
          exact .inl ⟨i, a, by omega, hj, find_nowhere h3, rfl, b, c⟩
        | none => exact .inr ⟨⟨by omega, by omega, hj, find_nowhere h3, find_nowhere h4⟩, rfl⟩
theorem cut_ok {cs : List Bi} (h : (cutA cs).2.2 = 0) : CutOk cs ∧ cutA cs = (flowB cs, -1, 0) := by
  rcases cut_cases cs with ⟨e, _⟩ | ⟨i, _, _, e, _⟩ | ⟨b, _, _, _, _, e, _⟩ | ⟨i, _, _, _, _, e, _⟩ | h2
  · rw [e] at h; simp at h
  · rw [e] at h; simp at h
  · rw [e] at h; simp at h
  · rw [e] at h; simp at h
  · exact h2
theorem CutOk.is {cs : List Bi} (h : CutOk cs) : cutA cs = (flowB cs, -1, 0) := by
  rcases cut_cases cs with ⟨e, h2⟩ | ⟨i, _, _, e, h2, _⟩ | ⟨b, _, _, _, h1, e, h2, _⟩ | ⟨i, h1, _, _, _, e, h2, _⟩ | h2
  · have := h.n0; have := h.n1; omega
  · unfold jumpN at h2
    cases hc : cs[i]? with
    | none => rw [hc] at h2; cases h2
    | some x => rw [hc] at h2; simp only [h.jmp i x hc] at h2; cases h2
  · rw [h.live b h1] at h2; cases h2
  · rw [h.still i h1] at h2; cases h2
  · exact h2.2
-- where blocks begin
theorem mem_starts {cs : List Bi} {i : Nat} : i ∈ startsL cs ↔ i < cs.length ∧ beginB cs i = true := by
  unfold startsL
  rw [List.mem_filter, List.mem_range]
theorem starts_rise (cs : List Bi) : (startsL cs).Pairwise (· < ·) := List.Pairwise.filter _ List.pairwise_lt_range
theorem starts_lt {cs : List Bi} {a b s t : Nat} (ha : (startsL cs)[a]? = some s) (hb : (startsL cs)[b]? = some t) (h : a < b) : s < t := by
  obtain ⟨h1, e1⟩ := List.getElem?_eq_some_iff.1 ha
  obtain ⟨h2, e2⟩ := List.getElem?_eq_some_iff.1 hb
  have := List.pairwise_iff_getElem.1 (starts_rise cs) a b h1 h2 h
  rwa [e1, e2] at this
theorem starts_zero {cs : List Bi} (h : 1 ≤ cs.length) : (startsL cs)[0]? = some 0 := by
  have h0 : (0 : Nat) ∈ startsL cs := mem_starts.2 ⟨by omega, by unfold beginB; simp⟩
  obtain ⟨k, hk⟩ := List.mem_iff_getElem?.1 h0
  rcases Nat.eq_zero_or_pos k with e | e
  · rwa [e] at hk
  · have hl : 0 < (startsL cs).length := by
      have := (List.getElem?_eq_some_iff.1 hk).1
      omega
    have := starts_lt (List.getElem?_eq_getElem hl) hk e
    omega
theorem count_at : ∀ {l : List Nat} {b s : Nat}, l.Pairwise (· < ·) → l[b]? = some s → ∀ i, s ≤ i → (∀ t, l[b + 1]? = some t → i < t) → l.countP (fun s => decide (s ≤ i)) = b + 1
  | [], b, s, _, h, i, _, _ => by simp at h
  | x :: l, 0, s, hp, h, i, hi, hn => by
    simp only [List.getElem?_cons_zero, Option.some.injEq] at h
    subst h
    have h0 : l.countP (fun s => decide (s ≤ i)) = 0 := by
      rw [List.countP_eq_zero]
      intro t ht
      simp only [decide_eq_true_eq, Nat.not_le]
      obtain ⟨k, hk⟩ := List.mem_iff_getElem?.1 ht
      cases l with
      | nil => simp at hk
      | cons y l =>
        have hy := hn y rfl
        rcases Nat.eq_zero_or_pos k with e | e
        · subst e
          simp only [List.getElem?_cons_zero, Option.some.injEq] at hk
          omega
        · have h2 := (List.pairwise_cons.1 (List.pairwise_cons.1 hp).2).1
          rcases List.mem_cons.1 ht with h3 | h3
          · omega
          · have := h2 t h3
            omega
    rw [List.countP_cons_of_pos (by simpa using hi), h0]
  | x :: l, b + 1, s, hp, h, i, hi, hn => by
    simp only [List.getElem?_cons_succ] at h
    have hx := (List.pairwise_cons.1 hp).1 s (List.mem_of_getElem? h)
    rw [List.countP_cons_of_pos (by simp; omega), count_at (List.pairwise_cons.1 hp).2 h i hi (fun t ht => hn t (by simpa using ht))]
/-- The block with this number: where it begins, and ends. -/
theorem num_in {cs : List Bi} {b s i : Nat} (h : (startsL cs)[b]? = some s) (hi : s ≤ i) (hl : i ≤ lastB cs b) (_hn : i < cs.length) : numB cs i = b := by
  unfold numB
  rw [count_at (starts_rise cs) h i hi (fun t ht => by
    unfold lastB at hl
    rw [ht] at hl
    have := starts_lt h ht (by omega)
    simp only at hl
    omega)]
  rfl
theorem last_in {cs : List Bi} {b s : Nat} (h : (startsL cs)[b]? = some s) : s ≤ lastB cs b ∧ lastB cs b < cs.length := by
  have hs := (mem_starts.1 (List.mem_of_getElem? h)).1
  unfold lastB
  cases ht : (startsL cs)[b + 1]? with
  | none => simp only; omega
  | some t =>
    have h1 := starts_lt h ht (by omega)
    have h2 := (mem_starts.1 (List.mem_of_getElem? ht)).1
    simp only
    omega
theorem num_start {cs : List Bi} {b s : Nat} (h : (startsL cs)[b]? = some s) : numB cs s = b :=
  num_in h (Nat.le_refl _) (last_in h).1 (mem_starts.1 (List.mem_of_getElem? h)).1
/-- Each instruction lies in the block that has its number. -/
theorem num_has {cs : List Bi} {i : Nat} (hi : i < cs.length) : ∃ s, (startsL cs)[numB cs i]? = some s ∧ s ≤ i ∧ i ≤ lastB cs (numB cs i) := by
  -- the greatest start that is not above i
  have h0 : ∃ b s, (startsL cs)[b]? = some s ∧ s ≤ i := ⟨0, 0, starts_zero (by omega), Nat.zero_le _⟩
  have : ∀ m, ∀ b s, (startsL cs).length - b ≤ m → (startsL cs)[b]? = some s → s ≤ i → ∃ b s, (startsL cs)[b]? = some s ∧ s ≤ i ∧ i ≤ lastB cs b := by
    intro m
    induction m with
    | zero => intro b s hm hb _; have := (List.getElem?_eq_some_iff.1 hb).1; omega
    | succ m ih =>
      intro b s hm hb hs
      cases ht : (startsL cs)[b + 1]? with
      | none => exact ⟨b, s, hb, hs, by unfold lastB; rw [ht]; simp only; omega⟩
      | some t =>
        by_cases hti : t ≤ i
        · exact ih (b + 1) t (by omega) ht hti
        · exact ⟨b, s, hb, hs, by unfold lastB; rw [ht]; simp only; omega⟩
  obtain ⟨b0, s0, hb0, hs0⟩ := h0
  obtain ⟨b, s, hb, hs, hl⟩ := this _ b0 s0 (Nat.le_refl _) hb0 hs0
  rw [num_in hb hs hl hi]
  exact ⟨s, hb, hs, hl⟩
/-- In a block each instruction but the last one goes to the one behind it alone, where no block begins. -/
theorem goes_in {cs : List Bi} {b s i : Nat} (h : (startsL cs)[b]? = some s) (hi : s ≤ i) (hl : i < lastB cs b) : goesN cs i = [((i + 1 : Nat) : Int)] ∧ beginB cs (i + 1) = false := by
  have hn := (last_in h).2
  have hb : beginB cs (i + 1) = false := by
    cases hb : beginB cs (i + 1) with
    | false => rfl
    | true =>
      have hm : i + 1 ∈ startsL cs := mem_starts.2 ⟨by omega, hb⟩
      obtain ⟨k, hk⟩ := List.mem_iff_getElem?.1 hm
      have h1 := num_start hk
      have h2 := num_in h (show s ≤ i + 1 by omega) (by omega) (by omega)
      rw [h2] at h1
      subst h1
      rw [h] at hk
      injection hk with hk
      omega
  refine ⟨?_, hb⟩
  unfold beginB at hb
  simp only [Bool.or_eq_false_iff, Nat.add_sub_cancel] at hb
  have hx : cs[i]? = some cs[i] := List.getElem?_eq_getElem (by omega)
  rw [hx] at hb
  unfold goesN
  rw [hx]
  have hc : cutX cs[i] = false := hb.2
  unfold cutX at hc
  rw [Bool.or_eq_false_iff] at hc
  have ht : hasT cs[i].1 = false := by
    have h1 := hc.1
    have h2 := hc.2
    unfold closeB at h1
    simp only [Bool.or_eq_false_iff] at h1
    unfold hasT
    rw [h1.1.1, h2, h1.1.2]
    rfl
  show goesX i cs[i] = _
  unfold goesX tgtL
  rw [ht, hc.1]
  rfl
theorem jump_facts {n i : Nat} {x : Bi} (h : jumpX n i x = true) : (∀ t ∈ tgtL x, 0 ≤ t ∧ t < (n : Int)) ∧ (i + 1 < n ∨ closeB x.1 = true) := by
  unfold jumpX at h
  simp only [Bool.and_eq_true, Bool.or_eq_true, List.all_eq_true, decide_eq_true_eq] at h
  exact ⟨h.1.2, h.2⟩
/-- Where one goes there is an instruction. -/
theorem goes_lt {cs : List Bi} (hj : ∀ i x, cs[i]? = some x → jumpX cs.length i x = true) {i : Nat} {t : Int} (h : t ∈ goesN cs i) : 0 ≤ t ∧ t < cs.length := by
  unfold goesN at h
  cases hx : cs[i]? with
  | none => rw [hx] at h; cases h
  | some x =>
    rw [hx] at h
    obtain ⟨h1, h2⟩ := jump_facts (hj i x hx)
    unfold goesX at h
    rcases List.mem_append.1 h with h3 | h3
    · exact h1 t h3
    · split at h3
      · cases h3
      · rename_i hc
        simp only [List.mem_singleton] at h3
        rcases h2 with h2 | h2
        · omega
        · exact absurd h2 hc
/-- Where a block's last instruction goes a block begins. -/
theorem goes_begin {cs : List Bi} (hj : ∀ i x, cs[i]? = some x → jumpX cs.length i x = true) {b s : Nat} (h : (startsL cs)[b]? = some s) {t : Int} (ht : t ∈ goesN cs (lastB cs b)) : ∃ k, t = ((k : Nat) : Int) ∧ k ∈ startsL cs := by
  obtain ⟨h0, h1⟩ := goes_lt hj ht
  refine ⟨t.toNat, by omega, mem_starts.2 ⟨by omega, ?_⟩⟩
  have hn := (last_in h).2
  have hx : cs[lastB cs b]? = some cs[lastB cs b] := List.getElem?_eq_getElem hn
  unfold goesN at ht
  rw [hx] at ht
  have ht2 : t ∈ goesX (lastB cs b) cs[lastB cs b] := ht
  unfold goesX at ht2
  rcases List.mem_append.1 ht2 with h3 | h3
  · unfold beginB
    have : cs.any (fun x => (tgtL x).contains (t.toNat : Int)) = true := by
      rw [List.any_eq_true]
      refine ⟨_, List.getElem_mem hn, ?_⟩
      rw [List.contains_iff_mem]
      have e : ((t.toNat : Nat) : Int) = t := by omega
      rw [e]
      exact h3
    rw [this]
    simp
  · split at h3
    · cases h3
    · rename_i hc
      simp only [List.mem_singleton] at h3
      have e : t.toNat = lastB cs b + 1 := by omega
      cases hs : (startsL cs)[b + 1]? with
      | none =>
        have : lastB cs b = cs.length - 1 := by unfold lastB; rw [hs]
        omega
      | some s2 =>
        have h4 := starts_lt h hs (by omega)
        have : lastB cs b = s2 - 1 := by unfold lastB; rw [hs]
        have e2 : t.toNat = s2 := by omega
        rw [e2]
        exact (mem_starts.1 (List.mem_of_getElem? hs)).2
theorem next_at {cs : List Bi} (hj : ∀ i x, cs[i]? = some x → jumpX cs.length i x = true) {b s : Nat} (h : (startsL cs)[b]? = some s) {t : Int} (ht : t ∈ goesN cs (lastB cs b)) : (startsL cs)[numB cs t.toNat]? = some t.toNat ∧ 0 ≤ t := by
  obtain ⟨k, e, hk⟩ := goes_begin hj h ht
  subst e
  obtain ⟨m, hm⟩ := List.mem_iff_getElem?.1 hk
  rw [Int.toNat_natCast, num_start hm]
  exact ⟨hm, by omega⟩
/-- Each block but the first one is gone to from an earlier one. -/
theorem live_from {cs : List Bi} {b : Nat} (h : deadB cs b = false) (hb : 0 < b) : ∃ a, a < b ∧ b ∈ nextB cs a := by
  unfold deadB at h
  rw [Bool.and_eq_false_iff] at h
  rcases h with h | h
  · simp at h; omega
  · simp only [Bool.not_eq_false', List.any_eq_true, List.mem_range, List.contains_iff_mem] at h
    exact h
/-- Whoever goes on meets one that talks. -/
theorem CutOk.talks {cs : List Bi} (h : CutOk cs) {i j : Nat} (hp : Pth cs cs.length i j) : False := by
  obtain ⟨h1, P, p0, pk, hs⟩ := hp.fns
  obtain ⟨a, b, hab, hb, he⟩ := pigeonB cs.length P (fun m hm => by
    by_cases e : m = cs.length
    · have := (hs (m - 1) (by omega)).2
      have e2 : m - 1 + 1 = m := by omega
      rwa [e2] at this
    · exact sil_lt (hs m (by omega)).1)
  have hw : Pth cs (b - a - 1 + 1) (P a) (P (a + (b - a - 1) + 1)) := Pth.of_fns (b - a - 1) fun m hm => hs (a + m) (by omega)
  have e : a + (b - a - 1) + 1 = b := by omega
  rw [e, ← he] at hw
  have := h.still (P a) (sil_lt (hs a (by omega)).1)
  rw [round_iff.2 ⟨_, hw⟩] at this
  cases this
/-- To a dead block nothing ahead of it goes. -/
theorem dead_none {cs : List Bi} {b s i : Nat} (h : deadB cs b = true) (hb : (startsL cs)[b]? = some s) (hi : i < s) : ((s : Nat) : Int) ∉ goesN cs i := by
  intro ht
  have hs := mem_starts.1 (List.mem_of_getElem? hb)
  obtain ⟨s2, h1, h2, h3⟩ := num_has (cs := cs) (i := i) (by omega)
  have hab : numB cs i < b := by
    rcases Nat.lt_or_ge (numB cs i) b with h4 | h4
    · exact h4
    · rcases Nat.lt_or_eq_of_le h4 with h5 | h5
      · have := starts_lt hb h1 h5
        omega
      · rw [← h5, hb] at h1
        injection h1 with h1
        omega
  rcases Nat.lt_or_eq_of_le h3 with h4 | h4
  · obtain ⟨h5, h6⟩ := goes_in h1 h2 h4
    rw [h5] at ht
    simp only [List.mem_singleton] at ht
    have e : s = i + 1 := by omega
    rw [e, h6] at hs
    exact absurd hs.2 (by simp)
  · have hm : b ∈ nextB cs (numB cs i) := by
      unfold nextB
      rw [← h4]
      refine List.mem_map.2 ⟨_, ht, ?_⟩
      rw [Int.toNat_natCast, num_start hb]
    unfold deadB at h
    rw [Bool.and_eq_true] at h
    have h5 : (List.range b).any (fun a => (nextB cs a).contains b) = true := List.any_eq_true.2 ⟨_, List.mem_range.2 hab, List.contains_iff_mem.2 hm⟩
    rw [h5] at h
    exact absurd h.2 (by simp)
end Go.Proofs.Ytgdoklbcmgkllaa

/- Numbers by sevens of bits: what is laid, what is taken, and that they belong together. No program. -/
import Derived.WalkKit
namespace Go.Proofs.YtmbdaenjeeklfaaDoor

/-- The bytes of a number. -/
def sev (n : Nat) : List UInt8 := if n < 128 then [UInt8.ofNat n] else UInt8.ofNat (n % 128 + 128) :: sev (n / 128)
termination_by n
decreasing_by omega
theorem sev_lt {n : Nat} (h : n < 128) : sev n = [UInt8.ofNat n] := by rw [sev, if_pos h]
theorem sev_ge {n : Nat} (h : 128 ≤ n) : sev n = UInt8.ofNat (n % 128 + 128) :: sev (n / 128) := by rw [sev, if_neg (by omega)]
/-- The number of bytes. -/
def num (l : List UInt8) : Nat := l.foldr (fun b n => n * 128 + b.toNat % 128) 0
theorem num_cons (b : UInt8) (l : List UInt8) : num (b :: l) = num l * 128 + b.toNat % 128 := rfl
theorem num_nil : num [] = 0 := rfl

/-- Bytes end before the number does. -/
def Short (l : List UInt8) : Prop := l.length < 10 ∧ ∀ (j : Nat) (u : UInt8), l[j]? = some u → 128 ≤ u.toNat
/-- k bytes are taken. -/
structure Taken (l : List UInt8) (k : Nat) : Prop where
  pos : 1 ≤ k
  le : k ≤ 10
  len : k ≤ l.length
  high : ∀ (j : Nat) (u : UInt8), j + 1 < k → l[j]? = some u → 128 ≤ u.toNat
  last : ∀ u : UInt8, l[k - 1]? = some u → u.toNat < 128 ∨ k = 10
theorem taken_or (l : List UInt8) : Short l ∨ ∃ k, Taken l k := by
  have H : ∀ c, c ≤ 10 → c ≤ l.length → (∀ j u, j < c → l[j]? = some u → 128 ≤ u.toNat) → Short l ∨ ∃ k, Taken l k := by
    intro c
    induction hm : 10 - c generalizing c with
    | zero =>
      intro h1 h2 h3
      have hc : c = 10 := by omega
      subst hc
      exact .inr ⟨10, by omega, by omega, h2, fun j u hj => h3 j u (by omega), fun _ _ => .inr rfl⟩
    | succ m ih =>
      intro h1 h2 h3
      by_cases hl : c = l.length
      · exact .inl ⟨by omega, fun j u hj => h3 j u (by have := (List.getElem?_eq_some_iff.1 hj).1; omega) hj⟩
      · have hlt : c < l.length := by omega
        by_cases hb : (l[c]'hlt).toNat < 128
        · refine .inr ⟨c + 1, by omega, by omega, by omega, fun j u hj => h3 j u (by omega), fun u hu => .inl ?_⟩
          rw [Nat.add_sub_cancel, List.getElem?_eq_getElem hlt] at hu
          injection hu with hu
          rw [← hu]; exact hb
        · refine ih (c + 1) (by omega) (by omega) (by omega) (fun j u hj hu => ?_)
          by_cases he : j = c
          · subst he
            rw [List.getElem?_eq_getElem hlt] at hu
            injection hu with hu
            rw [← hu]; omega
          · exact h3 j u (by omega) hu
  exact H 0 (by omega) (by omega) (fun j u hj => by omega)
/-- The bytes that were taken are no number's, or not those that it has. -/
def Bad (t : List UInt8) : Prop := ∃ u, t[t.length - 1]? = some u ∧ (128 ≤ u.toNat ∨ (t.length = 10 ∧ 1 < u.toNat) ∨ (1 < t.length ∧ u.toNat = 0))

theorem u8_ofNat {n : Nat} (h : n < 256) : (UInt8.ofNat n).toNat = n := by simp [UInt8.toNat_ofNat']; omega
theorem sev_pos (n : Nat) : 1 ≤ (sev n).length := by
  by_cases h : n < 128
  · rw [sev_lt h]; simp
  · rw [sev_ge (by omega)]; simp
theorem sev_len : ∀ (k n : Nat), 1 ≤ k → n < 128 ^ k → (sev n).length ≤ k := by
  intro k
  induction k with
  | zero => intro n h; omega
  | succ k ih =>
    intro n _ hn
    by_cases h : n < 128
    · rw [sev_lt h]; simp
    · rw [sev_ge (by omega), List.length_cons]
      by_cases hk : k = 0
      · subst hk; simp at hn; omega
      · have := ih (n / 128) (by omega) (by rw [Nat.pow_succ] at hn; omega)
        omega
theorem sev_len10 {n : Nat} (h : n < 18446744073709551616) : (sev n).length ≤ 10 := sev_len 10 n (by omega) (by omega)
theorem num_sev (n : Nat) : num (sev n) = n := by
  induction n using Nat.strongRecOn with
  | _ n ih =>
    by_cases h : n < 128
    · rw [sev_lt h, num_cons, num_nil, u8_ofNat (by omega)]; omega
    · rw [sev_ge (by omega), num_cons, ih (n / 128) (by omega), u8_ofNat (by omega)]; omega
theorem sev_high (n : Nat) : ∀ j u, j + 1 < (sev n).length → (sev n)[j]? = some u → 128 ≤ u.toNat := by
  induction n using Nat.strongRecOn with
  | _ n ih =>
    intro j u hj hu
    by_cases h : n < 128
    · rw [sev_lt h] at hj; simp at hj
    · rw [sev_ge (by omega)] at hj hu
      cases j with
      | zero =>
        rw [List.getElem?_cons_zero] at hu
        injection hu with hu
        rw [← hu, u8_ofNat (by omega)]; omega
      | succ j =>
        rw [List.length_cons] at hj
        rw [List.getElem?_cons_succ] at hu
        exact ih (n / 128) (by omega) j u (by omega) hu
theorem sev_last (n : Nat) : ∀ u, (sev n)[(sev n).length - 1]? = some u → u.toNat < 128 ∧ (1 < (sev n).length → u.toNat ≠ 0) := by
  induction n using Nat.strongRecOn with
  | _ n ih =>
    intro u hu
    by_cases h : n < 128
    · rw [sev_lt h] at hu ⊢
      simp at hu
      rw [← hu, u8_ofNat (by omega)]
      exact ⟨h, by simp⟩
    · have hp := sev_pos (n / 128)
      have h1 := ih (n / 128) (by omega)
      rw [sev_ge (by omega), List.length_cons] at hu
      rw [show (sev (n / 128)).length + 1 - 1 = ((sev (n / 128)).length - 1) + 1 by omega, List.getElem?_cons_succ] at hu
      refine ⟨(h1 u hu).1, fun _ h0 => ?_⟩
      by_cases hl : 1 < (sev (n / 128)).length
      · exact (h1 u hu).2 hl h0
      · -- ONE BYTE: the number behind is below 128, and not 0
        by_cases h2 : n / 128 < 128
        · rw [sev_lt h2] at hu
          simp at hu
          rw [← hu, u8_ofNat (by omega)] at h0
          omega
        · rw [sev_ge (by omega), List.length_cons] at hl
          have := sev_pos (n / 128 / 128)
          omega
theorem pow_num : ∀ (l : List UInt8), num l < 128 ^ l.length := by
  intro l
  induction l with
  | nil => simp [num]
  | cons b l ih =>
    rw [num_cons, List.length_cons, Nat.pow_succ]
    have : b.toNat % 128 < 128 := Nat.mod_lt _ (by omega)
    omega
/-- The tenth byte of a number that fits is 0 or 1. -/
theorem sev_tenth : ∀ (k n : Nat), n < 2 * 128 ^ k → (sev n).length = k + 1 → ∀ u, (sev n)[k]? = some u → u.toNat ≤ 1 := by
  intro k
  induction k with
  | zero =>
    intro n hn _ u hu
    simp at hn
    rw [sev_lt (by omega)] at hu
    simp at hu
    rw [← hu, u8_ofNat (by omega)]; omega
  | succ k ih =>
    intro n hn hl u hu
    by_cases h : n < 128
    · rw [sev_lt h] at hl; simp at hl
    · rw [sev_ge (by omega)] at hl hu
      rw [List.length_cons] at hl
      rw [List.getElem?_cons_succ] at hu
      exact ih (n / 128) (by rw [Nat.pow_succ] at hn; omega) (by omega) u hu

/-- **What is laid for a number is taken, is not bad, and is that number.** -/
theorem taken_sev {n : Nat} (hn : n < 18446744073709551616) (rest : List UInt8) : Taken (sev n ++ rest) (sev n).length := by
  have hp := sev_pos n
  refine ⟨hp, sev_len10 hn, by rw [List.length_append]; omega, fun j u hj hu => ?_, fun u hu => .inl ?_⟩
  · rw [List.getElem?_append_left (by omega)] at hu
    exact sev_high n j u hj hu
  · rw [List.getElem?_append_left (by omega)] at hu
    exact (sev_last n u hu).1
theorem good_sev {n : Nat} (hn : n < 18446744073709551616) : ¬ Bad (sev n) := by
  rintro ⟨u, hu, h⟩
  have h1 := sev_last n u hu
  rcases h with h | ⟨hl, h⟩ | ⟨hl, h⟩
  · omega
  · have := sev_tenth 9 n (by omega) hl u (by rw [hl] at hu; exact hu)
    omega
  · exact h1.2 hl h

/-- **The bytes from which a number is read are those that are laid for it.** -/
theorem sev_num : ∀ (t : List UInt8), 1 ≤ t.length → (∀ j u, j + 1 < t.length → t[j]? = some u → 128 ≤ u.toNat) → (∀ u, t[t.length - 1]? = some u → u.toNat < 128 ∧ (1 < t.length → u.toNat ≠ 0)) → sev (num t) = t := by
  intro t
  induction t with
  | nil => intro h; simp at h
  | cons b l ih =>
    intro _ hh hl
    cases l with
    | nil =>
      have := (hl b (by simp)).1
      rw [num_cons, num_nil, sev_lt (by omega)]
      congr 1
      apply UInt8.toNat_inj.1
      rw [u8_ofNat (by omega)]; omega
    | cons c l =>
      have hb : 128 ≤ b.toNat := hh 0 b (by simp) rfl
      have h256 := b.toNat_lt
      have hih : sev (num (c :: l)) = c :: l := by
        refine ih (by simp) (fun j u hj hu => hh (j + 1) u (by simp at hj ⊢; omega) (by simpa using hu)) (fun u hu => ?_)
        have h1 := hl u (by simpa using hu)
        exact ⟨h1.1, fun _ => h1.2 (by simp)⟩
      have hpos : 1 ≤ num (c :: l) := by
        rcases Nat.eq_zero_or_pos (num (c :: l)) with h0 | h0
        · exfalso
          rw [h0, sev_lt (by omega)] at hih
          injection hih with h1 h2
          subst h2
          have := (hl c (by simp)).2 (by simp)
          apply this
          rw [← h1]; rfl
        · exact h0
      rw [num_cons, sev_ge (by omega)]
      have e1 : (num (c :: l) * 128 + b.toNat % 128) % 128 + 128 = b.toNat := by omega
      have e2 : (num (c :: l) * 128 + b.toNat % 128) / 128 = num (c :: l) := by omega
      rw [e1, e2, hih]
      congr 1
      apply UInt8.toNat_inj.1
      rw [u8_ofNat (by omega)]
/-- A number whose bytes are good has 64 bits. -/
theorem num_lt {t : List UInt8} (hl : t.length ≤ 10) (hp : 1 ≤ t.length) (hb : ¬ Bad t) : num t < 18446744073709551616 := by
  by_cases h9 : t.length ≤ 9
  · have h1 := pow_num t
    have h2 : 128 ^ t.length ≤ 128 ^ 9 := Nat.pow_le_pow_right (by omega) h9
    omega
  · have h10 : t.length = 10 := by omega
    have hsplit : t = t.take 9 ++ t.drop 9 := (List.take_append_drop 9 t).symm
    obtain ⟨u, hu⟩ : ∃ u, t.drop 9 = [u] := List.length_eq_one_iff.1 (by rw [List.length_drop]; omega)
    have hu2 : t[t.length - 1]? = some u := by
      rw [h10]
      have : (t.drop 9)[0]? = some u := by rw [hu]; rfl
      rw [List.getElem?_drop] at this
      exact this
    have hu1 : u.toNat ≤ 1 := by
      rcases Nat.lt_or_ge 1 u.toNat with h | h
      · exact absurd ⟨u, hu2, .inr (.inl ⟨h10, h⟩)⟩ hb
      · exact h
    have hn : ∀ (a : List UInt8) (b : Nat), (a.foldr (fun b n => n * 128 + b.toNat % 128) b) = num a + b * 128 ^ a.length := by
      intro a
      induction a with
      | nil => intro b; simp [num]
      | cons x a ih =>
        intro b
        rw [List.foldr_cons, ih, num_cons, List.length_cons, Nat.pow_succ]
        rw [Nat.add_mul, Nat.mul_assoc]; omega
    have h3 : num t = num (t.take 9) + (u.toNat % 128) * 128 ^ 9 := by
      have h4 : num t = (t.take 9).foldr (fun b n => n * 128 + b.toNat % 128) (num (t.drop 9)) := by
        rw [hsplit] 
        unfold num
        rw [List.foldr_append]
        rw [← hsplit]
      rw [h4, hn, hu, num_cons, num_nil, List.length_take]
      rw [show min 9 t.length = 9 by omega]
      omega
    have h5 := pow_num (t.take 9)
    rw [List.length_take, show min 9 t.length = 9 by omega] at h5
    rw [h3]
    have h6 : u.toNat % 128 ≤ 1 := by omega
    have h7 : (u.toNat % 128) * 128 ^ 9 ≤ 1 * 128 ^ 9 := Nat.mul_le_mul_right _ h6
    omega
/-- Of the bytes that were taken and are good. -/
theorem sev_of_taken {l : List UInt8} {k : Nat} (h : Taken l k) (hb : ¬ Bad (l.take k)) : sev (num (l.take k)) = l.take k ∧ num (l.take k) < 18446744073709551616 := by
  have hl : (l.take k).length = k := by rw [List.length_take]; have := h.len; omega
  have hp := h.pos
  have hk := h.le
  refine ⟨sev_num _ (by omega) (fun j u hj hu => ?_) (fun u hu => ?_), num_lt (by omega) (by omega) hb⟩
  · rw [hl] at hj
    rw [List.getElem?_take_of_lt (by omega)] at hu
    exact h.high j u hj hu
  · have hu2 := hu
    rw [hl, List.getElem?_take_of_lt (by omega)] at hu2
    have h1 : u.toNat < 128 := by
      rcases Nat.lt_or_ge u.toNat 128 with h | h
      · exact h
      · exact absurd ⟨u, hu, .inl h⟩ hb
    exact ⟨h1, fun hl1 h0 => hb ⟨u, hu, .inr (.inr ⟨hl1, h0⟩)⟩⟩
end Go.Proofs.YtmbdaenjeeklfaaDoor

/- The search for the way back that rises least, node by node, lowest first. No program. -/
import Derived.Test.YtablbgfleopbfaaOOrd
namespace Go.Proofs.Ytablbgfleopbfaa
open Go.RowKit

abbrev WMp := Nat → Option (Int × Bool)
def updM (M : WMp) (v : Nat) (p : Int × Bool) : WMp := fun i => if i = v then some p else M i
theorem updM_same (M : WMp) (v : Nat) (p : Int × Bool) : updM M v p v = some p := by simp [updM]
theorem updM_other {M : WMp} {v i : Nat} {p : Int × Bool} (h : i ≠ v) : updM M v p i = M i := by simp [updM, h]
/-- A way to v that rises by t is found. -/
def relM (M : WMp) (v : Nat) (t : Int) : WMp := match M v with | none => updM M v (t, false) | some (r, _) => if t < r then updM M v (t, false) else M
def isL (M : WMp) (i : Nat) : Bool := match M i with | some (_, true) => true | _ => false
def cntL (M : WMp) (n : Nat) : Nat := (List.range n).countP (isL M)
theorem cntL_le (M : WMp) (n : Nat) : cntL M n ≤ n := by
  have := List.countP_le_length (p := isL M) (l := List.range n)
  simpa [cntL] using this
theorem cntL_congr {M M' : WMp} (h : ∀ i, isL M i = isL M' i) (n : Nat) : cntL M n = cntL M' n := by
  unfold cntL
  rw [show isL M = isL M' from funext h]
theorem cntL_upd {M : WMp} {v : Nat} {r s : Int} (h : M v = some (r, false)) : ∀ n, cntL (updM M v (s, true)) n = cntL M n + (if v < n then 1 else 0)
  | 0 => rfl
  | n + 1 => by
    have ih := cntL_upd (s := s) h n
    unfold cntL at ih ⊢
    rw [List.range_succ, List.countP_append, List.countP_append, ih]
    by_cases e : n = v
    · subst e
      have a : isL (updM M n (s, true)) n = true := by simp [isL, updM]
      have b : isL M n = false := by simp [isL, h]
      simp [a, b]
    · have a : isL (updM M v (s, true)) n = isL M n := by simp [isL, updM, e]
      have b : (v < n + 1) ↔ (v < n) := by omega
      simp only [List.countP_cons, List.countP_nil, a, b]
      omega

/-- A node from which edges are gone along: the first one, and those that are left. -/
def So (u : Nat) (M : WMp) (v : Nat) (so : Int) : Prop := (v = u ∧ so = 0) ∨ (v ≠ u ∧ M v = some (so, true))
def Rlx (M : WMp) (so : Int) (z : Nat) (d : Int) : Prop := ∃ rz lz, M z = some (rz, lz) ∧ rz ≤ so + d
structure DK (xs : List Nd) (u : Nat) (M : WMp) (c : Nat) : Prop where
  ent : ∀ v r l, M v = some (r, l) → v < xs.length ∧ (∃ k, 1 ≤ k ∧ Wk xs k u v r) ∧ r ≤ 70000 * ((c : Int) + 1)
  lft : ∀ v r, M v = some (r, true) → v ≠ u ∧ ∀ k r', 1 ≤ k → Wk xs k u v r' → r ≤ r'
  cnt : cntL M xs.length = c
/-- As edges of 'a' are gone along, those to 'pre' behind. -/
structure DM (xs : List Nd) (u : Nat) (M : WMp) (c : Nat) (a : Nat) (rise : Int) (pre : List (Int × Int)) : Prop where
  dk : DK xs u M c
  here : So u M a rise
  low : 0 ≤ rise
  high : rise ≤ 70000 * (c : Int)
  oth : ∀ v so, v ≠ a → So u M v so → ∀ z d, Eg xs v z d → Rlx M so z d
  met : ∀ (z : Nat) d, ((z : Int), d) ∈ pre → Rlx M rise z d
theorem DM.start {xs : List Nd} {u : Nat} : DM xs u (fun _ => none) 0 u 0 [] := by
  refine ⟨⟨fun v r l h => (by cases h), fun v r h => (by cases h), ?_⟩, .inl ⟨rfl, rfl⟩, Int.le_refl _, by omega, fun v so hv hs => ?_, fun z d h => (by cases h)⟩
  · unfold cntL
    rw [List.countP_eq_zero]
    intro i _
    simp [isL]
  · rcases hs with ⟨h, _⟩ | ⟨_, h⟩
    · exact absurd h hv
    · cases h
theorem So.walk {xs : List Nd} {u : Nat} {M : WMp} {c : Nat} {v : Nat} {so : Int} (h : So u M v so) (hd : DK xs u M c) : ∃ k, Wk xs k u v so := by
  rcases h with ⟨rfl, rfl⟩ | ⟨_, h⟩
  · exact ⟨0, .zero _⟩
  · obtain ⟨_, ⟨k, _, hw⟩, _⟩ := hd.ent _ _ _ h
    exact ⟨k, hw⟩
/-- One edge more. -/
theorem DM.step {xs : List Nd} (ho : ORD xs) {u : Nat} {M : WMp} {c a : Nat} {rise : Int} {pre : List (Int × Int)} (h : DM xs u M c a rise pre) {v : Nat} {d : Int} (he : Eg xs a v d) : DM xs u (relM M v (rise + d)) c a rise (pre ++ [((v : Int), d)]) := by
  obtain ⟨hd1, hd2, hvl, _, _⟩ := ho.eg he
  obtain ⟨k0, hw0⟩ := h.here.walk h.dk
  have hwv : Wk xs (k0 + 1) u v (rise + d) := hw0.snoc he
  have hlow := h.low
  have hhigh := h.high
  -- what is left stays; what is there rises no more
  have key : (∀ i r, (relM M v (rise + d)) i = some (r, true) ↔ M i = some (r, true)) ∧ (∀ z rz lz, M z = some (rz, lz) → ∃ rz' lz', (relM M v (rise + d)) z = some (rz', lz') ∧ rz' ≤ rz) ∧ Rlx (relM M v (rise + d)) rise v d ∧
      (∀ i r l, (relM M v (rise + d)) i = some (r, l) → M i = some (r, l) ∨ (i = v ∧ r = rise + d ∧ l = false)) := by
    unfold relM
    cases hm : M v with
    | none =>
      simp only
      refine ⟨fun i r => ?_, fun z rz lz hz => ?_, ⟨_, _, updM_same _ _ _, Int.le_refl _⟩, fun i r l hi => ?_⟩
      · by_cases e : i = v
        · subst e; rw [updM_same, hm]; simp
        · rw [updM_other e]
      · by_cases e : z = v
        · subst e; rw [hm] at hz; cases hz
        · exact ⟨rz, lz, by rw [updM_other e]; exact hz, Int.le_refl _⟩
      · by_cases e : i = v
        · subst e
          rw [updM_same] at hi
          simp only [Option.some.injEq, Prod.mk.injEq] at hi
          exact .inr ⟨rfl, hi.1.symm, hi.2.symm⟩
        · rw [updM_other e] at hi; exact .inl hi
    | some p =>
      obtain ⟨r0, l0⟩ := p
      simp only
      by_cases hlt : rise + d < r0
      · rw [if_pos hlt]
        have hl0 : l0 = false := by
          cases hl : l0 with
          | false => rfl
          | true =>
            subst hl
            have := (h.dk.lft _ _ hm).2 _ _ (by omega) hwv
            omega
        subst hl0
        refine ⟨fun i r => ?_, fun z rz lz hz => ?_, ⟨_, _, updM_same _ _ _, Int.le_refl _⟩, fun i r l hi => ?_⟩
        · by_cases e : i = v
          · subst e; rw [updM_same, hm]; simp
          · rw [updM_other e]
        · by_cases e : z = v
          · subst e
            rw [hm] at hz
            simp only [Option.some.injEq, Prod.mk.injEq] at hz
            exact ⟨_, _, updM_same _ _ _, by omega⟩
          · exact ⟨rz, lz, by rw [updM_other e]; exact hz, Int.le_refl _⟩
        · by_cases e : i = v
          · subst e
            rw [updM_same] at hi
            simp only [Option.some.injEq, Prod.mk.injEq] at hi
            exact .inr ⟨rfl, hi.1.symm, hi.2.symm⟩
          · rw [updM_other e] at hi; exact .inl hi
      · rw [if_neg hlt]
        exact ⟨fun _ _ => Iff.rfl, fun z rz lz hz => ⟨rz, lz, hz, Int.le_refl _⟩, ⟨r0, l0, hm, by omega⟩, fun i r l hi => .inl hi⟩
  obtain ⟨k1, k2, k3, k4⟩ := key
  have hso : ∀ w so, So u (relM M v (rise + d)) w so ↔ So u M w so := fun w so => by
    unfold So
    rw [k1]
  have hrl : ∀ so z d', Rlx M so z d' → Rlx (relM M v (rise + d)) so z d' := fun so z d' ⟨rz, lz, hz, hle⟩ => by
    obtain ⟨rz', lz', h1, h2⟩ := k2 _ _ _ hz
    exact ⟨rz', lz', h1, by omega⟩
  refine ⟨⟨fun i r l hi => ?_, fun i r hi => h.dk.lft i r ((k1 i r).1 hi), ?_⟩, (hso _ _).2 h.here, h.low, h.high, fun w so hw hs z d' hz => hrl _ _ _ (h.oth w so hw ((hso _ _).1 hs) z d' hz), fun z d' hz => ?_⟩
  · rcases k4 i r l hi with h1 | ⟨rfl, rfl, rfl⟩
    · exact h.dk.ent _ _ _ h1
    · exact ⟨hvl, ⟨_, by omega, hwv⟩, by omega⟩
  · rw [← h.dk.cnt]
    refine cntL_congr (fun i => ?_) _
    have := k1 i
    unfold isL
    cases h1 : (relM M v (rise + d)) i with
    | none =>
      cases h2 : M i with
      | none => rfl
      | some p =>
        obtain ⟨r, l⟩ := p
        cases l with
        | false => rfl
        | true => rw [(this r).2 h2] at h1; cases h1
    | some p =>
      obtain ⟨r, l⟩ := p
      cases l with
      | true => rw [(this r).1 h1]
      | false =>
        cases h2 : M i with
        | none => rfl
        | some p2 =>
          obtain ⟨r2, l2⟩ := p2
          cases l2 with
          | false => rfl
          | true => rw [(this r2).2 h2] at h1; cases h1
  · rcases List.mem_append.1 hz with hz | hz
    · exact hrl _ _ _ (h.met z d' hz)
    · simp only [List.mem_singleton, Prod.mk.injEq] at hz
      obtain ⟨h1, rfl⟩ := hz
      obtain rfl : z = v := by omega
      exact k3
/-- All edges of 'a' are gone along. -/
theorem DM.all {xs : List Nd} {u : Nat} {M : WMp} {c a : Nat} {rise : Int} {pre : List (Int × Int)} (h : DM xs u M c a rise pre) (hall : ∀ z d, Eg xs a z d → ((z : Int), d) ∈ pre) : ∀ v so, So u M v so → ∀ z d, Eg xs v z d → Rlx M so z d := fun v so hs z d he => by
  by_cases e : v = a
  · subst e
    have hr : so = rise := by
      rcases hs with ⟨h1, h2⟩ | ⟨h1, h2⟩ <;> rcases h.here with ⟨g1, g2⟩ | ⟨g1, g2⟩
      · omega
      · exact absurd h1 g1
      · exact absurd g1 h1
      · rw [h2] at g2; simp only [Option.some.injEq, Prod.mk.injEq] at g2; exact g2.1
    rw [hr]
    exact h.met z d (hall z d he)
  · exact h.oth v so e hs z d he
/-- Each walk's end is found no higher; or one on the way is not left, and no higher. -/
theorem walk_met {xs : List Nd} (ho : ORD xs) {u : Nat} {M : WMp} (hall : ∀ v so, So u M v so → ∀ z d, Eg xs v z d → Rlx M so z d) : ∀ {k : Nat} {v : Nat} {s : Int}, Wk xs (k + 1) u v s → (∃ r, M v = some (r, true) ∧ r ≤ s) ∨ ∃ i r, M i = some (r, false) ∧ r ≤ s
  | 0, v, s, h => by
    cases h with
    | @snoc _ _ w _ s0 d hw he =>
      cases hw
      obtain ⟨rz, lz, h1, h2⟩ := hall u 0 (.inl ⟨rfl, rfl⟩) v d he
      cases lz with
      | true => exact .inl ⟨rz, h1, h2⟩
      | false => exact .inr ⟨v, rz, h1, h2⟩
  | k + 1, v, s, h => by
    cases h with
    | @snoc _ _ w _ s0 d hw he =>
      have hd := (ho.eg he).1
      rcases walk_met ho hall hw with ⟨r, h1, h2⟩ | ⟨i, r, h1, h2⟩
      · have hs : ∃ so, So u M w so ∧ so ≤ s0 := by
          by_cases e : w = u
          · refine ⟨0, .inl ⟨e, rfl⟩, ?_⟩
            have := hw.pos ho
            omega
          · exact ⟨r, .inr ⟨e, h1⟩, h2⟩
        obtain ⟨so, hso, hle⟩ := hs
        obtain ⟨rz, lz, h3, h4⟩ := hall w so hso v d he
        cases lz with
        | true => exact .inl ⟨rz, h3, by omega⟩
        | false => exact .inr ⟨v, rz, h3, by omega⟩
      · exact .inr ⟨i, r, h1, by omega⟩
/-- Nothing is found that is not left: there is no way back. -/
theorem no_way {xs : List Nd} (ho : ORD xs) {u : Nat} {M : WMp} {c : Nat} (hd : DK xs u M c) (hall : ∀ v so, So u M v so → ∀ z d, Eg xs v z d → Rlx M so z d) (hn : ∀ i r, i < xs.length → M i ≠ some (r, false)) : BackIs xs u (0, false) := by
  refine .inr ⟨rfl, fun k r hk hw => ?_⟩
  obtain ⟨j, rfl⟩ : ∃ j, k = j + 1 := ⟨k - 1, by omega⟩
  rcases walk_met ho hall hw with ⟨r, h1, h2⟩ | ⟨i, r, h1, h2⟩
  · exact (hd.lft _ _ h1).1 rfl
  · exact hn i r (hd.ent _ _ _ h1).1 h1
/-- What is found lowest is as low as can be. -/
theorem next_least {xs : List Nd} (ho : ORD xs) {u : Nat} {M : WMp} {c : Nat} (hd : DK xs u M c) (hall : ∀ v so, So u M v so → ∀ z d, Eg xs v z d → Rlx M so z d) {i : Nat} {r : Int} (hi : M i = some (r, false)) (hmin : ∀ j r', j < xs.length → M j = some (r', false) → r ≤ r') :
    ∀ k r', 1 ≤ k → Wk xs k u i r' → r ≤ r' := fun k r' hk hw => by
  obtain ⟨j, rfl⟩ : ∃ j, k = j + 1 := ⟨k - 1, by omega⟩
  rcases walk_met ho hall hw with ⟨r2, h1, h2⟩ | ⟨i2, r2, h1, h2⟩
  · rw [hi] at h1; cases h1
  · have := hmin _ _ (hd.ent _ _ _ h1).1 h1
    omega
theorem back_found {xs : List Nd} (ho : ORD xs) {u : Nat} {M : WMp} {c : Nat} (hd : DK xs u M c) (hall : ∀ v so, So u M v so → ∀ z d, Eg xs v z d → Rlx M so z d) {r : Int} (hi : M u = some (r, false)) (hmin : ∀ j r', j < xs.length → M j = some (r', false) → r ≤ r') : BackIs xs u (r, true) :=
  .inl ⟨rfl, (hd.ent _ _ _ hi).2.1, next_least ho hd hall hi hmin⟩
/-- .. and is left. -/
theorem next_left {xs : List Nd} (ho : ORD xs) {u : Nat} {M : WMp} {c : Nat} (hd : DK xs u M c) (hall : ∀ v so, So u M v so → ∀ z d, Eg xs v z d → Rlx M so z d) {i : Nat} {r : Int} (hi : M i = some (r, false)) (hmin : ∀ j r', j < xs.length → M j = some (r', false) → r ≤ r') (hne : i ≠ u) :
    DM xs u (updM M i (r, true)) (c + 1) i r [] ∧ c + 1 ≤ xs.length := by
  have hil := hd.ent _ _ _ hi
  have hcnt : cntL (updM M i (r, true)) xs.length = c + 1 := by rw [cntL_upd hi, if_pos hil.1, hd.cnt]
  refine ⟨⟨⟨fun v r' l hv => ?_, fun v r' hv => ?_, hcnt⟩, .inr ⟨hne, updM_same _ _ _⟩, ?_, ?_, fun v so hv hs z d he => ?_, fun z d h => by cases h⟩, by rw [← hcnt]; exact cntL_le _ _⟩
  · by_cases e : v = i
    · subst e
      rw [updM_same] at hv
      simp only [Option.some.injEq, Prod.mk.injEq] at hv
      obtain ⟨rfl, _⟩ := hv
      exact ⟨hil.1, hil.2.1, by have := hil.2.2; omega⟩
    · rw [updM_other e] at hv
      have := hd.ent _ _ _ hv
      exact ⟨this.1, this.2.1, by have := this.2.2; omega⟩
  · by_cases e : v = i
    · subst e
      rw [updM_same] at hv
      simp only [Option.some.injEq, Prod.mk.injEq] at hv
      obtain ⟨rfl, _⟩ := hv
      exact ⟨hne, next_least ho hd hall hi hmin⟩
    · rw [updM_other e] at hv
      exact hd.lft _ _ hv
  · obtain ⟨k, _, hw⟩ := hil.2.1
    have := hw.pos ho
    omega
  · have := hil.2.2
    omega
  · have hs2 : So u M v so := by
      rcases hs with h | ⟨h1, h2⟩
      · exact .inl h
      · rw [updM_other hv] at h2; exact .inr ⟨h1, h2⟩
    obtain ⟨rz, lz, h1, h2⟩ := hall v so hs2 z d he
    by_cases e : z = i
    · subst e
      rw [hi] at h1
      simp only [Option.some.injEq, Prod.mk.injEq] at h1
      exact ⟨r, true, updM_same _ _ _, by omega⟩
    · exact ⟨rz, lz, by rw [updM_other e]; exact h1, h2⟩
end Go.Proofs.Ytablbgfleopbfaa

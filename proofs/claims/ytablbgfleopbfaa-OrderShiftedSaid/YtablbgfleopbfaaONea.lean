/- order: nearest: the node to which the way found rises least, of those not left. -/
import Derived.Test.YtablbgfleopbfaaOMap
import Derived.Test.YtablbgfleopbfaaOJum
namespace Go.Proofs.Ytablbgfleopbfaa
open Go.RowKit Go.Shelf

/-- The lowest one of the first n, of those that are not left. -/
def Near (M : WMp) (n : Nat) (p : Int × Bool) : Prop := (p = (0, false) ∧ ∀ j r, j < n → M j ≠ some (r, false)) ∨ ∃ (i : Nat) (r : Int), p = ((i : Int), true) ∧ i < n ∧ M i = some (r, false) ∧ ∀ j r', j < n → M j = some (r', false) → r ≤ r'

theorem near_skip {M : WMp} {k : Nat} {p : Int × Bool} (h : Near M k p) (hk : ∀ r, M k ≠ some (r, false)) : Near M (k + 1) p := by
  rcases h with ⟨h1, h2⟩ | ⟨i, r, h1, h2, h3, h4⟩
  · exact .inl ⟨h1, fun j r hj => by
      by_cases e : j = k
      · subst e; exact hk r
      · exact h2 j r (by omega)⟩
  · exact .inr ⟨i, r, h1, by omega, h3, fun j r' hj hm => by
      by_cases e : j = k
      · subst e; exact absurd hm (hk r')
      · exact h4 j r' (by omega) hm⟩
theorem near_first {M : WMp} {k : Nat} {pb r : Int} (h : Near M k (pb, false)) (hk : M k = some (r, false)) : Near M (k + 1) ((k : Int), true) := by
  rcases h with ⟨_, h2⟩ | ⟨i, r, h1, _⟩
  · exact .inr ⟨k, r, rfl, by omega, hk, fun j r' hj hm => by
      by_cases e : j = k
      · subst e; rw [hk] at hm; simp only [Option.some.injEq, Prod.mk.injEq] at hm; omega
      · exact absurd hm (h2 j r' (by omega))⟩
  · simp at h1
theorem near_at {M : WMp} {k : Nat} {pb : Int} (h : Near M k (pb, true)) : ∃ (i : Nat) (rb : Int), pb = i ∧ i < k ∧ M i = some (rb, false) ∧ ∀ j r', j < k → M j = some (r', false) → rb ≤ r' := by
  rcases h with ⟨h1, _⟩ | ⟨i, r, h1, h2, h3, h4⟩
  · simp at h1
  · simp only [Prod.mk.injEq, and_true] at h1
    exact ⟨i, r, h1, h2, h3, h4⟩
theorem near_lower {M : WMp} {k i : Nat} {r rb : Int} (hi : i < k) (hM : M i = some (rb, false)) (h : ∀ j r', j < k → M j = some (r', false) → rb ≤ r') (hk : M k = some (r, false)) : (r < rb → Near M (k + 1) ((k : Int), true)) ∧ (¬ r < rb → Near M (k + 1) ((i : Int), true)) := by
  refine ⟨fun hlt => .inr ⟨k, r, rfl, by omega, hk, fun j r' hj hm => ?_⟩, fun hge => .inr ⟨i, rb, rfl, by omega, hM, fun j r' hj hm => ?_⟩⟩
  · by_cases e : j = k
    · subst e; rw [hk] at hm; simp only [Option.some.injEq, Prod.mk.injEq] at hm; omega
    · have := h j r' (by omega) hm; omega
  · by_cases e : j = k
    · subst e; rw [hk] at hm; simp only [Option.some.injEq, Prod.mk.injEq] at hm; omega
    · exact h j r' (by omega) hm

set_option maxRecDepth 100000 in
set_option maxHeartbeats 2000000 in
theorem onearest_any (n : Nat) (A : Option Addr) (cap b m : Nat) (M : WMp) (w : World) (hM : WMap w b m M) (hn : n ≤ 1000) :
    Calls Try.prog 35 #[.slice A n cap, .map (some b)] w fun e w' => (∃ p, e = .returned (pairB p) ∧ Near M n p) ∧ w.grownBy w' none := by
  have HM := Lib.hid hM
  have hn' : (n : Int) ≤ 1000 := by omega
  go_enter Try.func35, Try.ntmps35
  go_wp2_with fail
  go_loopw [6, 7, 13] (fun be fo i wr => ∃ (k : Nat) (p : Int × Bool), k ≤ n ∧ i = .int .i64 (k : Int) ∧ be = .int .i64 p.1 ∧ fo = .bool p.2 ∧ Near M k p ∧ w.grownBy wr none) (fun _ _ i _ => n - (intOf i).toNat)
  case atStart => exact ⟨0, (0, false), Nat.zero_le _, rfl, rfl, rfl, .inl ⟨rfl, fun j r h => by omega⟩, only_refl _ _⟩
  case round =>
    obtain ⟨k, ⟨pb, pf⟩, hk, rfl, rfl, rfl, hnear, hg⟩ := hrel
    dsimp only at hnear ⊢
    have HG := Lib.hid hg
    have hM2 := HM.out.kept hg (fun e => by cases e)
    have HM2 := Lib.hid hM2
    by_cases hlt : k < n
    · have hk0 : (0 : Int) ≤ (k : Int) := by omega
      have hk1 : (k : Int) < (n : Int) := by omega
      have hl1 := hM2.look (i := k) (by omega)
      have hl2 := (hM2.kept (row := none) (only_alloc (only_refl _ _) (.cells #[.int .i64 0, .bool false] 62)) (fun e => by cases e)).look (i := k) (by omega)
      clear hM2 hg hM
      cases hMk : M k with
      | none =>
        rw [hMk] at hl1 hl2
        simp only [wayV, Option.isSome] at hl1 hl2
        have HN := Lib.hid (near_skip hnear (fun r => by rw [hMk]; simp))
        clear hnear hMk
        go_wp2_with fail
        exact ⟨⟨k + 1, (pb, pf), by omega, by go_num, rfl, rfl, HN.out, only_alloc HG.out _⟩, by simp [intOf]; omega⟩
      | some q =>
        obtain ⟨r, l⟩ := q
        rw [hMk] at hl1 hl2
        simp only [wayV, Option.isSome] at hl1 hl2
        cases l
        · cases pf
          · have HN := Lib.hid (near_first hnear hMk)
            clear hnear hMk
            go_wp2_with fail
            exact ⟨⟨k + 1, ((k : Int), true), by omega, by go_num, rfl, rfl, HN.out, only_alloc HG.out _⟩, by simp [intOf]; omega⟩
          · obtain ⟨i, rb, rfl, hi, hMi, hmin⟩ := near_at hnear
            have hl3 := (HM2.out.kept (row := none) (only_alloc (only_refl _ _) (.cells #[.int .i64 r, .bool false] 62)) (fun e => by cases e)).get (i := i) (by omega)
            rw [hMi] at hl3
            simp only [wayV] at hl3
            have hfld := fun r l w => way_field0 r l w
            by_cases hlow : r < rb
            · have HN := Lib.hid ((near_lower hi hMi hmin hMk).1 hlow)
              clear hnear hMk hMi hmin
              go_wp2_with fail
              exact ⟨⟨k + 1, ((k : Int), true), by omega, by go_num, rfl, rfl, HN.out, only_alloc HG.out _⟩, by simp [intOf]; omega⟩
            · have HN := Lib.hid ((near_lower hi hMi hmin hMk).2 hlow)
              clear hnear hMk hMi hmin
              go_wp2_with fail
              exact ⟨⟨k + 1, ((i : Int), true), by omega, by go_num, rfl, rfl, HN.out, only_alloc HG.out _⟩, by simp [intOf]; omega⟩
        · have HN := Lib.hid (near_skip hnear (fun r' => by rw [hMk]; simp))
          clear hnear hMk
          go_wp2_with fail
          exact ⟨⟨k + 1, (pb, pf), by omega, by go_num, rfl, rfl, HN.out, only_alloc HG.out _⟩, by simp [intOf]; omega⟩
    · have hke : k = n := by omega
      have hge : (n : Int) ≤ (k : Int) := by omega
      have HN : Hid (Near M n (pb, pf)) := by rw [← hke]; exact hnear
      clear hnear hke hlt hk
      go_wp2_with fail
      go_ret2
      exact ⟨⟨_, rfl, HN.out⟩, HG.out⟩
end Go.Proofs.Ytablbgfleopbfaa

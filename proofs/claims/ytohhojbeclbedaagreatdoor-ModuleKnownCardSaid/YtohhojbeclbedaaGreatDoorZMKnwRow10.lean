/- Texts joined for the claim's sake: LebN. -/
import Derived.Test.YtohhojbeclbedaaGreatDoorZMKnwRow9
import Derived.LoopN
namespace Go.Proofs.YtohhojbeclbedaaGreatDoor
open Go.RowKit

section
variable {w : World} {b q : Nat} {l : List UInt8} {x : Int}
theorem wrong1 (hq : w.cell? ⟨q, 0, none⟩ = some (.int .u8 x)) :
    Calls Tryz.prog 210 #[.pointer (some ⟨q, 0, none⟩)] w fun e w' => e = .returned (.bool (decide (128 ≤ x))) ∧ w = w' := by
  go_enter Tryz.func210, Tryz.ntmps210
  go_wp2
  go_ret
  exact ⟨rfl, rfl⟩
theorem wrong2 (hq : w.cell? ⟨q, 0, none⟩ = some (.int .u8 x)) (n : Int) (hb : w.cell? ⟨b, 10, none⟩ = some (.int .i64 n)) :
    Calls Tryz.prog 211 #[.pointer (some ⟨b, 0, none⟩), .pointer (some ⟨q, 0, none⟩)] w fun e w' => e = .returned (.bool (decide (n = 10 ∧ 1 < x))) ∧ w = w' := by
  by_cases h : n = 10
  · have t1 : (n == 10) = true := by simpa using h
    have e : decide (n = 10 ∧ 1 < x) = decide (1 < x) := by simp [h]
    rw [e]
    clear h e
    go_enter Tryz.func211, Tryz.ntmps211
    go_wp2
    all_goals (go_ret; exact ⟨rfl, rfl⟩)
  · have t1 : (n == 10) = false := by simpa using h
    have e : decide (n = 10 ∧ 1 < x) = false := by simp [h]
    rw [e]
    clear h e
    go_enter Tryz.func211, Tryz.ntmps211
    go_wp2
    all_goals (go_ret; exact ⟨rfl, rfl⟩)
theorem wrong3 (hq : w.cell? ⟨q, 0, none⟩ = some (.int .u8 x)) (n : Int) (hb : w.cell? ⟨b, 10, none⟩ = some (.int .i64 n)) :
    Calls Tryz.prog 212 #[.pointer (some ⟨b, 0, none⟩), .pointer (some ⟨q, 0, none⟩)] w fun e w' => e = .returned (.bool (decide (1 < n ∧ x = 0))) ∧ w = w' := by
  by_cases h : 1 < n
  · have e : decide (1 < n ∧ x = 0) = (x == 0) := by rw [Bool.eq_iff_iff]; simp [h]
    rw [e]
    go_enter Tryz.func212, Tryz.ntmps212
    go_wp2
    all_goals (go_ret; exact ⟨rfl, rfl⟩)
  · have e : decide (1 < n ∧ x = 0) = false := by simp [h]
    rw [e]
    go_enter Tryz.func212, Tryz.ntmps212
    go_wp2
    all_goals (go_ret; exact ⟨rfl, rfl⟩)

set_option maxRecDepth 100000 in
set_option maxHeartbeats 2000000 in
/-- Whether one of the three holds. -/
theorem any_of (s : Nat) (n : Int) (hq : w.cell? ⟨q, 0, none⟩ = some (.int .u8 x)) (hb : w.cell? ⟨b, 10, none⟩ = some (.int .i64 n))
    (s0 : w.cell? ⟨s, 0, none⟩ = some (.func (.func 210) #[] #[.pointer (some ⟨q, 0, none⟩)]))
    (s1 : w.cell? ⟨s, 1, none⟩ = some (.func (.func 211) #[] #[.pointer (some ⟨b, 0, none⟩), .pointer (some ⟨q, 0, none⟩)]))
    (s2 : w.cell? ⟨s, 2, none⟩ = some (.func (.func 212) #[] #[.pointer (some ⟨b, 0, none⟩), .pointer (some ⟨q, 0, none⟩)])) :
    Calls Tryz.prog 209 #[.slice (some ⟨s, 0, none⟩) 3 3] w fun e w' => e = .returned (.bool (decide (128 ≤ x ∨ (n = 10 ∧ 1 < x) ∨ (1 < n ∧ x = 0)))) ∧ w = w' := by
  have H1 := wrong1 hq
  have H2 := wrong2 hq n hb
  have H3 := wrong3 hq n hb
  by_cases h1 : 128 ≤ x
  · have e : decide (128 ≤ x ∨ (n = 10 ∧ 1 < x) ∨ (1 < n ∧ x = 0)) = true := by simp [h1]
    have e1 : decide (128 ≤ x) = true := by simpa using h1
    rw [e]
    rw [e1] at H1
    clear e e1 h1 H2 H3
    go_enter Tryz.func209, Tryz.ntmps209
    go_wp2_with fail
    refine wp_loop_rounds 4 ?_
    rw [rounds_succ]
    go_wp2_with (go_at_call 210; refine H1.mono ?_; rintro e w' ⟨rfl, rfl⟩)
    go_ret
    exact ⟨rfl, rfl⟩
  · have e1 : decide (128 ≤ x) = false := by simpa using h1
    rw [e1] at H1
    by_cases h2 : n = 10 ∧ 1 < x
    · have e : decide (128 ≤ x ∨ (n = 10 ∧ 1 < x) ∨ (1 < n ∧ x = 0)) = true := by simp [h2]
      have e2 : decide (n = 10 ∧ 1 < x) = true := by simpa using h2
      rw [e]
      rw [e2] at H2
      clear e e1 h1 e2 h2 H3
      go_enter Tryz.func209, Tryz.ntmps209
      go_wp2_with fail
      refine wp_loop_rounds 4 ?_
      rw [rounds_succ]
      go_wp2_with (go_at_call 210; refine H1.mono ?_; rintro e w' ⟨rfl, rfl⟩)
      rw [rounds_succ]
      go_wp2_with (go_at_call 211; refine H2.mono ?_; rintro e w' ⟨rfl, rfl⟩)
      go_ret
      exact ⟨rfl, rfl⟩
    · have e : decide (128 ≤ x ∨ (n = 10 ∧ 1 < x) ∨ (1 < n ∧ x = 0)) = decide (1 < n ∧ x = 0) := by
        rw [decide_eq_decide]
        exact ⟨fun h => h.elim (fun h => absurd h h1) (fun h => h.elim (fun h => absurd h h2) id), fun h => .inr (.inr h)⟩
      have e2 : decide (n = 10 ∧ 1 < x) = false := by rw [decide_eq_false_iff_not]; exact h2
      rw [e]
      rw [e2] at H2
      clear e e1 h1 e2 h2
      generalize decide (1 < n ∧ x = 0) = y at *
      go_enter Tryz.func209, Tryz.ntmps209
      go_wp2_with fail
      refine wp_loop_rounds 4 ?_
      rw [rounds_succ]
      go_wp2_with (go_at_call 210; refine H1.mono ?_; rintro e w' ⟨rfl, rfl⟩)
      rw [rounds_succ]
      go_wp2_with (go_at_call 211; refine H2.mono ?_; rintro e w' ⟨rfl, rfl⟩)
      rw [rounds_succ]
      cases y with
      | true =>
        go_wp2_with (go_at_call 212; refine H3.mono ?_; rintro e w' ⟨rfl, rfl⟩)
        go_ret
        exact ⟨rfl, rfl⟩
      | false =>
        go_wp2_with (go_at_call 212; refine H3.mono ?_; rintro e w' ⟨rfl, rfl⟩)
        rw [rounds_succ]
        go_wp2_with fail
        go_ret
        exact ⟨rfl, rfl⟩
end
end Go.Proofs.YtohhojbeclbedaaGreatDoor

/- The document's answer for blocks (colloquyref10): Closes, Talks, Targets, Goes. -/
import Derived.Test.YtgdoklbcmgkllaaBLaw
import Derived.Test.YtgdoklbcmgkllaaBOwn
namespace Go.Proofs.Ytgdoklbcmgkllaa
open Go.RowKit

set_option maxRecDepth 100000 in
set_option maxHeartbeats 2000000 in
theorem bcloses_any (op : Int) (w : World) : Calls Try.prog 27 #[.int .i64 op] w fun e w' => e = .returned (.bool (closeB op)) ∧ w.grownBy w' none := by
  by_cases h14 : op = 11
  · subst h14; go_enter Try.func27, Try.ntmps27; go_wp2_with fail; go_ret; exact ⟨rfl, only_refl _ _⟩
  by_cases h15 : op = 19
  · subst h15; go_enter Try.func27, Try.ntmps27; go_wp2_with fail; go_ret; exact ⟨rfl, only_refl _ _⟩
  by_cases h16 : op = 24
  · subst h16; go_enter Try.func27, Try.ntmps27; go_wp2_with fail; go_ret; exact ⟨rfl, only_refl _ _⟩
  have hb : closeB op = false := by unfold closeB; simp [*]
  have e1 : (op == 11) = false := by simpa using h14
  have e2 : (op == 19) = false := by simpa using h15
  have e3 : (op == 24) = false := by simpa using h16
  rw [hb]
  clear hb
  go_enter Try.func27, Try.ntmps27; go_wp2_with fail; go_ret; exact ⟨rfl, only_refl _ _⟩
set_option maxRecDepth 100000 in
set_option maxHeartbeats 4000000 in
theorem btalks_any (op : Int) (w : World) : Calls Try.prog 30 #[.int .i64 op] w fun e w' => e = .returned (.bool (talkB op)) ∧ w.grownBy w' none := by
  by_cases h14 : op = 14
  · subst h14; go_enter Try.func30, Try.ntmps30; go_wp2_with fail; go_ret; exact ⟨rfl, only_refl _ _⟩
  by_cases h15 : op = 15
  · subst h15; go_enter Try.func30, Try.ntmps30; go_wp2_with fail; go_ret; exact ⟨rfl, only_refl _ _⟩
  by_cases h16 : op = 16
  · subst h16; go_enter Try.func30, Try.ntmps30; go_wp2_with fail; go_ret; exact ⟨rfl, only_refl _ _⟩
  by_cases h17 : op = 17
  · subst h17; go_enter Try.func30, Try.ntmps30; go_wp2_with fail; go_ret; exact ⟨rfl, only_refl _ _⟩
  by_cases h18 : op = 18
  · subst h18; go_enter Try.func30, Try.ntmps30; go_wp2_with fail; go_ret; exact ⟨rfl, only_refl _ _⟩
  by_cases h19 : op = 19
  · subst h19; go_enter Try.func30, Try.ntmps30; go_wp2_with fail; go_ret; exact ⟨rfl, only_refl _ _⟩
  have hb : talkB op = false := by unfold talkB; simp; omega
  have e1 : (op == 14) = false := by simpa using h14
  have e2 : (op == 15) = false := by simpa using h15
  have e3 : (op == 16) = false := by simpa using h16
  have e4 : (op == 17) = false := by simpa using h17
  have e5 : (op == 18) = false := by simpa using h18
  have e6 : (op == 19) = false := by simpa using h19
  rw [hb]
  clear hb
  go_enter Try.func30, Try.ntmps30; go_wp2_with fail; go_ret; exact ⟨rfl, only_refl _ _⟩
end Go.Proofs.Ytgdoklbcmgkllaa

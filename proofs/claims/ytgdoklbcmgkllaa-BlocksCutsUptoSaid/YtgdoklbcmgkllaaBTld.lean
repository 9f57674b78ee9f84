/- BlocksTold. -/
import Derived.Test.YtgdoklbcmgkllaaBMap
namespace Go.Proofs.Ytgdoklbcmgkllaa
open Go.RowKit Go.Maps

theorem goes_four {cs : List Bi} (hl : ∀ x ∈ cs, x.2.length ≤ 3) (i : Nat) : (goesN cs i).length ≤ 4 := by
  unfold goesN
  cases hx : cs[i]? with
  | none => simp
  | some x =>
    show (goesX i x).length ≤ _
    have := hl x (List.mem_of_getElem? hx)
    unfold goesX tgtL
    rw [List.length_append]
    split <;> split <;> simp <;> omega
/-- A map that tells of some numbers, by 1. -/
def One (M : MMp) : Prop := ∀ k, M k = none ∨ M k = some 1
theorem One.upd {M : MMp} (h : One M) (i : Nat) : One (updI M i 1) := fun k => by
  unfold updI
  split
  · exact .inr rfl
  · exact h k
theorem upd_up {M : MMp} {i k : Nat} (h : M k = some 1) : updI M i 1 k = some 1 := by
  unfold updI
  split
  · rfl
  · exact h
theorem upd_at {M : MMp} {i : Nat} : updI M i 1 i = some 1 := by simp [updI]
/-- What was reached in so many steps. -/
def Rch (cs : List Bi) (a k : Nat) (M : MMp) : Prop := ∀ m j, m ≤ k → Pth cs m a j → M j = some 1
/-- Where those that lie ahead of i go. -/
def Ahd (cs : List Bi) (a k i : Nat) (M : MMp) : Prop := ∀ m j, m ≤ k → j < i → Pth cs m a j → ∀ z, z < cs.length → silB cs j z = true → M z = some 1
theorem Rch.next {cs : List Bi} {a k : Nat} {M : MMp} (hk : 1 ≤ k) (h : Rch cs a k M) (ha : Ahd cs a k cs.length M) : Rch cs a (k + 1) M := fun m j hm hp => by
  rcases Nat.lt_or_eq_of_le hm with h1 | h1
  · exact h m j (by omega) hp
  · cases hp with
    | one hs hj => exact h 1 j (by omega) (.one hs hj)
    | @snoc m' _ j' _ hp' hs hz => exact ha m' j' (by omega) (sil_lt hs) hp' j hz hs
theorem Rch.upd {cs : List Bi} {a k t : Nat} {M : MMp} (h : Rch cs a k M) : Rch cs a k (updI M t 1) := fun m j hm hp => upd_up (h m j hm hp)
theorem Ahd.upd {cs : List Bi} {a k i t : Nat} {M : MMp} (h : Ahd cs a k i M) : Ahd cs a k i (updI M t 1) := fun m j hm hj hp z hz hs => upd_up (h m j hm hj hp z hz hs)
theorem Ahd.more {cs : List Bi} {a k i : Nat} {M : MMp} (h : Ahd cs a k i M) (hi : ∀ m, m ≤ k → Pth cs m a i → ∀ z, z < cs.length → silB cs i z = true → M z = some 1) : Ahd cs a k (i + 1) M := fun m j hm hj hp z hz hs => by
  rcases Nat.lt_or_eq_of_le (Nat.le_of_lt_succ hj) with h1 | h1
  · exact h m j hm h1 hp z hz hs
  · subst h1
    exact hi m hm hp z hz hs
end Go.Proofs.Ytgdoklbcmgkllaa

/- Texts joined for the claim's sake: CRfN, CAt. -/
import Derived.Test.YtmhbmeckdbdhpaaZSAddRow11
import Derived.Deep.RegionHeld3
import Derived.Test.YtmhbmeckdbdhpaaZSAddRow13
namespace Go.Proofs.Ytmhbmeckdbdhpaa
open Go.RowKit Go.Shelf

theorem nodeAt_out {T : ClsT} {c : Int} (h : c < 0 ∨ (T.cls.length : Int) ≤ c) : nodeAt T.cls c = none := by
  unfold nodeAt
  split
  · rw [List.getElem?_eq_none (by omega)]
  · rfl
end Go.Proofs.Ytmhbmeckdbdhpaa

namespace Go.Proofs.Ytmhbmeckdbdhpaa
open Go.RowKit Go.Shelf

def cinB (n count : Int) : Bool := decide (0 ≤ n ∧ n < count)
set_option maxHeartbeats 400000 in
theorem cin_any (n count : Int) (w : World) : Calls Try.prog 53 #[.int .i64 n, .int .i64 count] w fun e w' => e = .returned (.bool (cinB n count)) ∧ w = w' := by
  by_cases h0 : 0 ≤ n
  · by_cases h1 : n < count
    · have e : cinB n count = true := decide_eq_true ⟨h0, h1⟩
      rw [e]
      clear e
      go_enter Try.func53, Try.ntmps53
      go_wp2_with fail
      go_ret
      exact ⟨rfl, rfl⟩
    · have e : cinB n count = false := decide_eq_false (fun h => h1 h.2)
      have h1' : count ≤ n := by omega
      have h1d : decide (n < count) = false := decide_eq_false h1
      rw [e]
      clear e h1
      go_enter Try.func53, Try.ntmps53
      go_wp2_with fail
      go_ret
      exact ⟨rfl, rfl⟩
  · have e : cinB n count = false := decide_eq_false (fun h => h0 h.1)
    have h0' : n < 0 := by omega
    rw [e]
    clear e h0
    go_enter Try.func53, Try.ntmps53
    go_wp2_with fail
    go_ret
    exact ⟨rfl, rfl⟩
theorem cin_is {n count : Int} {r : Bool} (h : cinB n count = r) (w : World) : Calls Try.prog 53 #[.int .i64 n, .int .i64 count] w fun e w' => e = .returned (.bool r) ∧ w = w' := by rw [← h]; exact cin_any n count w

/-- A class and the priority that a type of it has there. -/
def atA (T : ClsT) (c p : Int) : Int × Int := match nodeAt T.cls c with | none => (-1, 0) | some y => if y.kind = 0 then (c, 0) else (c, p)
set_option maxRecDepth 100000 in
set_option maxHeartbeats 2000000 in
theorem cat_any (T : ClsT) (tv : Value) (c p : Int) (w : World) (hT : TabV w tv T) (hs : T.cls.length ≤ 1000000) :
    Calls Try.prog 54 #[tv, .int .i64 c, .int .i64 p] w fun e w' => e = .returned (pairV (atA T c p)) ∧ w.grownBy w' none := by
  obtain ⟨vc, vo, vp, rfl, hC, hO, hP⟩ := hT
  obtain ⟨A, cap, rfl, _⟩ := id hC
  obtain ⟨A3, c3, rfl, _⟩ := id hO
  obtain ⟨A4, c4, rfl, _⟩ := id hP
  have hlI : (T.cls.length : Int) ≤ 1000000 := by omega
  by_cases hc : 0 ≤ c ∧ c < (T.cls.length : Int)
  · have hb1 := Lib.hid (show cinB c (T.cls.length : Int) = true from decide_eq_true hc)
    obtain ⟨h0, h1⟩ := hc
    obtain ⟨c, rfl⟩ : ∃ n : Nat, c = (n : Int) := ⟨c.toNat, by omega⟩
    obtain ⟨y, hy⟩ : ∃ y, T.cls[c]? = some y := ⟨_, List.getElem?_eq_getElem (by omega)⟩
    obtain ⟨b, off, A2, c2, rfl, _, m0, _⟩ := cls_at hC hy
    have hb : b < w.heap.size := cell_lt m0
    have hA : atA T (c : Int) p = if y.kind = 0 then ((c : Int), 0) else ((c : Int), p) := by unfold atA; rw [nodeAt_nat, hy]
    rw [hA]
    by_cases h5 : y.kind = 0
    · rw [if_pos h5]
      rw [h5] at m0
      clear hC hO hP h5 hy hA
      go_enter Try.func54, Try.ntmps54
      go_wp2_with (go_at_call 53; refine (cin_is hb1.out _).mono ?_; rintro e w' ⟨rfl, rfl⟩)
      go_ret2
      exact ⟨rfl, only_alloc (only_refl _ _) _⟩
    · rw [if_neg h5]
      have h5b : (y.kind == 0) = false := by simp [h5]
      have h5d : decide (y.kind = 0) = false := decide_eq_false h5
      clear hC hO hP hy hA
      go_enter Try.func54, Try.ntmps54
      go_wp2_with (go_at_call 53; refine (cin_is hb1.out _).mono ?_; rintro e w' ⟨rfl, rfl⟩)
      go_ret2
      exact ⟨rfl, only_alloc (only_refl _ _) _⟩
  · have hb1 := Lib.hid (show cinB c (T.cls.length : Int) = false from decide_eq_false hc)
    have hA : atA T c p = (-1, 0) := by unfold atA; rw [nodeAt_out (by omega)]
    rw [hA]
    clear hC hO hP hA hc
    go_enter Try.func54, Try.ntmps54
    go_wp2_with (go_at_call 53; refine (cin_is hb1.out _).mono ?_; rintro e w' ⟨rfl, rfl⟩)
    go_ret2
    exact ⟨rfl, only_alloc (only_refl _ _) _⟩
theorem cat_is {T : ClsT} {tv : Value} {c p : Int} {r : Int × Int} {w : World} (h : atA T c p = r) (hT : TabV w tv T) (hs : T.cls.length ≤ 1000000) :
    Calls Try.prog 54 #[tv, .int .i64 c, .int .i64 p] w fun e w' => e = .returned (.tuple #[.int .i64 r.1, .int .i64 r.2]) ∧ w.grownBy w' none := by rw [← h]; exact cat_any T tv c p w hT hs

end Go.Proofs.Ytmhbmeckdbdhpaa

/- Texts joined for the claim's sake: GChk, GRefD. -/
import Derived.Test.YtmhbmeckdbdhpaaZSAddRow6
import Derived.Test.YtmhbmeckdbdhpaaZSAddRow3
import Derived.Test.YtmhbmeckdbdhpaaZSAddRow5
namespace Go.Proofs.Ytmhbmeckdbdhpaa
open Go.RowKit Go.Shelf

abbrev pairV (p : Ed) : Value := .tuple #[.int .i64 p.1, .int .i64 p.2]
theorem check_0 {xs : List Nd} (h : xs.length = 0) : checkL xs = (-1, 2) := by simp [checkL, h]
theorem check_1 {xs : List Nd} (h : 64 < xs.length) : checkL xs = (-1, 4) := by simp only [checkL]; rw [if_neg (by omega), if_pos h]
theorem check_2 {xs : List Nd} (h0 : 0 < xs.length) (h : xs.length ≤ 64) (hi : (firstIll xs.length xs 0).2 ≠ 0) : checkL xs = firstIll xs.length xs 0 := by simp only [checkL]; rw [if_neg (by omega), if_neg (by omega), if_neg hi]
theorem check_3 {xs : List Nd} (h0 : 0 < xs.length) (h : xs.length ≤ 64) (hi : (firstIll xs.length xs 0).2 = 0) (hl : firstLost xs xs.length 0 < 0) : checkL xs = (-1, 0) := by simp only [checkL]; rw [if_neg (by omega), if_neg (by omega), if_pos hi, if_pos hl]
theorem check_4 {xs : List Nd} (h0 : 0 < xs.length) (h : xs.length ≤ 64) (hi : (firstIll xs.length xs 0).2 = 0) (hl : ¬ firstLost xs xs.length 0 < 0) : checkL xs = (firstLost xs xs.length 0, 9) := by simp only [checkL]; rw [if_neg (by omega), if_neg (by omega), if_pos hi, if_neg hl]

set_option maxHeartbeats 1000000 in
theorem check_any (xs : List Nd) (v : Value) (w : World) (hT : Tbl w v xs) (hxs : xs.length ≤ 140737488351232) :
    Calls Try.prog 45 #[v] w fun e w' => e = .returned (pairV (checkL xs)) ∧ w.grownBy w' none := by
  have HT := Lib.hid hT
  have HL := Lib.hid hxs
  obtain ⟨A, cap, rfl, hcl⟩ := hT
  clear hcl hxs
  by_cases h0 : xs.length = 0
  · have HC := Lib.hid (check_0 h0)
    have h0' : (xs.length : Int) = 0 := by omega
    clear h0
    go_enter Try.func45, Try.ntmps45
    go_wp2_with fail
    go_ret2
    exact ⟨by rw [HC.out]; rfl, only_refl _ _⟩
  · by_cases h1 : 64 < xs.length
    · have HC := Lib.hid (check_1 h1)
      have h0' : ¬ (xs.length : Int) = 0 := by omega
      have h1' : (64 : Int) < (xs.length : Int) := by omega
      clear h0 h1
      go_enter Try.func45, Try.ntmps45
      go_wp2_with fail
      go_ret2
      exact ⟨by rw [HC.out]; rfl, only_refl _ _⟩
    · have h0' : ¬ (xs.length : Int) = 0 := by omega
      have h1' : (xs.length : Int) ≤ 64 := by omega
      have HP : Hid (0 < xs.length ∧ xs.length ≤ 64) := ⟨by omega, by omega⟩
      clear h0 h1
      by_cases hi : (firstIll xs.length xs 0).2 = 0
      · have HI := Lib.hid hi
        by_cases hl : firstLost xs xs.length 0 < 0
        · have HC := Lib.hid (check_3 HP.out.1 HP.out.2 HI.out hl)
          go_enter Try.func45, Try.ntmps45
          go_wp2_with (first | (go_at_call 61; go_must (refine (firstIll_any xs _ _ HT.out HL.out).mono ?_; rintro e w1 ⟨rfl, hg1⟩; have HG1 := Lib.hid hg1; clear hg1)) | (go_at_call 62; go_must (refine (firstLost_any xs _ _ (HT.out.keep (.grown HG1.out)) HL.out).mono ?_; rintro e w2 ⟨rfl, hg2⟩; have HG2 := Lib.hid hg2; clear hg2)))
          go_ret2
          exact ⟨by rw [HC.out]; rfl, only_trans HG1.out HG2.out⟩
        · have HC := Lib.hid (check_4 HP.out.1 HP.out.2 HI.out hl)
          have hl' : 0 ≤ firstLost xs xs.length 0 := by omega
          clear hl
          go_enter Try.func45, Try.ntmps45
          go_wp2_with (first | (go_at_call 61; go_must (refine (firstIll_any xs _ _ HT.out HL.out).mono ?_; rintro e w1 ⟨rfl, hg1⟩; have HG1 := Lib.hid hg1; clear hg1)) | (go_at_call 62; go_must (refine (firstLost_any xs _ _ (HT.out.keep (.grown HG1.out)) HL.out).mono ?_; rintro e w2 ⟨rfl, hg2⟩; have HG2 := Lib.hid hg2; clear hg2)))
          go_ret2
          exact ⟨by rw [HC.out]; rfl, only_trans HG1.out HG2.out⟩
      · have HC := Lib.hid (check_2 HP.out.1 HP.out.2 hi)
        go_enter Try.func45, Try.ntmps45
        go_wp2_with (first | (go_at_call 61; go_must (refine (firstIll_any xs _ _ HT.out HL.out).mono ?_; rintro e w1 ⟨rfl, hg1⟩; have HG1 := Lib.hid hg1; clear hg1)))
        go_ret2
        exact ⟨by rw [HC.out]; rfl, HG1.out⟩
end Go.Proofs.Ytmhbmeckdbdhpaa

namespace Go.Proofs.Ytmhbmeckdbdhpaa
open Go.RowKit Go.Shelf

theorem pick_neg {xs : List Nd} : ∀ {L : List Ed}, (∀ s ∈ L, 0 ≤ s.1) → ((pickL xs L).1 < 0 ↔ L.all (isAl xs) = true)
  | [], _ => by simp [pickL]
  | t :: L, h => by
    have ih := pick_neg (xs := xs) (L := L) (fun s hs => h s (List.mem_cons_of_mem _ hs))
    have h0 := h t List.mem_cons_self
    cases ht : isAl xs t with
    | true => simp only [pickL, ht, if_true, List.all_cons, Bool.true_and]; exact ih
    | false => simp only [pickL, ht, List.all_cons, Bool.false_and]; simp; omega
theorem lost_iff (xs : List Nd) (k : Nat) : (resolveL xs ((k : Int), 0)).1 < 0 ↔ lostB xs k = true :=
  pick_neg fun s hs => by
    obtain ⟨x, hx⟩ := wayL_mem hs
    exact (nodeAt_some hx).1
def Found (xs : List Nd) (k : Nat) : Prop := ∀ j, j < k → lostB xs j = false
theorem Found.next {xs : List Nd} {k : Nat} (h : Found xs k) (hl : lostB xs k = false) : Found xs (k + 1) := fun j hj => by
  by_cases e : j = k
  · subst e; exact hl
  · exact h j (by omega)

end Go.Proofs.Ytmhbmeckdbdhpaa

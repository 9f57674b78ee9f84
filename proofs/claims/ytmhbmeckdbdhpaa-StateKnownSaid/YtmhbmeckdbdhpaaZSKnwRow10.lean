/- Texts joined for the claim's sake: GRefD, GWyP. -/
import Derived.Test.YtmhbmeckdbdhpaaZSKnwRow7
import Derived.Test.YtmhbmeckdbdhpaaZSKnwRow8
import Derived.Test.YtmhbmeckdbdhpaaZSKnwRow9
namespace Go.Proofs.Ytmhbmeckdbdhpaa
open Go.RowKit Go.Shelf

theorem pick_neg {xs : List Nd} : ∀ {L : List Ed}, (∀ s ∈ L, 0 ≤ s.1) → ((pickL xs L).1 < 0 ↔ L.all (isAl xs) = true)
  | [], _ => by simp [pickL]
  | t :: L, h => by
    have ih := pick_neg (xs := xs) (L := L) (fun s hs => h s (List.mem_cons_of_mem _ hs))
    have h0 := h t List.mem_cons_self
    cases ht : isAl xs t with
    | true => simp only [pickL, ht, if_true, List.all_cons, Bool.true_and]; exact ih
    | false => simp only [pickL, ht, List.all_cons, Bool.false_and]; simp; omega
theorem lost_iff (xs : List Nd) (k : Nat) : (resolveL xs ((k : Int), 0)).1 < 0 ↔ lostB xs k = true :=
  pick_neg fun s hs => by
    obtain ⟨x, hx⟩ := wayL_mem hs
    exact (nodeAt_some hx).1
def Found (xs : List Nd) (k : Nat) : Prop := ∀ j, j < k → lostB xs j = false
theorem Found.next {xs : List Nd} {k : Nat} (h : Found xs k) (hl : lostB xs k = false) : Found xs (k + 1) := fun j hj => by
  by_cases e : j = k
  · subst e; exact hl
  · exact h j (by omega)

end Go.Proofs.Ytmhbmeckdbdhpaa

namespace Go.Proofs.Ytmhbmeckdbdhpaa
open Go.RowKit

theorem good_one {n : Nat} {x : Nd} (h : Good n x) (hk : x.kind = 5) : ∃ e, x.next = [e] ∧ onlyNext x = some e ∧ edOk n e := by
  have h1 := h.1
  have hs : shapeB x = true := by
    cases hb : shapeB x with
    | true => rfl
    | false => simp [illN, hb] at h1
  have hi : (edgesL x).all (inB n) = true := by
    cases hb : (edgesL x).all (inB n) with
    | true => rfl
    | false => simp [illN, hs, hb] at h1
  simp only [shapeB, headB, Bool.and_eq_true, withinB, decide_eq_true_eq, hk, leastN, mostN] at hs
  obtain ⟨⟨⟨⟨_, hl⟩, _⟩, hp⟩, hsh⟩ := hs
  have hl1 : x.next.length = 1 := by
    have a := hl.1
    have b := hl.2
    simp at a b
    omega
  have hc : x.chan = false := by
    cases hc : x.chan with
    | false => rfl
    | true => simp [payB, hc, paysB] at hp
  obtain ⟨e, he⟩ := List.length_eq_one_iff.1 hl1
  have hed : edgesL x = [e] := by simp [edgesL, hc, he]
  rw [hed] at hsh hi
  simp only [List.all_cons, List.all_nil, Bool.and_true] at hsh hi
  have h2 := nodeB_true.1 hi
  simp only [shiftB, withinB, Bool.and_eq_true, decide_eq_true_eq] at hsh
  exact ⟨e, he, by simp [onlyNext, hk, he], h2.1, h2.2, hsh.1, hsh.2⟩

theorem least_lost (xs : List Nd) : ∀ n : Nat, (∀ j, j < n → lostB xs j = false) ∨ ∃ k, k < n ∧ lostB xs k = true ∧ ∀ j, j < k → lostB xs j = false
  | 0 => .inl fun j hj => by omega
  | n + 1 => by
    rcases least_lost xs n with h | ⟨k, hk, h1, h2⟩
    · cases hl : lostB xs n with
      | true => exact .inr ⟨n, by omega, hl, h⟩
      | false =>
        refine .inl fun j hj => ?_
        by_cases e : j = n
        · subst e; exact hl
        · exact h j (by omega)
    · exact .inr ⟨k, by omega, h1, h2⟩

end Go.Proofs.Ytmhbmeckdbdhpaa

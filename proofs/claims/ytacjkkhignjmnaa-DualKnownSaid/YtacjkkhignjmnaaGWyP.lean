/- What holds of the ways of a table whose nodes have their shapes. No program. -/
import Derived.Test.YtacjkkhignjmnaaGRefD
import Derived.Test.YtacjkkhignjmnaaGMadA
namespace Go.Proofs.Ytacjkkhignjmnaa
open Go.RowKit

theorem good_one {n : Nat} {x : Nd} (h : Good n x) (hk : x.kind = 5) : ∃ e, x.next = [e] ∧ onlyNext x = some e ∧ edOk n e := by
  have h1 := h.1
  have hs : shapeB x = true := by
    cases hb : shapeB x with
    | true => rfl
    | false => simp [illN, hb] at h1
  have hi : (edgesL x).all (inB n) = true := by
    cases hb : (edgesL x).all (inB n) with
    | true => rfl
    | false => simp [illN, hs, hb] at h1
  simp only [shapeB, headB, Bool.and_eq_true, withinB, decide_eq_true_eq, hk, leastN, mostN] at hs
  obtain ⟨⟨⟨⟨_, hl⟩, _⟩, hp⟩, hsh⟩ := hs
  have hl1 : x.next.length = 1 := by
    have a := hl.1
    have b := hl.2
    simp at a b
    omega
  have hc : x.chan = false := by
    cases hc : x.chan with
    | false => rfl
    | true => simp [payB, hc, paysB] at hp
  obtain ⟨e, he⟩ := List.length_eq_one_iff.1 hl1
  have hed : edgesL x = [e] := by simp [edgesL, hc, he]
  rw [hed] at hsh hi
  simp only [List.all_cons, List.all_nil, Bool.and_true] at hsh hi
  have h2 := nodeB_true.1 hi
  simp only [shiftB, withinB, Bool.and_eq_true, decide_eq_true_eq] at hsh
  exact ⟨e, he, by simp [onlyNext, hk, he], h2.1, h2.2, hsh.1, hsh.2⟩

theorem least_lost (xs : List Nd) : ∀ n : Nat, (∀ j, j < n → lostB xs j = false) ∨ ∃ k, k < n ∧ lostB xs k = true ∧ ∀ j, j < k → lostB xs j = false
  | 0 => .inl fun j hj => by omega
  | n + 1 => by
    rcases least_lost xs n with h | ⟨k, hk, h1, h2⟩
    · cases hl : lostB xs n with
      | true => exact .inr ⟨n, by omega, hl, h⟩
      | false =>
        refine .inl fun j hj => ?_
        by_cases e : j = n
        · subst e; exact hl
        · exact h j (by omega)
    · exact .inr ⟨k, by omega, h1, h2⟩

/-- Of nodes that have their shapes Check tells the first one that is lost, or none. -/
theorem check_good {xs : List Nd} (h : ∀ x ∈ xs, Good xs.length x) (h0 : 0 < xs.length) (h64 : xs.length ≤ 64) :
    ∃ b e : Int, checkL xs = (b, e) ∧ ((e = 0 ∧ b = -1) ∨ (e = 9 ∧ 0 ≤ b)) ∧ (∀ i : Nat, i < xs.length → lostB xs i = true → e = 9 ∧ b ≤ i) ∧ (∀ i : Nat, i < xs.length → lostB xs i = false → (i : Int) ≠ b) := by
  have hi : (firstIll xs.length xs 0).2 = 0 := by
    rw [firstIll_none (fun j x _ hx => (h x (List.mem_of_getElem? hx)).1)]
  rcases least_lost xs xs.length with hn | ⟨k, hk, h1, h2⟩
  · refine ⟨-1, 0, check_3 h0 h64 hi (by rw [firstLost_none hn]; decide), .inl ⟨rfl, rfl⟩, fun i hi hl => ?_, fun i _ _ => by omega⟩
    rw [hn i hi] at hl; cases hl
  · have hf := firstLost_here hk h2 h1
    refine ⟨(k : Int), 9, ?_, .inr ⟨rfl, by omega⟩, fun i hi hl => ⟨rfl, ?_⟩, fun i hi hl => ?_⟩
    · rw [check_4 h0 h64 hi (by rw [hf]; omega), hf]
    · rcases Nat.lt_or_ge i k with hik | hik
      · rw [h2 i hik] at hl; cases hl
      · omega
    · intro e
      obtain rfl : i = k := by omega
      rw [h1] at hl; cases hl

theorem pick_some {xs : List Nd} : ∀ {L : List Ed}, pickL xs L = (-1, 0) ∨ (pickL xs L ∈ L ∧ isAl xs (pickL xs L) = false)
  | [] => .inl rfl
  | t :: L => by
    cases ht : isAl xs t with
    | true =>
      simp only [pickL, ht, if_true]
      rcases pick_some (xs := xs) (L := L) with h | ⟨h, h2⟩
      · exact .inl h
      · exact .inr ⟨List.mem_cons_of_mem _ h, h2⟩
    | false =>
      have : pickL xs (t :: L) = t := by simp [pickL, ht]
      rw [this]
      exact .inr ⟨List.mem_cons_self, ht⟩
/-- What a type comes to: none, or a node that is no alias. -/
theorem resolve_at (xs : List Nd) (t : Ed) : resolveL xs t = (-1, 0) ∨ ∃ x, nodeAt xs (resolveL xs t).1 = some x ∧ x.kind ≠ 5 := by
  rcases pick_some (xs := xs) (L := wayL xs xs.length t) with h | ⟨h, h2⟩
  · exact .inl h
  · obtain ⟨x, hx⟩ := wayL_mem h
    refine .inr ⟨x, hx, ?_⟩
    rw [isAl_at hx] at h2
    simpa using h2
theorem resolve_fix {xs : List Nd} {a : Ed} {x : Nd} (hx : nodeAt xs a.1 = some x) (hk : x.kind ≠ 5) : resolveL xs a = a := by
  obtain ⟨h0, h1, _⟩ := nodeAt_some hx
  obtain ⟨f, hf⟩ : ∃ f, xs.length = f + 1 := ⟨xs.length - 1, by omega⟩
  unfold resolveL
  rw [hf]
  exact pick_here hx hk
theorem resolve_next {xs : List Nd} {t e : Ed} {x : Nd} (hx : nodeAt xs t.1 = some x) (ho : onlyNext x = some e) : resolveL xs (stepT t e) = resolveL xs t := by
  rw [← pick_more xs t, pick_next hx ho]
  rfl
theorem wrap_add (a b c : Int) : wrap64 (wrap64 (a + b) + c) = wrap64 (wrap64 (a + c) + b) := by
  unfold wrap64
  omega
theorem pick_shift {xs : List Nd} (o : Int) : ∀ {f : Nat} {t : Ed}, (pickL xs (wayL xs f t) = (-1, 0) ∧ pickL xs (wayL xs f (t.1, wrap64 (t.2 + o))) = (-1, 0)) ∨ (pickL xs (wayL xs f (t.1, wrap64 (t.2 + o))) = ((pickL xs (wayL xs f t)).1, wrap64 ((pickL xs (wayL xs f t)).2 + o)))
  | 0, t => .inl ⟨rfl, rfl⟩
  | f + 1, t => by
    rcases node_cases xs t.1 with h0 | ⟨x, h0, hk⟩ | ⟨x, h0, hk, ho⟩ | ⟨x, e, h0, hk, ho⟩
    · exact .inl ⟨pick_none h0, pick_none (t := (t.1, wrap64 (t.2 + o))) h0⟩
    · rw [pick_here h0 hk, pick_here (t := (t.1, wrap64 (t.2 + o))) h0 hk]
      exact .inr rfl
    · exact .inl ⟨pick_stop h0 hk ho, pick_stop (t := (t.1, wrap64 (t.2 + o))) h0 hk ho⟩
    · rw [pick_next h0 ho, pick_next (t := (t.1, wrap64 (t.2 + o))) h0 ho]
      have := pick_shift (xs := xs) o (f := f) (t := stepT t e)
      simp only [stepT] at this ⊢
      rw [wrap_add t.2 o e.2]
      exact this
/-- An offset more is an offset more of what a type comes to. -/
theorem resolve_shift {xs : List Nd} {t a : Ed} {x : Nd} (o : Int) (h : resolveL xs t = a) (hx : nodeAt xs a.1 = some x) : resolveL xs (t.1, wrap64 (t.2 + o)) = (a.1, wrap64 (a.2 + o)) := by
  rcases pick_shift (xs := xs) o (f := xs.length) (t := t) with ⟨h1, _⟩ | h1
  · have h2 : resolveL xs t = (-1, 0) := h1
    rw [h2] at h
    subst h
    have := (nodeAt_some hx).1
    simp at this
  · have h2 : resolveL xs t = pickL xs (wayL xs xs.length t) := rfl
    rw [← h2, h] at h1
    exact h1
end Go.Proofs.Ytacjkkhignjmnaa

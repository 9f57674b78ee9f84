/- Ways, and what a type comes to: of any table, however its numbers lie. No program. -/
import Derived.Test.YtoklaajiajilhaaDoorGNod
namespace Go.Proofs.YtoklaajiajilhaaDoor
open Go.RowKit

theorem wayL_none {xs : List Nd} {f : Nat} {t : Ed} (h : nodeAt xs t.1 = none) : wayL xs (f + 1) t = [] := by simp only [wayL, h]
theorem wayL_end {xs : List Nd} {f : Nat} {t : Ed} {x : Nd} (h : nodeAt xs t.1 = some x) (h2 : onlyNext x = none) : wayL xs (f + 1) t = [t] := by simp only [wayL, h, h2]
theorem wayL_next {xs : List Nd} {f : Nat} {t e : Ed} {x : Nd} (h : nodeAt xs t.1 = some x) (h2 : onlyNext x = some e) : wayL xs (f + 1) t = t :: wayL xs f (stepT t e) := by simp only [wayL, h, h2]
theorem wayL_head {xs : List Nd} {f : Nat} {t : Ed} {x : Nd} (h : nodeAt xs t.1 = some x) : ∃ r, wayL xs (f + 1) t = t :: r := ⟨_, by simp only [wayL, h]; rfl⟩
theorem wayL_mem {xs : List Nd} : ∀ {f : Nat} {t s : Ed}, s ∈ wayL xs f t → ∃ x, nodeAt xs s.1 = some x
  | 0, t, s, h => by simp [wayL] at h
  | f + 1, t, s, h => by
    cases hn : nodeAt xs t.1 with
    | none => rw [wayL_none hn] at h; simp at h
    | some x =>
      cases ho : onlyNext x with
      | none => rw [wayL_end hn ho] at h; obtain rfl := List.mem_singleton.1 h; exact ⟨x, hn⟩
      | some e =>
        rw [wayL_next hn ho] at h
        rcases List.mem_cons.1 h with rfl | h
        · exact ⟨x, hn⟩
        · exact wayL_mem h
theorem isAl_at {xs : List Nd} {t : Ed} {x : Nd} (h : nodeAt xs t.1 = some x) : isAl xs t = decide (x.kind = 5) := by simp only [isAl, h]
theorem pick_none {xs : List Nd} {f : Nat} {t : Ed} (h : nodeAt xs t.1 = none) : pickL xs (wayL xs (f + 1) t) = (-1, 0) := by rw [wayL_none h]; rfl
theorem pick_here {xs : List Nd} {f : Nat} {t : Ed} {x : Nd} (h : nodeAt xs t.1 = some x) (hk : x.kind ≠ 5) : pickL xs (wayL xs (f + 1) t) = t := by
  obtain ⟨r, hr⟩ := wayL_head (f := f) h
  rw [hr]
  simp [pickL, isAl_at h, hk]
theorem pick_stop {xs : List Nd} {f : Nat} {t : Ed} {x : Nd} (h : nodeAt xs t.1 = some x) (hk : x.kind = 5) (ho : onlyNext x = none) : pickL xs (wayL xs (f + 1) t) = (-1, 0) := by
  rw [wayL_end h ho]
  simp [pickL, isAl_at h, hk]
theorem pick_next {xs : List Nd} {f : Nat} {t e : Ed} {x : Nd} (h : nodeAt xs t.1 = some x) (ho : onlyNext x = some e) : pickL xs (wayL xs (f + 1) t) = pickL xs (wayL xs f (stepT t e)) := by
  have hk : x.kind = 5 := by
    unfold onlyNext at ho
    split at ho
    · assumption
    · cases ho
  rw [wayL_next h ho]
  simp [pickL, isAl_at h, hk]
/-- A node's case. -/
theorem node_cases (xs : List Nd) (i : Int) : nodeAt xs i = none ∨ (∃ x, nodeAt xs i = some x ∧ x.kind ≠ 5) ∨ (∃ x, nodeAt xs i = some x ∧ x.kind = 5 ∧ onlyNext x = none) ∨ (∃ x e, nodeAt xs i = some x ∧ x.kind = 5 ∧ onlyNext x = some e) := by
  cases h : nodeAt xs i with
  | none => exact .inl rfl
  | some x =>
    by_cases hk : x.kind = 5
    · cases ho : onlyNext x with
      | none => exact .inr (.inr (.inl ⟨x, rfl, hk, ho⟩))
      | some e => exact .inr (.inr (.inr ⟨x, e, rfl, hk, ho⟩))
    · exact .inr (.inl ⟨x, rfl, hk⟩)
theorem pick_some {xs : List Nd} : ∀ {L : List Ed}, pickL xs L = (-1, 0) ∨ (pickL xs L ∈ L ∧ isAl xs (pickL xs L) = false)
  | [] => .inl rfl
  | t :: L => by
    cases ht : isAl xs t with
    | true =>
      simp only [pickL, ht, if_true]
      rcases pick_some (xs := xs) (L := L) with h | ⟨h, h2⟩
      · exact .inl h
      · exact .inr ⟨List.mem_cons_of_mem _ h, h2⟩
    | false =>
      have : pickL xs (t :: L) = t := by simp [pickL, ht]
      rw [this]
      exact .inr ⟨List.mem_cons_self, ht⟩
/-- What a type comes to: none, or a node that is no alias. -/
theorem resolve_at (xs : List Nd) (t : Ed) : resolveL xs t = (-1, 0) ∨ ∃ x, nodeAt xs (resolveL xs t).1 = some x ∧ x.kind ≠ 5 := by
  rcases pick_some (xs := xs) (L := wayL xs xs.length t) with h | ⟨h, h2⟩
  · exact .inl h
  · obtain ⟨x, hx⟩ := wayL_mem h
    refine .inr ⟨x, hx, ?_⟩
    rw [isAl_at hx] at h2
    simpa using h2
theorem resolve_fix {xs : List Nd} {a : Ed} {x : Nd} (hx : nodeAt xs a.1 = some x) (hk : x.kind ≠ 5) : resolveL xs a = a := by
  obtain ⟨h0, h1, _⟩ := nodeAt_some hx
  obtain ⟨f, hf⟩ : ∃ f, xs.length = f + 1 := ⟨xs.length - 1, by omega⟩
  unfold resolveL
  rw [hf]
  exact pick_here hx hk
theorem wrap_add (a b c : Int) : wrap64 (wrap64 (a + b) + c) = wrap64 (wrap64 (a + c) + b) := by
  unfold wrap64
  omega
theorem pick_shift {xs : List Nd} (o : Int) : ∀ {f : Nat} {t : Ed}, (pickL xs (wayL xs f t) = (-1, 0) ∧ pickL xs (wayL xs f (t.1, wrap64 (t.2 + o))) = (-1, 0)) ∨ (pickL xs (wayL xs f (t.1, wrap64 (t.2 + o))) = ((pickL xs (wayL xs f t)).1, wrap64 ((pickL xs (wayL xs f t)).2 + o)))
  | 0, t => .inl ⟨rfl, rfl⟩
  | f + 1, t => by
    rcases node_cases xs t.1 with h0 | ⟨x, h0, hk⟩ | ⟨x, h0, hk, ho⟩ | ⟨x, e, h0, hk, ho⟩
    · exact .inl ⟨pick_none h0, pick_none (t := (t.1, wrap64 (t.2 + o))) h0⟩
    · rw [pick_here h0 hk, pick_here (t := (t.1, wrap64 (t.2 + o))) h0 hk]
      exact .inr rfl
    · exact .inl ⟨pick_stop h0 hk ho, pick_stop (t := (t.1, wrap64 (t.2 + o))) h0 hk ho⟩
    · rw [pick_next h0 ho, pick_next (t := (t.1, wrap64 (t.2 + o))) h0 ho]
      have := pick_shift (xs := xs) o (f := f) (t := stepT t e)
      simp only [stepT] at this ⊢
      rw [wrap_add t.2 o e.2]
      exact this
/-- An offset more is an offset more of what a type comes to. -/
theorem resolve_shift {xs : List Nd} {t a : Ed} {x : Nd} (o : Int) (h : resolveL xs t = a) (hx : nodeAt xs a.1 = some x) : resolveL xs (t.1, wrap64 (t.2 + o)) = (a.1, wrap64 (a.2 + o)) := by
  rcases pick_shift (xs := xs) o (f := xs.length) (t := t) with ⟨h1, _⟩ | h1
  · have h2 : resolveL xs t = (-1, 0) := h1
    rw [h2] at h
    subst h
    have := (nodeAt_some hx).1
    simp at this
  · have h2 : resolveL xs t = pickL xs (wayL xs xs.length t) := rfl
    rw [← h2, h] at h1
    exact h1
theorem take_len {α : Type} {l : List α} {k : Nat} {e : α} (h : l[k]? = some e) : l.take (k + 1) = l.take k ++ [e] := by
  obtain ⟨hl, rfl⟩ := List.getElem?_eq_some_iff.1 h
  exact List.take_succ_eq_append_getElem hl
end Go.Proofs.YtoklaajiajilhaaDoor

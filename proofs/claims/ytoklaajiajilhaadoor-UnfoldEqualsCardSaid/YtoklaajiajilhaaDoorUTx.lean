/- The text of a type to a depth, plainly; types that are equal so far have the same. No program. -/
import Derived.Test.YtoklaajiajilhaaDoorUEq
namespace Go.Proofs.YtoklaajiajilhaaDoor
open Go.RowKit

/-- A kind's sign. -/
def signK (k : Int) : List UInt8 := if k = 1 then [33] else if k = 2 then [63] else if k = 3 then [43] else [38]
/-- Texts with a comma between two. -/
def commas : List (List UInt8) → List UInt8
  | [] => []
  | [a] => a
  | a :: b :: l => a ++ 44 :: commas (b :: l)
/-- What a node that acts tells: its sign, its priority's digits, its payload's text (nothing where it selects or branches), its Next's. -/
def nodeX (dig : Int → List UInt8) (f : Ed → List UInt8) (x : Nd) (p : Ed) : List UInt8 :=
  signK x.kind ++ (dig (wrap64 (x.prio + p.2)) ++ (40 :: ((if x.kind = 1 ∨ x.kind = 2 then (if x.chan then f (stepT p x.pay) else [119]) else []) ++ ([41, 91] ++ (commas (x.next.map fun e => f (stepT p e)) ++ [93])))))
/-- A type's text to a depth; dig: a number's digits. -/
def textD (dig : Int → List UInt8) (xs : List Nd) : Nat → Ed → List UInt8
  | 0, t => match nodeAt xs (resolveL xs t).1 with
    | none => [63]
    | some x => if actsK x.kind then [46] else [48]
  | d + 1, t => match nodeAt xs (resolveL xs t).1 with
    | none => [63]
    | some x => if actsK x.kind then nodeX dig (textD dig xs d) x (resolveL xs t) else [48]
theorem allTwo_map {R : Ed → Ed → Bool} {f g : Ed → List UInt8} (h : ∀ a b, R a b = true → f a = g b) : ∀ l k, allTwo R l k = true → l.map f = k.map g
  | [], [], _ => rfl
  | a :: l, b :: k, hh => by
    unfold allTwo at hh
    rw [Bool.and_eq_true] at hh
    rw [List.map_cons, List.map_cons, h _ _ hh.1, allTwo_map h l k hh.2]
section
variable {xs : List Nd} {dig : Int → List UInt8}
theorem nodeX_eq {R : Ed → Ed → Bool} {f : Ed → List UInt8} (h : ∀ a b, R a b = true → f a = f b) {x y : Nd} {p q : Ed} (hp : wrap64 (x.prio + p.2) = wrap64 (y.prio + q.2)) (hq : partsB R x y p q = true) : nodeX dig f x p = nodeX dig f y q := by
  unfold partsB at hq
  rw [Bool.and_eq_true, Bool.and_eq_true, Bool.and_eq_true, decide_eq_true_eq, decide_eq_true_eq, Bool.or_eq_true] at hq
  obtain ⟨⟨⟨e1, e2⟩, e3⟩, e4⟩ := hq
  unfold nodeX
  rw [hp, allTwo_map (f := fun e => f (stepT p e)) (g := fun e => f (stepT q e)) (fun e g he => h _ _ he) _ _ e4, ← e1, ← e2]
  by_cases hch : x.chan = true
  · rw [hch] at e3
    rw [if_pos hch, if_pos hch, h _ _ (e3.resolve_left (by simp))]
  · rw [if_neg hch, if_neg hch]
/-- What eqD says of one step. -/
theorem eqD_cases {d : Nat} {a b : Ed} (h : eqD xs (d + 1) a b = true) : (nodeAt xs (resolveL xs a).1 = none ∧ nodeAt xs (resolveL xs b).1 = none) ∨ ∃ x y, nodeAt xs (resolveL xs a).1 = some x ∧ nodeAt xs (resolveL xs b).1 = some y ∧ x.kind = y.kind ∧
    (actsK x.kind = true → wrap64 (x.prio + (resolveL xs a).2) = wrap64 (y.prio + (resolveL xs b).2) ∧ partsB (eqD xs d) x y (resolveL xs a) (resolveL xs b) = true) := by
  unfold eqD at h
  cases h1 : nodeAt xs (resolveL xs a).1 with
  | none =>
    rw [h1] at h
    cases h2 : nodeAt xs (resolveL xs b).1 with
    | none => exact .inl ⟨rfl, rfl⟩
    | some y => rw [h2] at h; cases h
  | some x =>
    rw [h1] at h
    cases h2 : nodeAt xs (resolveL xs b).1 with
    | none => rw [h2] at h; cases h
    | some y =>
      rw [h2] at h
      dsimp only at h
      refine .inr ⟨x, y, rfl, rfl, ?_⟩
      by_cases hc : (actsK x.kind && actsK y.kind) = true
      · rw [if_pos hc, Bool.and_eq_true] at h
        refine ⟨?_, fun _ => ⟨of_decide_eq_true h.1, h.2⟩⟩
        have hq := h.2
        unfold partsB at hq
        rw [Bool.and_eq_true, Bool.and_eq_true, Bool.and_eq_true, decide_eq_true_eq] at hq
        exact hq.1.1.1
      · rw [if_neg hc] at h
        have e := of_decide_eq_true h
        refine ⟨e, fun ha => absurd ?_ hc⟩
        rw [← e, ha]; rfl
theorem text_eq : ∀ (d : Nat) (a b : Ed), eqD xs (d + 1) a b = true → textD dig xs d a = textD dig xs d b
  | 0, a, b, h => by
    unfold textD
    rcases eqD_cases h with ⟨h1, h2⟩ | ⟨x, y, h1, h2, e, _⟩
    · rw [h1, h2]
    · rw [h1, h2]; dsimp only; rw [e]
  | d + 1, a, b, h => by
    unfold textD
    rcases eqD_cases h with ⟨h1, h2⟩ | ⟨x, y, h1, h2, e, hq⟩
    · rw [h1, h2]
    · rw [h1, h2]
      dsimp only
      rw [← e]
      by_cases hc : actsK x.kind = true
      · rw [if_pos hc, if_pos hc]
        exact nodeX_eq (text_eq d) (hq hc).1 (hq hc).2
      · rw [if_neg hc, if_neg hc]
/-- P8.3's first sentence. -/
theorem text_le {d k : Nat} (h : k < d) {a b : Ed} (he : eqD xs d a b = true) : textD dig xs k a = textD dig xs k b := text_eq k a b (eqD_le h he)
end
end Go.Proofs.YtoklaajiajilhaaDoor

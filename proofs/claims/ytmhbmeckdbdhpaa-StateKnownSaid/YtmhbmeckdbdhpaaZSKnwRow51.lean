/- Texts joined for the claim's sake: Reg. -/
import Derived.Test.YtmhbmeckdbdhpaaZSKnwRow22
namespace Go.Proofs.Ytmhbmeckdbdhpaa.Rg
open Go.RowKit

def AllOps (f : Nat → Oper → Prop) : List Oper → Nat → Prop
  | [], _ => True
  | o :: l, i => f i o ∧ AllOps f l (i + 1)
theorem AllOps.at_ {f : Nat → Oper → Prop} : ∀ {l : List Oper} {k : Nat}, AllOps f l k → ∀ (i : Nat) (o : Oper), l[i]? = some o → f (k + i) o
  | [], _, _, i, o, h => by simp at h
  | x :: l, k, ⟨h1, h2⟩, i, o, h => by
    cases i with
    | zero =>
      simp only [List.getElem?_cons_zero, Option.some.injEq] at h
      subst h
      exact h1
    | succ i =>
      rw [List.getElem?_cons_succ] at h
      have := AllOps.at_ h2 i o h
      rwa [show k + (i + 1) = k + 1 + i by omega]
theorem nodup_at {α β : Type} {f : α → Option β} : ∀ {l : List α} {i j : Nat} {x y : α} {t : β}, (l.filterMap f).Nodup → l[i]? = some x → l[j]? = some y → f x = some t → f y = some t → i = j
  | [], i, _, _, _, _, _, h, _, _, _ => by simp at h
  | z :: l, i, j, x, y, t, hn, hi, hj, hx, hy => by
    have mem : ∀ (k : Nat) (u : α), l[k]? = some u → f u = some t → t ∈ l.filterMap f := fun k u hk hu => List.mem_filterMap.2 ⟨u, List.mem_of_getElem? hk, hu⟩
    cases i with
    | zero =>
      simp only [List.getElem?_cons_zero, Option.some.injEq] at hi
      subst hi
      cases j with
      | zero => rfl
      | succ j =>
        rw [List.getElem?_cons_succ] at hj
        rw [List.filterMap_cons_some hx] at hn
        exact absurd (mem j y hj hy) (List.nodup_cons.1 hn).1
    | succ i =>
      rw [List.getElem?_cons_succ] at hi
      cases j with
      | zero =>
        simp only [List.getElem?_cons_zero, Option.some.injEq] at hj
        subst hj
        rw [List.filterMap_cons_some hy] at hn
        exact absurd (mem i x hi hx) (List.nodup_cons.1 hn).1
      | succ j =>
        rw [List.getElem?_cons_succ] at hj
        have hn' : (l.filterMap f).Nodup := by
          cases hz : f z with
          | none => rwa [List.filterMap_cons_none hz] at hn
          | some u => rw [List.filterMap_cons_some hz] at hn; exact (List.nodup_cons.1 hn).2
        rw [nodup_at hn' hi hj hx hy]
theorem lookup_mem {l : List (Nat × Value)} {t : Nat} {v : Value} (h : l.lookup t = some v) : (t, v) ∈ l := by
  induction l with
  | nil => cases h
  | cons q l ih =>
    obtain ⟨t', d'⟩ := q
    rw [List.lookup_cons] at h
    split at h
    · rename_i e
      simp only [Option.some.injEq] at h
      subst h
      rw [eq_of_beq e]
      exact List.mem_cons_self
    · exact List.mem_cons_of_mem _ (ih h)

def InitOk (a : Act) : List (Tmp × Value) → Prop
  | [] => True
  | p :: l => a.tmps.getD p.1 undef = p.2 ∧ InitOk a l
theorem InitOk.at_ {a : Act} : ∀ {l : List (Tmp × Value)}, InitOk a l → ∀ p ∈ l, a.tmps.getD p.1 undef = p.2
  | p :: l, h, q, hq => by
    rcases List.mem_cons.1 hq with rfl | hq
    · exact h.1
    · exact h.2.at_ q hq
abbrev VP := Value → World → Prop
def AllV (f : Tmp → VP → Prop) : List (Tmp × VP) → Prop
  | [] => True
  | p :: l => f p.1 p.2 ∧ AllV f l
theorem AllV.at_ {f : Tmp → VP → Prop} : ∀ {l : List (Tmp × VP)}, AllV f l → ∀ {t : Tmp} {p : VP}, l.lookup t = some p → f t p
  | q :: l, h, t, p, hp => by
    rw [List.lookup_cons] at hp
    split at hp
    · rename_i e
      injection hp with hp
      subst hp
      have := eq_of_beq e
      subst this
      exact h.1
    · exact h.2.at_ hp
section
variable {vals : List (Tmp × Value)} {xs : List Tmp} {ops : Array Oper}
end
/-! ### What single operations owe -/
section
variable {P : Program} {vals : List (Tmp × Value)} {ex : List (Tmp × VP)} {w : World} {o : Oper}
end
end Go.Proofs.Ytmhbmeckdbdhpaa.Rg

/- Texts joined for the claim's sake: GOpen, CApt, GOwn, GOm. -/
import Derived.Test.YtmhbmeckdbdhpaaRows
import Derived.Test.YtmhbmeckdbdhpaaZSAddRow0
import Derived.ChangeSame
import Derived.ChangeVars
import Derived.JoinedOf
import Derived.RowKit
import Derived.OpenShut
import Derived.Deep.SlicePairs
import Derived.Deep.Slices
import Derived.Deep.Fields
import Derived.Lib.SmallJoins
import Derived.Laws.AppendOwn
import Derived.Maps.AppendAt
namespace Go.Proofs.Ytmhbmeckdbdhpaa
open Go.ChangeShapes Go.WideShapes Go.RowKit Go.Deep

theorem prog_own : ownKnob Try.prog.godebug = none := by kernel_rfl
theorem prog_laidOut : laidOutB Try.prog = true := by kernel_rfl
theorem prog_size : Try.prog.types.size = 177 := by kernel_rfl
theorem cells_edge : Try.prog.cellsOf 67 = 2 := by kernel_rfl
theorem cells_node : Try.prog.cellsOf 70 = 6 := by kernel_rfl
theorem cells_int : Try.prog.cellsOf 3 = 1 := by kernel_rfl
theorem cells_bool : Try.prog.cellsOf 4 = 1 := by kernel_rfl
theorem cells_edges : Try.prog.cellsOf 68 = 1 := by kernel_rfl
instance : Inhabited Nd := ⟨⟨0, 0, false, (0, 0), []⟩⟩

section
variable {H : Type} {enc : TypeId × Value → H} {W : World} {sp : Nat → Bool} {fuel : Nat} {x : DataW H × List MemPlace}
theorem int_of {v : Value} {y : DataW H × List MemPlace} (h : DataW.trod enc Try.prog W 0 sp true fuel 3 [v] = some y) : v = .int .i64 (intOf v) := by
  obtain ⟨z, hz, _, _⟩ := DataW.trod_int Try.underlying3 h
  simp only [List.cons.injEq, and_true] at hz
  subst hz
  rfl
end
end Go.Proofs.Ytmhbmeckdbdhpaa

namespace Go.Proofs.Ytmhbmeckdbdhpaa

section
variable {H : Type} (hd : Nat → H) (sc : Nat → List (Nat × Int))
/-- Two nodes are told apart by a way. -/
inductive Apt : Nat → Nat → Prop where
  | head {a b : Nat} : hd a ≠ hd b → Apt a b
  | rise {a b j m n : Nat} {r s : Int} : (sc a)[j]? = some (m, r) → (sc b)[j]? = some (n, s) → r ≠ s → Apt a b
  | step {a b j m n : Nat} {r s : Int} : (sc a)[j]? = some (m, r) → (sc b)[j]? = some (n, s) → Apt m n → Apt a b
variable {hd sc}
theorem Apt.ne {a b : Nat} (h : Apt hd sc a b) : a ≠ b := by
  induction h with
  | head h => exact fun e => h (by rw [e])
  | rise h1 h2 h3 => intro e; subst e; rw [h1] at h2; simp only [Option.some.injEq, Prod.mk.injEq] at h2; exact h3 h2.2
  | step h1 h2 _ ih => intro e; subst e; rw [h1] at h2; simp only [Option.some.injEq, Prod.mk.injEq] at h2; exact ih h2.1
theorem Apt.symm {a b : Nat} (h : Apt hd sc a b) : Apt hd sc b a := by
  induction h with
  | head h => exact .head (fun e => h e.symm)
  | rise h1 h2 h3 => exact .rise h2 h1 (fun e => h3 e.symm)
  | step h1 h2 _ ih => exact .step h2 h1 ih
/-- Heads tell how many follow. -/
def HdLen (hd : Nat → H) (sc : Nat → List (Nat × Int)) : Prop := ∀ a b, hd a = hd b → (sc a).length = (sc b).length
theorem Apt.part (hl : HdLen hd sc) {a c : Nat} (h : Apt hd sc a c) : ∀ b, Apt hd sc a b ∨ Apt hd sc b c := by
  induction h with
  | @head a c h =>
    intro b
    by_cases e : hd a = hd b
    · exact .inr (.head (fun e2 => h (e.trans e2)))
    · exact .inl (.head e)
  | @rise a c j m n r s h1 h2 h3 =>
    intro b
    by_cases e : hd a = hd b
    · have hj : j < (sc b).length := by rw [← hl a b e]; exact (List.getElem?_eq_some_iff.1 h1).1
      obtain ⟨⟨p, t⟩, hp⟩ : ∃ x, (sc b)[j]? = some x := ⟨_, List.getElem?_eq_getElem hj⟩
      by_cases e2 : r = t
      · exact .inr (.rise hp h2 (fun e3 => h3 (e2.trans e3)))
      · exact .inl (.rise h1 hp e2)
    · exact .inl (.head e)
  | @step a c j m n r s h1 h2 _ ih =>
    intro b
    by_cases e : hd a = hd b
    · have hj : j < (sc b).length := by rw [← hl a b e]; exact (List.getElem?_eq_some_iff.1 h1).1
      obtain ⟨⟨p, t⟩, hp⟩ : ∃ x, (sc b)[j]? = some x := ⟨_, List.getElem?_eq_getElem hj⟩
      rcases ih p with h | h
      · exact .inl (.step h1 hp h)
      · exact .inr (.step hp h2 h)
    · exact .inl (.head e)
/-! ### What is told apart already, as a table -/
variable [DecidableEq H]
variable (hd sc) in
def unl (M : Nat → Nat → Bool) (a b : Nat) : Bool := !decide (hd a = hd b) || ((sc a).zip (sc b)).any fun p => M p.1.1 p.2.1 || !decide (p.1.2 = p.2.2)
theorem zip_at {α β : Type} : ∀ {l : List α} {k : List β} {j : Nat} {x : α} {y : β}, l[j]? = some x → k[j]? = some y → (x, y) ∈ l.zip k
  | [], _, j, _, _, h, _ => by simp at h
  | _ :: _, [], j, _, _, _, h => by simp at h
  | x :: l, y :: k, 0, _, _, h1, h2 => by
    simp only [List.getElem?_cons_zero, Option.some.injEq] at h1 h2
    subst h1 h2
    exact List.mem_cons_self
  | x :: l, y :: k, j + 1, _, _, h1, h2 => by
    rw [List.getElem?_cons_succ] at h1 h2
    exact List.mem_cons_of_mem _ (zip_at h1 h2)
theorem zip_mem {α β : Type} : ∀ {l : List α} {k : List β} {x : α} {y : β}, (x, y) ∈ l.zip k → ∃ j : Nat, l[j]? = some x ∧ k[j]? = some y
  | [], _, _, _, h => by simp at h
  | _ :: _, [], _, _, h => by simp at h
  | x :: l, y :: k, _, _, h => by
    rw [List.zip_cons_cons, List.mem_cons] at h
    rcases h with h | h
    · cases h; exact ⟨0, rfl, rfl⟩
    · obtain ⟨j, h1, h2⟩ := zip_mem h
      exact ⟨j + 1, by rw [List.getElem?_cons_succ]; exact h1, by rw [List.getElem?_cons_succ]; exact h2⟩
theorem unl_apt {M : Nat → Nat → Bool} (hM : ∀ a b, M a b = true → Apt hd sc a b) {a b : Nat} (h : unl hd sc M a b = true) : Apt hd sc a b := by
  unfold unl at h
  rw [Bool.or_eq_true] at h
  rcases h with h | h
  · exact .head (by simpa using h)
  · rw [List.any_eq_true] at h
    obtain ⟨⟨⟨m, r⟩, ⟨n, s⟩⟩, hp, hx⟩ := h
    obtain ⟨j, h1, h2⟩ := zip_mem hp
    rw [Bool.or_eq_true] at hx
    rcases hx with hx | hx
    · exact .step h1 h2 (hM m n hx)
    · exact .rise h1 h2 (by simpa using hx)
theorem apt_closed {M : Nat → Nat → Bool} {D : Nat → Prop} (hD : ∀ (a j m : Nat) (r : Int), D a → (sc a)[j]? = some (m, r) → D m) (hM : ∀ a b, D a → D b → unl hd sc M a b = true → M a b = true) {a b : Nat} (h : Apt hd sc a b) : D a → D b → M a b = true := by
  induction h with
  | @head a b h => exact fun ha hb => hM a b ha hb (by unfold unl; rw [decide_eq_false h]; rfl)
  | @rise a b j m n r s h1 h2 h3 =>
    refine fun ha hb => hM a b ha hb ?_
    unfold unl
    rw [Bool.or_eq_true]
    exact .inr (List.any_eq_true.2 ⟨_, zip_at h1 h2, by simp [h3]⟩)
  | @step a b j m n r s h1 h2 _ ih =>
    intro ha hb
    refine hM a b ha hb ?_
    unfold unl
    rw [Bool.or_eq_true]
    exact .inr (List.any_eq_true.2 ⟨_, zip_at h1 h2, by simp [ih (hD _ _ _ _ ha h1) (hD _ _ _ _ hb h2)]⟩)
end

/-! ### Numbers by first appearance -/
/-- The last of the first ones that is not told apart from x; -1, if there is none. -/
def lastLike (A : Nat → Nat → Bool) (fs : List Nat) (x : Nat) : Nat → Int
  | 0 => -1
  | j + 1 => if A (fs.getD j 0) x then lastLike A fs x j else (j : Int)
/-- The first of each class, and each one's class, of things one by one. -/
def clsStep (A : Nat → Nat → Bool) (p : List Nat × List Nat) (x : Nat) : List Nat × List Nat :=
  if lastLike A p.1 x p.1.length < 0 then (p.1 ++ [x], p.2 ++ [p.1.length]) else (p.1, p.2 ++ [(lastLike A p.1 x p.1.length).toNat])
def clsL (A : Nat → Nat → Bool) (rs : List Nat) : List Nat × List Nat := rs.foldl (clsStep A) ([], [])
theorem clsL_snoc (A : Nat → Nat → Bool) (rs : List Nat) (x : Nat) : clsL A (rs ++ [x]) = clsStep A (clsL A rs) x := by
  unfold clsL
  rw [List.foldl_append]; rfl
theorem last_cases (A : Nat → Nat → Bool) (fs : List Nat) (x : Nat) : ∀ j, (lastLike A fs x j = -1 ∧ ∀ k, k < j → A (fs.getD k 0) x = true) ∨ (∃ k : Nat, lastLike A fs x j = (k : Int) ∧ k < j ∧ A (fs.getD k 0) x = false)
  | 0 => .inl ⟨rfl, fun k h => by omega⟩
  | j + 1 => by
    unfold lastLike
    by_cases h : A (fs.getD j 0) x = true
    · rw [if_pos h]
      rcases last_cases A fs x j with ⟨h1, h2⟩ | ⟨k, h1, h2, h3⟩
      · refine .inl ⟨h1, fun k hk => ?_⟩
        by_cases e : k = j
        · rw [e]; exact h
        · exact h2 k (by omega)
      · exact .inr ⟨k, h1, by omega, h3⟩
    · rw [if_neg h]
      exact .inr ⟨j, rfl, by omega, by simpa using h⟩
/-- What the classes are: numbers by first appearance of what is alike. -/
structure Cls (E : Nat → Nat → Prop) (rs fs os : List Nat) : Prop where
  len : os.length = rs.length
  at_ : ∀ (i x : Nat), rs[i]? = some x → ∃ c y, os[i]? = some c ∧ fs[c]? = some y ∧ E y x
  apart : ∀ (c d y z : Nat), fs[c]? = some y → fs[d]? = some z → E y z → c = d
  first : ∀ (c y : Nat), fs[c]? = some y → ∃ i : Nat, rs[i]? = some y ∧ os[i]? = some c ∧ ∀ j d, j < i → os[j]? = some d → d < c
/-- Alike, on a set of things. -/
structure Alike (E : Nat → Nat → Prop) (D : Nat → Prop) : Prop where
  refl : ∀ a, D a → E a a
  symm : ∀ a b, D a → D b → E a b → E b a
  trans : ∀ a b c, D a → D b → D c → E a b → E b c → E a c
theorem cls_of {A : Nat → Nat → Bool} {D : Nat → Prop} (hE : Alike (fun a b => A a b = false) D) : ∀ (n : Nat) (rs : List Nat), rs.length = n → (∀ x ∈ rs, D x) → Cls (fun a b => A a b = false) rs (clsL A rs).1 (clsL A rs).2
  | 0, rs, hn, _ => by
    obtain rfl := List.eq_nil_of_length_eq_zero hn
    exact ⟨rfl, fun i x h => by simp at h, fun c d y z h => by simp [clsL] at h, fun c y h => by simp [clsL] at h⟩
  | n + 1, rs, hn, hD => by
    obtain ⟨l, x, rfl⟩ : ∃ l x, rs = l ++ [x] := by
      have hne : rs ≠ [] := fun e => by rw [e] at hn; simp at hn
      exact ⟨rs.dropLast, rs.getLast hne, (List.dropLast_concat_getLast hne).symm⟩
    have hl : l.length = n := by simpa using hn
    have hDx : D x := hD x (by simp)
    have hDl : ∀ y ∈ l, D y := fun y hy => hD y (by simp [hy])
    have ih := cls_of hE n l hl hDl
    rw [clsL_snoc]
    generalize hp : clsL A l = p at ih ⊢
    obtain ⟨fs, os⟩ := p
    have hfD : ∀ (c y : Nat), fs[c]? = some y → D y := fun c y h => by
      obtain ⟨i, hi, _⟩ := ih.first c y h
      exact hDl y (List.mem_of_getElem? hi)
    have hol := ih.len
    dsimp only at hol
    unfold clsStep
    dsimp only
    rcases last_cases A fs x fs.length with ⟨h1, h2⟩ | ⟨k, h1, h2, h3⟩
    · rw [h1, if_pos (by decide)]
      have hnew : ∀ (c y : Nat), fs[c]? = some y → A y x = true := fun c y h => by
        have := h2 c (List.getElem?_eq_some_iff.1 h).1
        rwa [List.getD_eq_getElem?_getD, h] at this
      refine ⟨by simp [hol], fun i z hz => ?_, fun c d y z hy hz he => ?_, fun c y hy => ?_⟩
      · by_cases hi : i < l.length
        · rw [List.getElem?_append_left hi] at hz
          obtain ⟨c, y, e1, e2, e3⟩ := ih.at_ i z hz
          exact ⟨c, y, by rw [List.getElem?_append_left (by omega)]; exact e1, by rw [List.getElem?_append_left (List.getElem?_eq_some_iff.1 e2).1]; exact e2, e3⟩
        · have hil : i = l.length := by have := (List.getElem?_eq_some_iff.1 hz).1; simp at this; omega
          subst hil
          rw [List.getElem?_append_right (Nat.le_refl _), Nat.sub_self] at hz
          simp only [List.getElem?_cons_zero, Option.some.injEq] at hz
          subst hz
          exact ⟨fs.length, x, by rw [List.getElem?_append_right (by omega), hol, Nat.sub_self]; rfl, by rw [List.getElem?_append_right (Nat.le_refl _), Nat.sub_self]; rfl, hE.refl x hDx⟩
      · have part : ∀ (c y : Nat), (fs ++ [x])[c]? = some y → (c < fs.length ∧ fs[c]? = some y) ∨ (c = fs.length ∧ y = x) := fun c y h => by
          by_cases hc : c < fs.length
          · exact .inl ⟨hc, by rwa [List.getElem?_append_left hc] at h⟩
          · have hcl : c = fs.length := by have := (List.getElem?_eq_some_iff.1 h).1; simp at this; omega
            subst hcl
            rw [List.getElem?_append_right (Nat.le_refl _), Nat.sub_self] at h
            simp only [List.getElem?_cons_zero, Option.some.injEq] at h
            exact .inr ⟨rfl, h.symm⟩
        rcases part c y hy with ⟨_, hy'⟩ | ⟨rfl, rfl⟩
        · rcases part d z hz with ⟨_, hz'⟩ | ⟨rfl, rfl⟩
          · exact ih.apart c d y z hy' hz' he
          · rw [hnew c y hy'] at he; cases he
        · rcases part d z hz with ⟨_, hz'⟩ | ⟨rfl, rfl⟩
          · have := hE.symm _ _ hDx (hfD d z hz') he
            rw [hnew d z hz'] at this; cases this
          · rfl
      · by_cases hc : c < fs.length
        · rw [List.getElem?_append_left hc] at hy
          obtain ⟨i, e1, e2, e3⟩ := ih.first c y hy
          have hil := (List.getElem?_eq_some_iff.1 e1).1
          refine ⟨i, by rw [List.getElem?_append_left hil]; exact e1, by rw [List.getElem?_append_left (by omega)]; exact e2, fun j d hj hd => e3 j d hj ?_⟩
          rwa [List.getElem?_append_left (by omega)] at hd
        · have hcl : c = fs.length := by have := (List.getElem?_eq_some_iff.1 hy).1; simp at this; omega
          subst hcl
          rw [List.getElem?_append_right (Nat.le_refl _), Nat.sub_self] at hy
          simp only [List.getElem?_cons_zero, Option.some.injEq] at hy
          subst hy
          refine ⟨l.length, by rw [List.getElem?_append_right (Nat.le_refl _), Nat.sub_self]; rfl, by rw [List.getElem?_append_right (by omega), hol, Nat.sub_self]; rfl, fun j d hj hd => ?_⟩
          rw [List.getElem?_append_left (by omega)] at hd
          obtain ⟨z, hz⟩ : ∃ z, l[j]? = some z := ⟨_, List.getElem?_eq_getElem hj⟩
          obtain ⟨c', y', e1, e2, _⟩ := ih.at_ j z hz
          have e1 : os[j]? = some c' := e1
          have e2 : fs[c']? = some y' := e2
          rw [hd] at e1
          obtain rfl := Option.some.inj e1
          exact (List.getElem?_eq_some_iff.1 e2).1
    · rw [h1, if_neg (by omega), Int.toNat_natCast]
      obtain ⟨y0, hy0⟩ : ∃ y, fs[k]? = some y := ⟨_, List.getElem?_eq_getElem h2⟩
      rw [List.getD_eq_getElem?_getD, hy0] at h3
      refine ⟨by simp [hol], fun i z hz => ?_, ih.apart, fun c y hy => ?_⟩
      · by_cases hi : i < l.length
        · rw [List.getElem?_append_left hi] at hz
          obtain ⟨c, y, e1, e2, e3⟩ := ih.at_ i z hz
          exact ⟨c, y, by rw [List.getElem?_append_left (by omega)]; exact e1, e2, e3⟩
        · have hil : i = l.length := by have := (List.getElem?_eq_some_iff.1 hz).1; simp at this; omega
          subst hil
          rw [List.getElem?_append_right (Nat.le_refl _), Nat.sub_self] at hz
          simp only [List.getElem?_cons_zero, Option.some.injEq] at hz
          subst hz
          exact ⟨k, y0, by rw [List.getElem?_append_right (by omega), hol, Nat.sub_self]; rfl, hy0, h3⟩
      · obtain ⟨i, e1, e2, e3⟩ := ih.first c y hy
        have hil := (List.getElem?_eq_some_iff.1 e1).1
        refine ⟨i, by rw [List.getElem?_append_left hil]; exact e1, by rw [List.getElem?_append_left (by omega)]; exact e2, fun j d hj hd => e3 j d hj ?_⟩
        rwa [List.getElem?_append_left (by omega)] at hd
section
variable {E : Nat → Nat → Prop} {D : Nat → Prop} {rs fs os : List Nat}
/-- Two are of one class just if they are alike. -/
theorem Cls.iff (h : Cls E rs fs os) (hE : Alike E D) (hD : ∀ x ∈ rs, D x) {i j x y c d : Nat} (hx : rs[i]? = some x) (hy : rs[j]? = some y) (hc : os[i]? = some c) (hd : os[j]? = some d) : c = d ↔ E x y := by
  have hfD : ∀ (c y : Nat), fs[c]? = some y → D y := fun c y h' => by
    obtain ⟨i, hi, _⟩ := h.first c y h'
    exact hD y (List.mem_of_getElem? hi)
  obtain ⟨c', u, e1, e2, e3⟩ := h.at_ i x hx
  rw [hc] at e1
  obtain rfl := Option.some.inj e1
  obtain ⟨d', v, g1, g2, g3⟩ := h.at_ j y hy
  rw [hd] at g1
  obtain rfl := Option.some.inj g1
  have dx := hD x (List.mem_of_getElem? hx)
  have dy := hD y (List.mem_of_getElem? hy)
  have du := hfD c u e2
  have dv := hfD d v g2
  constructor
  · intro e
    subst e
    rw [e2] at g2
    obtain rfl := Option.some.inj g2
    exact hE.trans x u y dx du dy (hE.symm u x du dx e3) g3
  · intro e
    exact h.apart c d u v e2 g2 (hE.trans u x v du dx dv e3 (hE.trans x y v dx dy dv e (hE.symm v y dv dy g3)))
theorem Cls.lt (h : Cls E rs fs os) {i c : Nat} (hc : os[i]? = some c) : c < fs.length := by
  have hi : i < rs.length := by rw [← h.len]; exact (List.getElem?_eq_some_iff.1 hc).1
  obtain ⟨c', y, e1, e2, _⟩ := h.at_ i _ (List.getElem?_eq_getElem hi)
  rw [hc] at e1
  obtain rfl := Option.some.inj e1
  exact (List.getElem?_eq_some_iff.1 e2).1
/-- A number that is new is the next one. -/
theorem Cls.next (h : Cls E rs fs os) {i c : Nat} (hc : os[i]? = some c) : ∀ d, d < c → ∃ j : Nat, j < i ∧ os[j]? = some d := by
  intro d hd
  obtain ⟨y, hy⟩ : ∃ y, fs[d]? = some y := ⟨_, List.getElem?_eq_getElem (by have := h.lt hc; omega)⟩
  obtain ⟨j, e1, e2, e3⟩ := h.first d y hy
  refine ⟨j, ?_, e2⟩
  rcases Nat.lt_trichotomy i j with hij | hij | hij
  · have := e3 i c hij hc; omega
  · subst hij; rw [e2] at hc; have := Option.some.inj hc; omega
  · exact hij
/-- There is but one such numbering. -/
theorem Cls.uniq (h : Cls E rs fs os) (hE : Alike E D) (hD : ∀ x ∈ rs, D x) {g : List Nat} (hl : g.length = rs.length)
    (h1 : ∀ (i j x y c d : Nat), rs[i]? = some x → rs[j]? = some y → g[i]? = some c → g[j]? = some d → (c = d ↔ E x y)) (h2 : ∀ (i c : Nat), g[i]? = some c → ∀ d, d < c → ∃ j : Nat, j < i ∧ g[j]? = some d) : g = os := by
  have key : ∀ i : Nat, g[i]? = os[i]? := by
    intro i
    induction i using Nat.strongRecOn with
    | _ i ih =>
      by_cases hi : i < rs.length
      · obtain ⟨x, hx⟩ : ∃ x, rs[i]? = some x := ⟨_, List.getElem?_eq_getElem hi⟩
        obtain ⟨c, hc⟩ : ∃ c, g[i]? = some c := ⟨_, List.getElem?_eq_getElem (by omega)⟩
        obtain ⟨d, hd⟩ : ∃ d, os[i]? = some d := ⟨_, List.getElem?_eq_getElem (by rw [h.len]; exact hi)⟩
        rw [hc, hd]
        have old : ∀ j e, j < i → os[j]? = some e → (e = c ↔ e = d) := fun j e hj he => by
          have hjl : j < rs.length := by omega
          obtain ⟨y, hy⟩ : ∃ y, rs[j]? = some y := ⟨_, List.getElem?_eq_getElem hjl⟩
          exact (h1 j i y x e c hy hx ((ih j hj).trans he) hc).trans (h.iff hE hD hy hx he hd).symm
        rcases Nat.lt_trichotomy c d with hlt | heq | hlt
        · obtain ⟨j, hj, he⟩ := h.next hd c hlt
          have := (old j c hj he).1 rfl
          omega
        · rw [heq]
        · obtain ⟨j, hj, he⟩ := h2 i c hc d hlt
          have := (old j d hj ((ih j hj).symm.trans he)).2 rfl
          omega
      · rw [List.getElem?_eq_none (by omega), List.getElem?_eq_none (by rw [h.len]; omega)]
  exact List.ext_getElem? key
end
end Go.Proofs.Ytmhbmeckdbdhpaa

namespace Go.Proofs.Ytmhbmeckdbdhpaa
open Go.RowKit

theorem node_info : (Try.prog.info? 70).map (fun i => (i.zero, i.size, i.bytes)) = some (some (.agg #[.int .i64 0, .int .i64 0, .bool false, .int .i64 0, .int .i64 0, .slice none 0 0]), 6, 64) := by kernel_rfl

theorem addr_plain (b o j : Nat) : (⟨b, o, none⟩ : Addr).add j = ⟨b, o + j, none⟩ := by unfold Addr.add; split <;> simp_all
/-- Edges that lie where no row of nodes does: below base, or in a block of edges. -/
def EdgesO (base : Nat) (W : World) (v : Value) (es : List Ed) : Prop := ∃ (A : Option Addr) (c : Nat), v = .slice A es.length c ∧ es.length ≤ 9223372036854775807 ∧
  (es ≠ [] → ∃ b off, A = some ⟨b, off, none⟩ ∧ (b < base ∨ ∃ cs, Blk W b 67 cs) ∧ ∀ i e, es[i]? = some e → W.cell? ⟨b, off + i * 2, none⟩ = some (.int .i64 e.1) ∧ W.cell? ⟨b, off + i * 2 + 1, none⟩ = some (.int .i64 e.2))
section
variable {base : Nat} {W W' : World} {v : Value} {es : List Ed}
theorem EdgesO.edges (h : EdgesO base W v es) : Edges W v es := by
  obtain ⟨A, c, h1, hl, h2⟩ := h
  refine ⟨A, c, h1, hl, fun hn => ?_⟩
  obtain ⟨b, off, h3, _, h4⟩ := h2 hn
  exact ⟨b, off, h3, h4⟩
theorem Edges.old (h : Edges W v es) (hB : W.heap.size ≤ base) : EdgesO base W v es := by
  obtain ⟨A, c, h1, hl, h2⟩ := h
  refine ⟨A, c, h1, hl, fun hn => ?_⟩
  obtain ⟨b, off, h3, h4⟩ := h2 hn
  have h0 : ∃ e, es[0]? = some e := by
    cases es with
    | nil => exact absurd rfl hn
    | cons e _ => exact ⟨e, rfl⟩
  obtain ⟨e, he⟩ := h0
  have : b < W.heap.size := cell_lt (h4 0 e he).1
  exact ⟨b, off, h3, .inl (by omega), h4⟩
theorem EdgesO.grown {row : Option Nat} (h : EdgesO base W v es) (hg : W.grownBy W' row) (hr : ∀ g, row = some g → base ≤ g ∧ ∃ cs t, Blk W g t cs ∧ t ≠ 67) : EdgesO base W' v es := by
  obtain ⟨A, c, h1, hl, h2⟩ := h
  refine ⟨A, c, h1, hl, fun hn => ?_⟩
  obtain ⟨b, off, h3, h5, h4⟩ := h2 hn
  have hne : some b ≠ row := fun e => by
    obtain ⟨hb, cs, t, hblk, ht⟩ := hr b e.symm
    rcases h5 with h5 | ⟨cs', h5⟩
    · omega
    · exact Blk.ne_ hblk h5 ht rfl
  refine ⟨b, off, h3, h5.imp id (fun ⟨cs, hb⟩ => ⟨cs, hb.grown hg hne⟩), fun i e he => ?_⟩
  have hlt := cell_lt (h4 i e he).1
  have hc := fun o => World.cell?_of_block (a := ⟨b, o, none⟩) (hg.block b hlt hne)
  exact ⟨(hc _).trans (h4 i e he).1, (hc _).trans (h4 i e he).2⟩
theorem EdgesO.kept (h : EdgesO base W v es) (hg : W.grownBy W' none) : EdgesO base W' v es := h.grown hg (fun _ e => by cases e)
theorem EdgesO.nil_ : EdgesO base W (.slice none 0 0) [] := ⟨none, 0, rfl, by simp, fun h => absurd rfl h⟩
theorem EdgesO.one {g c : Nat} {e : Ed} (h : Blk W g 67 (edCells e)) : EdgesO base W (.slice (some ⟨g, 0, none⟩) 1 c) [e] :=
  ⟨_, _, rfl, by simp, fun _ => ⟨g, 0, rfl, .inr ⟨_, h⟩, fun i x hx => by
    match i, hx with
    | 0, hx => cases hx; exact ⟨h.cell 0, h.cell 1⟩
    | i + 1, hx => simp at hx⟩⟩
end

/-- The cells of nodes, one behind the other. -/
def ndAll (ns : List (Nd × Value)) : List Value := ns.flatMap fun p => (ndCells p.1 p.2).toList
theorem ndAll_len (ns : List (Nd × Value)) : (ndAll ns).length = ns.length * 6 := by
  induction ns with
  | nil => rfl
  | cons p ns ih => simp only [ndAll, List.flatMap_cons, List.length_append] at ih ⊢; rw [ih]; simp; omega
theorem ndAll_snoc (ns : List (Nd × Value)) (p : Nd × Value) : ndAll (ns ++ [p]) = ndAll ns ++ (ndCells p.1 p.2).toList := by simp [ndAll]
theorem ndAll_at {ns : List (Nd × Value)} {i : Nat} {p : Nd × Value} (h : ns[i]? = some p) (j : Nat) (hj : j < 6) : (ndAll ns)[i * 6 + j]? = (ndCells p.1 p.2).toList[j]? := by
  induction ns generalizing i with
  | nil => simp at h
  | cons q ns ih =>
    have hq : (ndCells q.1 q.2).toList.length = 6 := rfl
    cases i with
    | zero =>
      simp only [List.getElem?_cons_zero, Option.some.injEq] at h
      subst h
      simp only [ndAll, List.flatMap_cons]
      rw [List.getElem?_append_left (by rw [hq]; omega), Nat.zero_mul, Nat.zero_add]
    | succ i =>
      rw [List.getElem?_cons_succ] at h
      simp only [ndAll, List.flatMap_cons]
      rw [List.getElem?_append_right (by rw [hq]; omega), hq, show (i + 1) * 6 + j - 6 = i * 6 + j by omega]
      exact ih h

/-- A table that is owned. -/
structure OT (base : Nat) (W : World) (v : Value) (ns : List (Nd × Value)) : Prop where
  row : W.ownsRow base 70 6 v ns.length (ndAll ns)
  eds : ∀ p ∈ ns, EdgesO base W p.2 p.1.next
section
variable {base : Nat} {W W' : World} {v : Value} {ns : List (Nd × Value)}
theorem OT.start (base : Nat) (W : World) : OT base W (.slice none 0 0) [] := ⟨World.ownsRow_nil _ _ _ _, fun p hp => by cases hp⟩
theorem OT.kept (h : OT base W v ns) (hg : W.grownBy W' none) : OT base W' v ns := by
  refine ⟨h.row.kept hg ?_, fun p hp => (h.eds p hp).kept hg⟩
  cases hb : v.ownBlock with
  | none => exact .inl rfl
  | some g => exact .inr (fun e => by cases e)
theorem own_row {n : Nat} {xs : List Value} {t : TypeId} {size : Nat} (h : W.ownsRow base t size v n xs) : ∀ g, v.ownBlock = some g → base ≤ g ∧ ∃ cs, Blk W g t cs := fun g hg => by
  rcases h.2 with ⟨rfl, _⟩ | ⟨g', cap, cur, rfl, hb, hh, _⟩
  · simp [Value.ownBlock] at hg
  · have : g' = g := by simpa [Value.ownBlock] using hg
    subst this
    exact ⟨hb, cur, hh⟩
theorem OT.tbl (h : OT base W v ns) : Tbl W v (ns.map (·.1)) := by
  rcases h.row.2 with ⟨rfl, he⟩ | ⟨g, cap, cur, rfl, hb, hh, _⟩
  · have h0 : ns = [] := by
      have := ndAll_len ns
      rw [he] at this
      exact List.eq_nil_of_length_eq_zero (by simp at this; omega)
    subst h0
    exact Tbl.nil_ W
  · refine ⟨_, cap, by simp, fun _ => ⟨g, 0, rfl, fun i x hx => ?_⟩⟩
    rw [List.getElem?_map] at hx
    obtain ⟨p, hp, rfl⟩ := Option.map_eq_some_iff.1 hx
    have hc := h.row.cells (g := g) rfl
    have e : ∀ j, ((⟨g, 0, none⟩ : Addr).add j) = ⟨g, j, none⟩ := fun j => by rw [addr_plain, Nat.zero_add]
    have at_ : ∀ j u, j < 6 → (ndCells p.1 p.2).toList[j]? = some u → W.cell? ⟨g, i * 6 + j, none⟩ = some u := fun j u hj hu => by
      have := hc (i * 6 + j) u ((ndAll_at hp j hj).trans hu)
      rwa [e] at this
    refine ⟨p.2, (h.eds p (List.mem_of_getElem? hp)).edges, ?_⟩
    rw [Nat.zero_add]
    exact ⟨at_ 0 _ (by omega) rfl, at_ 1 _ (by omega) rfl, at_ 2 _ (by omega) rfl, at_ 3 _ (by omega) rfl, at_ 4 _ (by omega) rfl, at_ 5 _ (by omega) rfl⟩
theorem OT.len (h : OT base W v ns) : ∃ A c, v = .slice A ns.length c := by
  rcases h.row.2 with ⟨rfl, he⟩ | ⟨g, cap, cur, rfl, _⟩
  · have h0 : ns = [] := by
      have := ndAll_len ns
      rw [he] at this
      exact List.eq_nil_of_length_eq_zero (by simp at this; omega)
    subst h0
    exact ⟨none, 0, rfl⟩
  · exact ⟨_, _, rfl⟩
end

/-- One node more, appended. -/
theorem wpList_append_node {ops : Array Oper} {rest : List Oper} {o : Oper} {a : Act} {W : World} {Q : Exit → Act → World → Prop} (hgd : o.guard = none) (s x : Operand)
    (ho : o.op = .call { callee := .builtin .append, args := #[s, x], argTypes := #[22, 22] })
    {base : Nat} {v : Value} {ns : List (Nd × Value)} {nd : Nd} {e : Value} {g : Nat} (hs : a.eval s = v) (hx : a.eval x = .slice (some ⟨g, 0, none⟩) 1 1)
    (hot : OT base W v ns) (hb : Blk W g 70 (ndCells nd e)) (hE : EdgesO base W e nd.next) (hn : ns.length ≤ 1000) (hbase : base ≤ W.heap.size)
    (h : ∀ v' W', OT base W' v' (ns ++ [(nd, e)]) → W.grownBy W' v.ownBlock → wpList Try.prog ops Q rest (a.put o.dst v') W') : wpList Try.prog ops Q (o :: rest) a W := by
  obtain ⟨i0, hi, hz0, hz1, hz2⟩ := info_parts node_info
  have hE2 := hE
  obtain ⟨A2, c2, he, _⟩ := hE2
  refine wpList_append_own W hgd s x 22 ho base 70 i0 _ 6 64 Try.underlying22 hi hz0 hz1 hz2 rfl (by decide) v ns.length (ndAll ns) hs hot.row
    ⟨g, 0, none⟩ 1 1 (ndCells nd e).toList hx rfl (fun j u hu => ?_) (fun u hu => ?_) (by unfold maxLen; omega) (by omega) hbase (fun v' W' hr hg _ => h v' W' ⟨?_, ?_⟩ hg)
  · rw [addr_plain, Nat.zero_add, hb.cell j, ← hu]; simp
  · rw [he] at hu
    simp only [List.mem_cons, List.not_mem_nil, or_false] at hu
    rcases hu with rfl | rfl | rfl | rfl | rfl | rfl <;> rfl
  · rw [List.length_append, ndAll_snoc]; exact hr
  · intro p hp
    rcases List.mem_append.1 hp with hp | hp
    · refine (hot.eds p hp).grown hg (fun g' e' => ?_)
      obtain ⟨hb', cs, hblk⟩ := own_row hot.row g' e'
      exact ⟨hb', cs, _, hblk, by decide⟩
    · obtain rfl := List.mem_singleton.1 hp
      refine hE.grown hg (fun g' e' => ?_)
      obtain ⟨hb', cs, hblk⟩ := own_row hot.row g' e'
      exact ⟨hb', cs, _, hblk, by decide⟩
theorem grown_own {w W W' : World} {v : Value} (h : w.grownBy W none) (hr : ∀ g, v.ownBlock = some g → w.heap.size ≤ g) (hg : W.grownBy W' v.ownBlock) : w.grownBy W' none := by
  cases hb : v.ownBlock with
  | none => rw [hb] at hg; exact only_trans h hg
  | some g => rw [hb] at hg; exact only_new h hg (hr g hb)
end Go.Proofs.Ytmhbmeckdbdhpaa

namespace Go.Proofs.Ytmhbmeckdbdhpaa
open Go.RowKit

theorem edge_info : (Try.prog.info? 67).map (fun i => (i.zero, i.size, i.bytes)) = some (some (.agg #[.int .i64 0, .int .i64 0]), 2, 16) := by kernel_rfl
def edAll (es : List Ed) : List Value := es.flatMap fun e => (edCells e).toList
theorem edAll_len (es : List Ed) : (edAll es).length = es.length * 2 := by
  induction es with
  | nil => rfl
  | cons e es ih => simp only [edAll, List.flatMap_cons, List.length_append] at ih ⊢; rw [ih]; simp; omega
theorem edAll_snoc (es : List Ed) (e : Ed) : edAll (es ++ [e]) = edAll es ++ (edCells e).toList := by simp [edAll]
theorem edAll_at {es : List Ed} {i : Nat} {e : Ed} (h : es[i]? = some e) (j : Nat) (hj : j < 2) : (edAll es)[i * 2 + j]? = (edCells e).toList[j]? := by
  induction es generalizing i with
  | nil => simp at h
  | cons q es ih =>
    have hq : (edCells q).toList.length = 2 := rfl
    cases i with
    | zero =>
      simp only [List.getElem?_cons_zero, Option.some.injEq] at h
      subst h
      simp only [edAll, List.flatMap_cons]
      rw [List.getElem?_append_left (by rw [hq]; omega), Nat.zero_mul, Nat.zero_add]
    | succ i =>
      rw [List.getElem?_cons_succ] at h
      simp only [edAll, List.flatMap_cons]
      rw [List.getElem?_append_right (by rw [hq]; omega), hq, show (i + 1) * 2 + j - 2 = i * 2 + j by omega]
      exact ih h
/-- A row of edges of the call's own. -/
def EOwn (base : Nat) (W : World) (v : Value) (es : List Ed) : Prop := W.ownsRow base 67 2 v es.length (edAll es)
section
variable {base : Nat} {W W' : World} {v : Value} {es : List Ed}
theorem EOwn.nil_ (base : Nat) (W : World) : EOwn base W (.slice none 0 0) [] := World.ownsRow_nil _ _ _ _
theorem EOwn.edges (h : EOwn base W v es) (hl : es.length ≤ 1000) : EdgesO base W v es := by
  rcases h.2 with ⟨rfl, he⟩ | ⟨g, cap, cur, rfl, hb, hh, _⟩
  · have h0 : es = [] := by
      have := edAll_len es
      rw [he] at this
      exact List.eq_nil_of_length_eq_zero (by simp at this; omega)
    subst h0
    exact EdgesO.nil_
  · refine ⟨_, cap, rfl, by omega, fun _ => ⟨g, 0, rfl, .inr ⟨cur, hh⟩, fun i e he => ?_⟩⟩
    have hc := h.cells (g := g) rfl
    have at_ : ∀ j u, j < 2 → (edCells e).toList[j]? = some u → W.cell? ⟨g, i * 2 + j, none⟩ = some u := fun j u hj hu => by
      have := hc (i * 2 + j) u ((edAll_at he j hj).trans hu)
      rwa [addr_plain, Nat.zero_add] at this
    rw [Nat.zero_add]
    exact ⟨at_ 0 _ (by omega) rfl, at_ 1 _ (by omega) rfl⟩
theorem EOwn.kept {row : Option Nat} (h : EOwn base W v es) (hg : W.grownBy W' row) (hr : ∀ g, v.ownBlock = some g → row ≠ some g) : EOwn base W' v es := by
  refine World.ownsRow.kept h hg ?_
  cases hb : v.ownBlock with
  | none => exact .inl rfl
  | some g => exact .inr (fun e => hr g hb e.symm)
theorem EOwn.kept0 (h : EOwn base W v es) (hg : W.grownBy W' none) : EOwn base W' v es := h.kept hg (fun _ _ e => by cases e)
theorem EOwn.one {g : Nat} {e : Ed} (h : Blk W g 67 (edCells e)) (hb : base ≤ g) : EOwn base W (.slice (some ⟨g, 0, none⟩) 1 1) [e] :=
  ⟨rfl, .inr ⟨g, 1, edCells e, rfl, hb, h, Nat.le_refl _, by unfold maxLen; omega, rfl, rfl⟩⟩
theorem EOwn.len (h : EOwn base W v es) : ∃ A c, v = .slice A es.length c := by
  rcases h.2 with ⟨rfl, he⟩ | ⟨g, cap, cur, rfl, _⟩
  · have h0 : es = [] := by
      have := edAll_len es
      rw [he] at this
      exact List.eq_nil_of_length_eq_zero (by simp at this; omega)
    subst h0
    exact ⟨none, 0, rfl⟩
  · exact ⟨_, _, rfl⟩
end

/-- A table that is owned, its edges, too, each node's in a row of its own. -/
structure OM (base : Nat) (W : World) (v : Value) (ns : List (Nd × Value)) : Prop where
  row : W.ownsRow base 70 6 v ns.length (ndAll ns)
  eds : ∀ p ∈ ns, EOwn base W p.2 p.1.next ∧ p.1.next.length ≤ 1000
  apart : ns.Pairwise fun p q => ∀ g, p.2.ownBlock = some g → q.2.ownBlock ≠ some g
section
variable {base : Nat} {W W' : World} {v : Value} {ns : List (Nd × Value)}
theorem OM.ot (h : OM base W v ns) : OT base W v ns := ⟨h.row, fun p hp => (h.eds p hp).1.edges (h.eds p hp).2⟩
theorem OM.start (base : Nat) (W : World) : OM base W (.slice none 0 0) [] := ⟨World.ownsRow_nil _ _ _ _, (fun p hp => by cases hp), List.Pairwise.nil⟩
/-- Another block is turned: neither the table's, nor its edges'. -/
theorem OM.far {row : Option Nat} (h : OM base W v ns) (hg : W.grownBy W' row) (hr : ∀ g, row = some g → v.ownBlock ≠ some g ∧ ∀ p ∈ ns, p.2.ownBlock ≠ some g) : OM base W' v ns := by
  refine ⟨h.row.kept hg ?_, fun p hp => ⟨(h.eds p hp).1.kept hg (fun g e e' => (hr g e').2 p hp e), (h.eds p hp).2⟩, h.apart⟩
  cases hb : v.ownBlock with
  | none => exact .inl rfl
  | some g => exact .inr (fun e => (hr g e.symm).1 hb)
theorem OM.kept (h : OM base W v ns) (hg : W.grownBy W' none) : OM base W' v ns := h.far hg (fun _ e => by cases e)
end
end Go.Proofs.Ytmhbmeckdbdhpaa

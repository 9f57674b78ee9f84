/- Texts joined for the claim's sake: CApt, CDep. -/
import Derived.Test.YtmhbmeckdbdhpaaZSKnwRow0
namespace Go.Proofs.Ytmhbmeckdbdhpaa

section
variable {H : Type} (hd : Nat → H) (sc : Nat → List (Nat × Int))
/-- Two nodes are told apart by a way. -/
inductive Apt : Nat → Nat → Prop where
  | head {a b : Nat} : hd a ≠ hd b → Apt a b
  | rise {a b j m n : Nat} {r s : Int} : (sc a)[j]? = some (m, r) → (sc b)[j]? = some (n, s) → r ≠ s → Apt a b
  | step {a b j m n : Nat} {r s : Int} : (sc a)[j]? = some (m, r) → (sc b)[j]? = some (n, s) → Apt m n → Apt a b
variable {hd sc}
theorem Apt.ne {a b : Nat} (h : Apt hd sc a b) : a ≠ b := by
  induction h with
  | head h => exact fun e => h (by rw [e])
  | rise h1 h2 h3 => intro e; subst e; rw [h1] at h2; simp only [Option.some.injEq, Prod.mk.injEq] at h2; exact h3 h2.2
  | step h1 h2 _ ih => intro e; subst e; rw [h1] at h2; simp only [Option.some.injEq, Prod.mk.injEq] at h2; exact ih h2.1
theorem Apt.symm {a b : Nat} (h : Apt hd sc a b) : Apt hd sc b a := by
  induction h with
  | head h => exact .head (fun e => h e.symm)
  | rise h1 h2 h3 => exact .rise h2 h1 (fun e => h3 e.symm)
  | step h1 h2 _ ih => exact .step h2 h1 ih
/-- Heads tell how many follow. -/
def HdLen (hd : Nat → H) (sc : Nat → List (Nat × Int)) : Prop := ∀ a b, hd a = hd b → (sc a).length = (sc b).length
theorem Apt.part (hl : HdLen hd sc) {a c : Nat} (h : Apt hd sc a c) : ∀ b, Apt hd sc a b ∨ Apt hd sc b c := by
  induction h with
  | @head a c h =>
    intro b
    by_cases e : hd a = hd b
    · exact .inr (.head (fun e2 => h (e.trans e2)))
    · exact .inl (.head e)
  | @rise a c j m n r s h1 h2 h3 =>
    intro b
    by_cases e : hd a = hd b
    · have hj : j < (sc b).length := by rw [← hl a b e]; exact (List.getElem?_eq_some_iff.1 h1).1
      obtain ⟨⟨p, t⟩, hp⟩ : ∃ x, (sc b)[j]? = some x := ⟨_, List.getElem?_eq_getElem hj⟩
      by_cases e2 : r = t
      · exact .inr (.rise hp h2 (fun e3 => h3 (e2.trans e3)))
      · exact .inl (.rise h1 hp e2)
    · exact .inl (.head e)
  | @step a c j m n r s h1 h2 _ ih =>
    intro b
    by_cases e : hd a = hd b
    · have hj : j < (sc b).length := by rw [← hl a b e]; exact (List.getElem?_eq_some_iff.1 h1).1
      obtain ⟨⟨p, t⟩, hp⟩ : ∃ x, (sc b)[j]? = some x := ⟨_, List.getElem?_eq_getElem hj⟩
      rcases ih p with h | h
      · exact .inl (.step h1 hp h)
      · exact .inr (.step hp h2 h)
    · exact .inl (.head e)
/-! ### What is told apart already, as a table -/
variable [DecidableEq H]
variable (hd sc) in
def unl (M : Nat → Nat → Bool) (a b : Nat) : Bool := !decide (hd a = hd b) || ((sc a).zip (sc b)).any fun p => M p.1.1 p.2.1 || !decide (p.1.2 = p.2.2)
theorem zip_at {α β : Type} : ∀ {l : List α} {k : List β} {j : Nat} {x : α} {y : β}, l[j]? = some x → k[j]? = some y → (x, y) ∈ l.zip k
  | [], _, j, _, _, h, _ => by simp at h
  | _ :: _, [], j, _, _, _, h => by simp at h
  | x :: l, y :: k, 0, _, _, h1, h2 => by
    simp only [List.getElem?_cons_zero, Option.some.injEq] at h1 h2
    subst h1 h2
    exact List.mem_cons_self
  | x :: l, y :: k, j + 1, _, _, h1, h2 => by
    rw [List.getElem?_cons_succ] at h1 h2
    exact List.mem_cons_of_mem _ (zip_at h1 h2)
theorem zip_mem {α β : Type} : ∀ {l : List α} {k : List β} {x : α} {y : β}, (x, y) ∈ l.zip k → ∃ j : Nat, l[j]? = some x ∧ k[j]? = some y
  | [], _, _, _, h => by simp at h
  | _ :: _, [], _, _, h => by simp at h
  | x :: l, y :: k, _, _, h => by
    rw [List.zip_cons_cons, List.mem_cons] at h
    rcases h with h | h
    · cases h; exact ⟨0, rfl, rfl⟩
    · obtain ⟨j, h1, h2⟩ := zip_mem h
      exact ⟨j + 1, by rw [List.getElem?_cons_succ]; exact h1, by rw [List.getElem?_cons_succ]; exact h2⟩
theorem unl_apt {M : Nat → Nat → Bool} (hM : ∀ a b, M a b = true → Apt hd sc a b) {a b : Nat} (h : unl hd sc M a b = true) : Apt hd sc a b := by
  unfold unl at h
  rw [Bool.or_eq_true] at h
  rcases h with h | h
  · exact .head (by simpa using h)
  · rw [List.any_eq_true] at h
    obtain ⟨⟨⟨m, r⟩, ⟨n, s⟩⟩, hp, hx⟩ := h
    obtain ⟨j, h1, h2⟩ := zip_mem hp
    rw [Bool.or_eq_true] at hx
    rcases hx with hx | hx
    · exact .step h1 h2 (hM m n hx)
    · exact .rise h1 h2 (by simpa using hx)
theorem apt_closed {M : Nat → Nat → Bool} {D : Nat → Prop} (hD : ∀ (a j m : Nat) (r : Int), D a → (sc a)[j]? = some (m, r) → D m) (hM : ∀ a b, D a → D b → unl hd sc M a b = true → M a b = true) {a b : Nat} (h : Apt hd sc a b) : D a → D b → M a b = true := by
  induction h with
  | @head a b h => exact fun ha hb => hM a b ha hb (by unfold unl; rw [decide_eq_false h]; rfl)
  | @rise a b j m n r s h1 h2 h3 =>
    refine fun ha hb => hM a b ha hb ?_
    unfold unl
    rw [Bool.or_eq_true]
    exact .inr (List.any_eq_true.2 ⟨_, zip_at h1 h2, by simp [h3]⟩)
  | @step a b j m n r s h1 h2 _ ih =>
    intro ha hb
    refine hM a b ha hb ?_
    unfold unl
    rw [Bool.or_eq_true]
    exact .inr (List.any_eq_true.2 ⟨_, zip_at h1 h2, by simp [ih (hD _ _ _ _ ha h1) (hD _ _ _ _ hb h2)]⟩)
end

/-! ### Numbers by first appearance -/
/-- The last of the first ones that is not told apart from x; -1, if there is none. -/
def lastLike (A : Nat → Nat → Bool) (fs : List Nat) (x : Nat) : Nat → Int
  | 0 => -1
  | j + 1 => if A (fs.getD j 0) x then lastLike A fs x j else (j : Int)
/-- The first of each class, and each one's class, of things one by one. -/
def clsStep (A : Nat → Nat → Bool) (p : List Nat × List Nat) (x : Nat) : List Nat × List Nat :=
  if lastLike A p.1 x p.1.length < 0 then (p.1 ++ [x], p.2 ++ [p.1.length]) else (p.1, p.2 ++ [(lastLike A p.1 x p.1.length).toNat])
def clsL (A : Nat → Nat → Bool) (rs : List Nat) : List Nat × List Nat := rs.foldl (clsStep A) ([], [])
theorem clsL_snoc (A : Nat → Nat → Bool) (rs : List Nat) (x : Nat) : clsL A (rs ++ [x]) = clsStep A (clsL A rs) x := by
  unfold clsL
  rw [List.foldl_append]; rfl
theorem last_cases (A : Nat → Nat → Bool) (fs : List Nat) (x : Nat) : ∀ j, (lastLike A fs x j = -1 ∧ ∀ k, k < j → A (fs.getD k 0) x = true) ∨ (∃ k : Nat, lastLike A fs x j = (k : Int) ∧ k < j ∧ A (fs.getD k 0) x = false)
  | 0 => .inl ⟨rfl, fun k h => by omega⟩
  | j + 1 => by
    unfold lastLike
    by_cases h : A (fs.getD j 0) x = true
    · rw [if_pos h]
      rcases last_cases A fs x j with ⟨h1, h2⟩ | ⟨k, h1, h2, h3⟩
      · refine .inl ⟨h1, fun k hk => ?_⟩
        by_cases e : k = j
        · rw [e]; exact h
        · exact h2 k (by omega)
      · exact .inr ⟨k, h1, by omega, h3⟩
    · rw [if_neg h]
      exact .inr ⟨j, rfl, by omega, by simpa using h⟩
/-- What the classes are: numbers by first appearance of what is alike. -/
structure Cls (E : Nat → Nat → Prop) (rs fs os : List Nat) : Prop where
  len : os.length = rs.length
  at_ : ∀ (i x : Nat), rs[i]? = some x → ∃ c y, os[i]? = some c ∧ fs[c]? = some y ∧ E y x
  apart : ∀ (c d y z : Nat), fs[c]? = some y → fs[d]? = some z → E y z → c = d
  first : ∀ (c y : Nat), fs[c]? = some y → ∃ i : Nat, rs[i]? = some y ∧ os[i]? = some c ∧ ∀ j d, j < i → os[j]? = some d → d < c
/-- Alike, on a set of things. -/
structure Alike (E : Nat → Nat → Prop) (D : Nat → Prop) : Prop where
  refl : ∀ a, D a → E a a
  symm : ∀ a b, D a → D b → E a b → E b a
  trans : ∀ a b c, D a → D b → D c → E a b → E b c → E a c
theorem cls_of {A : Nat → Nat → Bool} {D : Nat → Prop} (hE : Alike (fun a b => A a b = false) D) : ∀ (n : Nat) (rs : List Nat), rs.length = n → (∀ x ∈ rs, D x) → Cls (fun a b => A a b = false) rs (clsL A rs).1 (clsL A rs).2
  | 0, rs, hn, _ => by
    obtain rfl := List.eq_nil_of_length_eq_zero hn
    exact ⟨rfl, fun i x h => by simp at h, fun c d y z h => by simp [clsL] at h, fun c y h => by simp [clsL] at h⟩
  | n + 1, rs, hn, hD => by
    obtain ⟨l, x, rfl⟩ : ∃ l x, rs = l ++ [x] := by
      have hne : rs ≠ [] := fun e => by rw [e] at hn; simp at hn
      exact ⟨rs.dropLast, rs.getLast hne, (List.dropLast_concat_getLast hne).symm⟩
    have hl : l.length = n := by simpa using hn
    have hDx : D x := hD x (by simp)
    have hDl : ∀ y ∈ l, D y := fun y hy => hD y (by simp [hy])
    have ih := cls_of hE n l hl hDl
    rw [clsL_snoc]
    generalize hp : clsL A l = p at ih ⊢
    obtain ⟨fs, os⟩ := p
    have hfD : ∀ (c y : Nat), fs[c]? = some y → D y := fun c y h => by
      obtain ⟨i, hi, _⟩ := ih.first c y h
      exact hDl y (List.mem_of_getElem? hi)
    have hol := ih.len
    dsimp only at hol
    unfold clsStep
    dsimp only
    rcases last_cases A fs x fs.length with ⟨h1, h2⟩ | ⟨k, h1, h2, h3⟩
    · rw [h1, if_pos (by decide)]
      have hnew : ∀ (c y : Nat), fs[c]? = some y → A y x = true := fun c y h => by
        have := h2 c (List.getElem?_eq_some_iff.1 h).1
        rwa [List.getD_eq_getElem?_getD, h] at this
      refine ⟨by simp [hol], fun i z hz => ?_, fun c d y z hy hz he => ?_, fun c y hy => ?_⟩
      · by_cases hi : i < l.length
        · rw [List.getElem?_append_left hi] at hz
          obtain ⟨c, y, e1, e2, e3⟩ := ih.at_ i z hz
          exact ⟨c, y, by rw [List.getElem?_append_left (by omega)]; exact e1, by rw [List.getElem?_append_left (List.getElem?_eq_some_iff.1 e2).1]; exact e2, e3⟩
        · have hil : i = l.length := by have := (List.getElem?_eq_some_iff.1 hz).1; simp at this; omega
          subst hil
          rw [List.getElem?_append_right (Nat.le_refl _), Nat.sub_self] at hz
          simp only [List.getElem?_cons_zero, Option.some.injEq] at hz
          subst hz
          exact ⟨fs.length, x, by rw [List.getElem?_append_right (by omega), hol, Nat.sub_self]; rfl, by rw [List.getElem?_append_right (Nat.le_refl _), Nat.sub_self]; rfl, hE.refl x hDx⟩
      · have part : ∀ (c y : Nat), (fs ++ [x])[c]? = some y → (c < fs.length ∧ fs[c]? = some y) ∨ (c = fs.length ∧ y = x) := fun c y h => by
          by_cases hc : c < fs.length
          · exact .inl ⟨hc, by rwa [List.getElem?_append_left hc] at h⟩
          · have hcl : c = fs.length := by have := (List.getElem?_eq_some_iff.1 h).1; simp at this; omega
            subst hcl
            rw [List.getElem?_append_right (Nat.le_refl _), Nat.sub_self] at h
            simp only [List.getElem?_cons_zero, Option.some.injEq] at h
            exact .inr ⟨rfl, h.symm⟩
        rcases part c y hy with ⟨_, hy'⟩ | ⟨rfl, rfl⟩
        · rcases part d z hz with ⟨_, hz'⟩ | ⟨rfl, rfl⟩
          · exact ih.apart c d y z hy' hz' he
          · rw [hnew c y hy'] at he; cases he
        · rcases part d z hz with ⟨_, hz'⟩ | ⟨rfl, rfl⟩
          · have := hE.symm _ _ hDx (hfD d z hz') he
            rw [hnew d z hz'] at this; cases this
          · rfl
      · by_cases hc : c < fs.length
        · rw [List.getElem?_append_left hc] at hy
          obtain ⟨i, e1, e2, e3⟩ := ih.first c y hy
          have hil := (List.getElem?_eq_some_iff.1 e1).1
          refine ⟨i, by rw [List.getElem?_append_left hil]; exact e1, by rw [List.getElem?_append_left (by omega)]; exact e2, fun j d hj hd => e3 j d hj ?_⟩
          rwa [List.getElem?_append_left (by omega)] at hd
        · have hcl : c = fs.length := by have := (List.getElem?_eq_some_iff.1 hy).1; simp at this; omega
          subst hcl
          rw [List.getElem?_append_right (Nat.le_refl _), Nat.sub_self] at hy
          simp only [List.getElem?_cons_zero, Option.some.injEq] at hy
          subst hy
          refine ⟨l.length, by rw [List.getElem?_append_right (Nat.le_refl _), Nat.sub_self]; rfl, by rw [List.getElem?_append_right (by omega), hol, Nat.sub_self]; rfl, fun j d hj hd => ?_⟩
          rw [List.getElem?_append_left (by omega)] at hd
          obtain ⟨z, hz⟩ : ∃ z, l[j]? = some z := ⟨_, List.getElem?_eq_getElem hj⟩
          obtain ⟨c', y', e1, e2, _⟩ := ih.at_ j z hz
          have e1 : os[j]? = some c' := e1
          have e2 : fs[c']? = some y' := e2
          rw [hd] at e1
          obtain rfl := Option.some.inj e1
          exact (List.getElem?_eq_some_iff.1 e2).1
    · rw [h1, if_neg (by omega), Int.toNat_natCast]
      obtain ⟨y0, hy0⟩ : ∃ y, fs[k]? = some y := ⟨_, List.getElem?_eq_getElem h2⟩
      rw [List.getD_eq_getElem?_getD, hy0] at h3
      refine ⟨by simp [hol], fun i z hz => ?_, ih.apart, fun c y hy => ?_⟩
      · by_cases hi : i < l.length
        · rw [List.getElem?_append_left hi] at hz
          obtain ⟨c, y, e1, e2, e3⟩ := ih.at_ i z hz
          exact ⟨c, y, by rw [List.getElem?_append_left (by omega)]; exact e1, e2, e3⟩
        · have hil : i = l.length := by have := (List.getElem?_eq_some_iff.1 hz).1; simp at this; omega
          subst hil
          rw [List.getElem?_append_right (Nat.le_refl _), Nat.sub_self] at hz
          simp only [List.getElem?_cons_zero, Option.some.injEq] at hz
          subst hz
          exact ⟨k, y0, by rw [List.getElem?_append_right (by omega), hol, Nat.sub_self]; rfl, hy0, h3⟩
      · obtain ⟨i, e1, e2, e3⟩ := ih.first c y hy
        have hil := (List.getElem?_eq_some_iff.1 e1).1
        refine ⟨i, by rw [List.getElem?_append_left hil]; exact e1, by rw [List.getElem?_append_left (by omega)]; exact e2, fun j d hj hd => e3 j d hj ?_⟩
        rwa [List.getElem?_append_left (by omega)] at hd
section
variable {E : Nat → Nat → Prop} {D : Nat → Prop} {rs fs os : List Nat}
/-- Two are of one class just if they are alike. -/
theorem Cls.iff (h : Cls E rs fs os) (hE : Alike E D) (hD : ∀ x ∈ rs, D x) {i j x y c d : Nat} (hx : rs[i]? = some x) (hy : rs[j]? = some y) (hc : os[i]? = some c) (hd : os[j]? = some d) : c = d ↔ E x y := by
  have hfD : ∀ (c y : Nat), fs[c]? = some y → D y := fun c y h' => by
    obtain ⟨i, hi, _⟩ := h.first c y h'
    exact hD y (List.mem_of_getElem? hi)
  obtain ⟨c', u, e1, e2, e3⟩ := h.at_ i x hx
  rw [hc] at e1
  obtain rfl := Option.some.inj e1
  obtain ⟨d', v, g1, g2, g3⟩ := h.at_ j y hy
  rw [hd] at g1
  obtain rfl := Option.some.inj g1
  have dx := hD x (List.mem_of_getElem? hx)
  have dy := hD y (List.mem_of_getElem? hy)
  have du := hfD c u e2
  have dv := hfD d v g2
  constructor
  · intro e
    subst e
    rw [e2] at g2
    obtain rfl := Option.some.inj g2
    exact hE.trans x u y dx du dy (hE.symm u x du dx e3) g3
  · intro e
    exact h.apart c d u v e2 g2 (hE.trans u x v du dx dv e3 (hE.trans x y v dx dy dv e (hE.symm v y dv dy g3)))
theorem Cls.lt (h : Cls E rs fs os) {i c : Nat} (hc : os[i]? = some c) : c < fs.length := by
  have hi : i < rs.length := by rw [← h.len]; exact (List.getElem?_eq_some_iff.1 hc).1
  obtain ⟨c', y, e1, e2, _⟩ := h.at_ i _ (List.getElem?_eq_getElem hi)
  rw [hc] at e1
  obtain rfl := Option.some.inj e1
  exact (List.getElem?_eq_some_iff.1 e2).1
/-- A number that is new is the next one. -/
theorem Cls.next (h : Cls E rs fs os) {i c : Nat} (hc : os[i]? = some c) : ∀ d, d < c → ∃ j : Nat, j < i ∧ os[j]? = some d := by
  intro d hd
  obtain ⟨y, hy⟩ : ∃ y, fs[d]? = some y := ⟨_, List.getElem?_eq_getElem (by have := h.lt hc; omega)⟩
  obtain ⟨j, e1, e2, e3⟩ := h.first d y hy
  refine ⟨j, ?_, e2⟩
  rcases Nat.lt_trichotomy i j with hij | hij | hij
  · have := e3 i c hij hc; omega
  · subst hij; rw [e2] at hc; have := Option.some.inj hc; omega
  · exact hij
/-- There is but one such numbering. -/
theorem Cls.uniq (h : Cls E rs fs os) (hE : Alike E D) (hD : ∀ x ∈ rs, D x) {g : List Nat} (hl : g.length = rs.length)
    (h1 : ∀ (i j x y c d : Nat), rs[i]? = some x → rs[j]? = some y → g[i]? = some c → g[j]? = some d → (c = d ↔ E x y)) (h2 : ∀ (i c : Nat), g[i]? = some c → ∀ d, d < c → ∃ j : Nat, j < i ∧ g[j]? = some d) : g = os := by
  have key : ∀ i : Nat, g[i]? = os[i]? := by
    intro i
    induction i using Nat.strongRecOn with
    | _ i ih =>
      by_cases hi : i < rs.length
      · obtain ⟨x, hx⟩ : ∃ x, rs[i]? = some x := ⟨_, List.getElem?_eq_getElem hi⟩
        obtain ⟨c, hc⟩ : ∃ c, g[i]? = some c := ⟨_, List.getElem?_eq_getElem (by omega)⟩
        obtain ⟨d, hd⟩ : ∃ d, os[i]? = some d := ⟨_, List.getElem?_eq_getElem (by rw [h.len]; exact hi)⟩
        rw [hc, hd]
        have old : ∀ j e, j < i → os[j]? = some e → (e = c ↔ e = d) := fun j e hj he => by
          have hjl : j < rs.length := by omega
          obtain ⟨y, hy⟩ : ∃ y, rs[j]? = some y := ⟨_, List.getElem?_eq_getElem hjl⟩
          exact (h1 j i y x e c hy hx ((ih j hj).trans he) hc).trans (h.iff hE hD hy hx he hd).symm
        rcases Nat.lt_trichotomy c d with hlt | heq | hlt
        · obtain ⟨j, hj, he⟩ := h.next hd c hlt
          have := (old j c hj he).1 rfl
          omega
        · rw [heq]
        · obtain ⟨j, hj, he⟩ := h2 i c hc d hlt
          have := (old j d hj ((ih j hj).symm.trans he)).2 rfl
          omega
      · rw [List.getElem?_eq_none (by omega), List.getElem?_eq_none (by rw [h.len]; omega)]
  exact List.ext_getElem? key
end
end Go.Proofs.Ytmhbmeckdbdhpaa

namespace Go.Proofs.Ytmhbmeckdbdhpaa

section
variable {H : Type} [DecidableEq H] (hd : Nat → H) (sc : Nat → List (Nat × Int))
/-- Told apart by a way of fewer than k steps. -/
def aptK : Nat → Nat → Nat → Bool
  | 0, _, _ => false
  | k + 1, a, b => unl hd sc (aptK k) a b
variable {hd sc}
theorem unl_refl {M : Nat → Nat → Bool} (hM : ∀ a, M a a = false) (a : Nat) : unl hd sc M a a = false := by
  unfold unl
  rw [decide_eq_true rfl, Bool.not_true, Bool.false_or, List.any_eq_false]
  intro p hp
  obtain ⟨j, h1, h2⟩ := zip_mem hp
  rw [h1] at h2
  have h3 := Option.some.inj h2
  rw [h3, hM]
  simp
theorem aptK_refl : ∀ (k a : Nat), aptK hd sc k a a = false
  | 0, _ => rfl
  | k + 1, a => unl_refl (aptK_refl k) a
theorem unl_mono {M K : Nat → Nat → Bool} (h : ∀ a b, M a b = true → K a b = true) {a b : Nat} (hu : unl hd sc M a b = true) : unl hd sc K a b = true := by
  unfold unl at hu ⊢
  rw [Bool.or_eq_true] at hu ⊢
  refine hu.imp id fun hu => ?_
  rw [List.any_eq_true] at hu ⊢
  obtain ⟨p, hp, hx⟩ := hu
  refine ⟨p, hp, ?_⟩
  rw [Bool.or_eq_true] at hx ⊢
  exact hx.imp (h _ _) id
theorem aptK_up : ∀ (k : Nat) {a b : Nat}, aptK hd sc k a b = true → aptK hd sc (k + 1) a b = true
  | 0, _, _, h => by cases h
  | k + 1, _, _, h => unl_mono (fun _ _ => aptK_up k) h
theorem aptK_le {k j : Nat} (h : k ≤ j) {a b : Nat} (ha : aptK hd sc k a b = true) : aptK hd sc j a b = true := by
  obtain ⟨d, rfl⟩ : ∃ d, j = k + d := ⟨j - k, by omega⟩
  clear h
  induction d with
  | zero => exact ha
  | succ d ih => exact aptK_up (k + d) ih
theorem aptK_apt : ∀ (k : Nat) (a b : Nat), aptK hd sc k a b = true → Apt hd sc a b
  | 0, _, _, h => by cases h
  | k + 1, _, _, h => unl_apt (aptK_apt k) h
theorem unl_symm {M : Nat → Nat → Bool} (h : ∀ a b, M a b = true → M b a = true) {a b : Nat} (hu : unl hd sc M a b = true) : unl hd sc M b a = true := by
  unfold unl at hu ⊢
  rw [Bool.or_eq_true] at hu ⊢
  rcases hu with hu | hu
  · refine .inl ?_
    simp only [Bool.not_eq_true', decide_eq_false_iff_not] at hu ⊢
    exact fun e => hu e.symm
  · refine .inr ?_
    rw [List.any_eq_true] at hu ⊢
    obtain ⟨⟨x, y⟩, hp, hx⟩ := hu
    obtain ⟨j, h1, h2⟩ := zip_mem hp
    refine ⟨(y, x), zip_at h2 h1, ?_⟩
    dsimp only at hx ⊢
    rw [Bool.or_eq_true] at hx ⊢
    refine hx.imp (h _ _) fun hx => ?_
    simp only [Bool.not_eq_true', decide_eq_false_iff_not] at hx ⊢
    exact fun e => hx e.symm
theorem aptK_symm : ∀ (k : Nat) (a b : Nat), aptK hd sc k a b = true → aptK hd sc k b a = true
  | 0, _, _, h => by cases h
  | k + 1, _, _, h => unl_symm (aptK_symm k) h
theorem aptK_part (hl : HdLen hd sc) : ∀ (k : Nat) (a b c : Nat), aptK hd sc k a c = true → aptK hd sc k a b = true ∨ aptK hd sc k b c = true
  | 0, _, _, _, h => by cases h
  | k + 1, a, b, c, h => by
    by_cases e : hd a = hd b
    · by_cases e2 : hd b = hd c
      · have h' := h
        unfold aptK unl at h'
        rw [decide_eq_true (e.trans e2), Bool.not_true, Bool.false_or, List.any_eq_true] at h'
        obtain ⟨⟨⟨m, r⟩, ⟨n, s⟩⟩, hp, hx⟩ := h'
        obtain ⟨j, h1, h2⟩ := zip_mem hp
        have hj : j < (sc b).length := by rw [← hl a b e]; exact (List.getElem?_eq_some_iff.1 h1).1
        obtain ⟨⟨p, t⟩, h3⟩ : ∃ x, (sc b)[j]? = some x := ⟨_, List.getElem?_eq_getElem hj⟩
        have mk : ∀ {u v : Nat} {x y : Nat × Int}, (sc u)[j]? = some x → (sc v)[j]? = some y → (aptK hd sc k x.1 y.1 = true ∨ x.2 ≠ y.2) → aptK hd sc (k + 1) u v = true := fun {u v x y} g1 g2 g3 => by
          show unl hd sc (aptK hd sc k) u v = true
          unfold unl
          rw [Bool.or_eq_true]
          refine .inr (List.any_eq_true.2 ⟨_, zip_at g1 g2, ?_⟩)
          rw [Bool.or_eq_true]
          exact g3.imp id (fun g => by simp [g])
        dsimp only at hx
        rw [Bool.or_eq_true] at hx
        rcases hx with hx | hx
        · rcases aptK_part hl k m p n hx with g | g
          · exact .inl (mk h1 h3 (.inl g))
          · exact .inr (mk h3 h2 (.inl g))
        · have hx : r ≠ s := by simpa using hx
          by_cases e3 : r = t
          · exact .inr (mk h3 h2 (.inr (fun e4 => hx (e3.trans e4))))
          · exact .inl (mk h1 h3 (.inr e3))
      · exact .inr (by show unl hd sc (aptK hd sc k) b c = true; unfold unl; rw [decide_eq_false e2]; rfl)
    · exact .inl (by show unl hd sc (aptK hd sc k) a b = true; unfold unl; rw [decide_eq_false e]; rfl)
/-- Not apart, as far as k steps tell: an equivalence. -/
theorem likeK_trans (hl : HdLen hd sc) {k a b c : Nat} (h1 : aptK hd sc k a b = false) (h2 : aptK hd sc k b c = false) : aptK hd sc k a c = false := by
  cases h : aptK hd sc k a c with
  | false => rfl
  | true =>
    rcases aptK_part hl k a b c h with g | g
    · rw [h1] at g; cases g
    · rw [h2] at g; cases g
theorem likeK_symm {k a b : Nat} (h : aptK hd sc k a b = false) : aptK hd sc k b a = false := by
  cases g : aptK hd sc k b a with
  | false => rfl
  | true => rw [aptK_symm k b a g] at h; cases h
theorem likeK_down {k a b : Nat} (h : aptK hd sc (k + 1) a b = false) : aptK hd sc k a b = false := by
  cases g : aptK hd sc k a b with
  | false => rfl
  | true => rw [aptK_up k g] at h; cases h

/-! ### How many are first of their like -/
variable (D : Nat → Bool) (N : Nat)
variable (hd sc) in
def isFirst (k i : Nat) : Bool := D i && (List.range i).all fun j => !D j || aptK hd sc k j i
variable (hd sc) in
def firsts (k : Nat) : Nat := (List.range N).countP (isFirst hd sc D k)
variable {D N}
theorem isFirst_iff {k i : Nat} : isFirst hd sc D k i = true ↔ D i = true ∧ ∀ j, j < i → D j = true → aptK hd sc k j i = true := by
  unfold isFirst
  rw [Bool.and_eq_true, List.all_eq_true]
  refine and_congr Iff.rfl ⟨fun h j hj hd' => ?_, fun h j hj => ?_⟩
  · have := h j (List.mem_range.2 hj)
    rw [hd'] at this
    simpa using this
  · cases hDj : D j with
    | false => rfl
    | true => simpa using h j (List.mem_range.1 hj) hDj
theorem isFirst_up {k i : Nat} (h : isFirst hd sc D k i = true) : isFirst hd sc D (k + 1) i = true := by
  rw [isFirst_iff] at h ⊢
  exact ⟨h.1, fun j hj hD => aptK_up k (h.2 j hj hD)⟩
theorem least {P : Nat → Prop} (n : Nat) (h : P n) : ∃ m, m ≤ n ∧ P m ∧ ∀ j, j < m → ¬ P j := by
  induction n using Nat.strongRecOn with
  | _ n ih =>
    by_cases e : ∃ j, j < n ∧ P j
    · obtain ⟨j, hj, hP⟩ := e
      obtain ⟨m, h1, h2, h3⟩ := ih j hj hP
      exact ⟨m, by omega, h2, h3⟩
    · exact ⟨n, Nat.le_refl _, h, fun j hj hP => e ⟨j, hj, hP⟩⟩
/-- Where a step more tells more, one more is first. -/
theorem first_new (hl : HdLen hd sc) (hN : ∀ i, D i = true → i < N) {k a b : Nat} (ha : D a = true) (hb : D b = true) (h0 : aptK hd sc k a b = false) (h1 : aptK hd sc (k + 1) a b = true) :
    ∃ x, x < N ∧ isFirst hd sc D k x = false ∧ isFirst hd sc D (k + 1) x = true := by
  obtain ⟨m, _, ⟨hm, hma⟩, hmin⟩ := least (P := fun m => D m = true ∧ aptK hd sc k m a = false) a ⟨ha, aptK_refl k a⟩
  have hmb := likeK_trans hl hma h0
  obtain ⟨y, hy, hmy, hky⟩ : ∃ y, D y = true ∧ aptK hd sc (k + 1) m y = true ∧ aptK hd sc k m y = false := by
    cases g : aptK hd sc (k + 1) m a with
    | true => exact ⟨a, ha, g, hma⟩
    | false =>
      refine ⟨b, hb, ?_, hmb⟩
      rcases aptK_part hl (k + 1) a m b h1 with g2 | g2
      · rw [likeK_symm g] at g2; cases g2
      · exact g2
  obtain ⟨x, _, ⟨hx, hmx, hkx⟩, hxmin⟩ := least (P := fun x => D x = true ∧ aptK hd sc (k + 1) m x = true ∧ aptK hd sc k m x = false) y ⟨hy, hmy, hky⟩
  have hmx2 : m < x := by
    rcases Nat.lt_trichotomy m x with h | h | h
    · exact h
    · subst h; rw [aptK_refl] at hmx; cases hmx
    · exact absurd ⟨hx, likeK_trans hl (likeK_symm hkx) hma⟩ (hmin x h)
  refine ⟨x, hN x hx, ?_, isFirst_iff.2 ⟨hx, fun j hj hDj => ?_⟩⟩
  · cases g : isFirst hd sc D k x with
    | false => rfl
    | true =>
      have := (isFirst_iff.1 g).2 m hmx2 hm
      rw [hkx] at this; cases this
  · cases g : aptK hd sc (k + 1) j x with
    | true => rfl
    | false =>
      have g0 := likeK_down g
      have hkj : aptK hd sc k m j = false := likeK_trans hl hkx (likeK_symm g0)
      cases g2 : aptK hd sc (k + 1) m j with
      | true => exact absurd ⟨hDj, g2, hkj⟩ (hxmin j hj)
      | false => rw [likeK_trans hl g2 g] at hmx; cases hmx
theorem countP_lt {p q : Nat → Bool} : ∀ {l : List Nat}, (∀ x ∈ l, p x = true → q x = true) → (∃ x ∈ l, p x = false ∧ q x = true) → l.countP p < l.countP q
  | [], _, h => by obtain ⟨x, hx, _⟩ := h; cases hx
  | y :: l, h, hx => by
    have hle : l.countP p ≤ l.countP q := List.countP_mono_left fun x hx => h x (List.mem_cons_of_mem _ hx)
    rw [List.countP_cons, List.countP_cons]
    obtain ⟨x, hm, hp, hq⟩ := hx
    rcases List.mem_cons.1 hm with rfl | hm
    · rw [hp, hq]; simp; omega
    · have ih := countP_lt (fun x hx => h x (List.mem_cons_of_mem _ hx)) ⟨x, hm, hp, hq⟩
      have hy := h y List.mem_cons_self
      cases hpy : p y with
      | false => simp; omega
      | true => rw [hy hpy]; simp; omega
/-- Within N steps all is told that is told at all. -/
theorem aptK_full (hl : HdLen hd sc) (hN : ∀ i, D i = true → i < N) (hD : ∀ (a j m : Nat) (r : Int), D a = true → (sc a)[j]? = some (m, r) → D m = true) {a b : Nat} (ha : D a = true) (hb : D b = true) : aptK hd sc N a b = true ↔ Apt hd sc a b := by
  refine ⟨aptK_apt N a b, fun h => ?_⟩
  have stable : ∃ k, k ≤ N ∧ ∀ x y, D x = true → D y = true → aptK hd sc (k + 1) x y = true → aptK hd sc k x y = true := by
    refine Classical.byContradiction fun hno => ?_
    have grow : ∀ k, k ≤ N + 1 → k ≤ firsts hd sc D N k := by
      intro k
      induction k with
      | zero => intro _; exact Nat.zero_le _
      | succ k ih =>
        intro hk
        have ih := ih (by omega)
        have hex : ∃ x y, D x = true ∧ D y = true ∧ aptK hd sc (k + 1) x y = true ∧ aptK hd sc k x y = false := by
          refine Classical.byContradiction fun hne => hno ⟨k, by omega, fun x y hx hy h1 => ?_⟩
          cases g : aptK hd sc k x y with
          | true => rfl
          | false => exact absurd ⟨x, y, hx, hy, h1, g⟩ hne
        obtain ⟨x, y, hx, hy, h1, h0⟩ := hex
        obtain ⟨z, hz, z0, z1⟩ := first_new hl hN hx hy h0 h1
        have := countP_lt (p := isFirst hd sc D k) (q := isFirst hd sc D (k + 1)) (l := List.range N) (fun i _ hi => isFirst_up hi) ⟨z, List.mem_range.2 hz, z0, z1⟩
        unfold firsts at ih ⊢
        omega
    have h1 := grow (N + 1) (Nat.le_refl _)
    have h2 : firsts hd sc D N (N + 1) ≤ N := by
      unfold firsts
      have := List.countP_le_length (p := isFirst hd sc D (N + 1)) (l := List.range N)
      rwa [List.length_range] at this
    omega
  obtain ⟨k, hk, hst⟩ := stable
  exact aptK_le hk (apt_closed (M := aptK hd sc k) (D := fun i => D i = true) hD (fun x y hx hy hu => hst x y hx hy hu) h ha hb)
end
end Go.Proofs.Ytmhbmeckdbdhpaa

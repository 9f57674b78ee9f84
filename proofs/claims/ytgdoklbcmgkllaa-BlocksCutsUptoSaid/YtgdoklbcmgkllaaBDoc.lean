/- Blocks as the chapter has them: what closes and talks, targets, where an instruction goes to; how a code is cut, or what is wrong with it. No program. -/
import Derived.Test.YtgdoklbcmgkllaaWords
namespace Go.Proofs.Ytgdoklbcmgkllaa

/-- An instruction, as far as it goes on: its op and its L. -/
abbrev Bi := Int × List Int
def closeB (op : Int) : Bool := op == 11 || op == 19 || op == 24
def talkB (op : Int) : Bool := decide (14 ≤ op) && decide (op ≤ 19)
def hasT (op : Int) : Bool := op == 11 || op == 12 || op == 19
def tgtL (x : Bi) : List Int := if hasT x.1 then x.2 else []
def goesX (i : Nat) (x : Bi) : List Int := tgtL x ++ (if closeB x.1 then [] else [((i + 1 : Nat) : Int)])
def goesN (cs : List Bi) (i : Nat) : List Int := match cs[i]? with
  | some x => goesX i x
  | none => []
def jumpX (n i : Nat) (x : Bi) : Bool := !((x.1 == 11 || x.1 == 12) && !decide ((tgtL x).length = 1)) && !(x.1 == 19 && decide ((tgtL x).length = 0)) &&
  (tgtL x).all (fun t => decide (0 ≤ t) && decide (t < n)) && (decide (i + 1 < n) || closeB x.1)
def jumpN (cs : List Bi) (i : Nat) : Bool := match cs[i]? with
  | some x => jumpX cs.length i x
  | none => true
def cutX (x : Bi) : Bool := closeB x.1 || x.1 == 12
def beginB (cs : List Bi) (i : Nat) : Bool := i == 0 || cs.any (fun x => (tgtL x).contains (i : Int)) || (match cs[i - 1]? with
  | some x => cutX x
  | none => false)
def startsL (cs : List Bi) : List Nat := (List.range cs.length).filter (beginB cs)
/-- The number of the block in which an instruction lies. -/
def numB (cs : List Bi) (i : Nat) : Nat := (startsL cs).countP (fun s => decide (s ≤ i)) - 1
def lastB (cs : List Bi) (b : Nat) : Nat := (match (startsL cs)[b + 1]? with
  | some s => s
  | none => cs.length) - 1
def nextB (cs : List Bi) (b : Nat) : List Nat := (goesN cs (lastB cs b)).map fun t => numB cs t.toNat
def deadB (cs : List Bi) (b : Nat) : Bool := decide (0 < b) && !(List.range b).any fun a => (nextB cs a).contains b
def quietN (cs : List Bi) (i : Nat) : Bool := match cs[i]? with
  | some x => !talkB x.1
  | none => false
/-- One step from an instruction that does not talk. -/
def silB (cs : List Bi) (i j : Nat) : Bool := quietN cs i && (goesN cs i).contains (j : Int)
/-- What is reached from what is listed, so many rounds on. -/
def moreB (cs : List Bi) : Nat → List Nat → List Nat
  | 0, s => s
  | k + 1, s => moreB cs k ((List.range cs.length).filter fun j => s.contains j || s.any fun i => silB cs i j)
def roundB (cs : List Bi) (i : Nat) : Bool := (moreB cs cs.length ((List.range cs.length).filter (silB cs i))).contains i
def cutA (cs : List Bi) : (List Nat × List (List Nat)) × Int × Int :=
  if cs.length < 1 ∨ 128 < cs.length then (([], []), -1, 2) else
  match (List.range cs.length).find? (fun i => !jumpN cs i) with
  | some i => (([], []), (i : Int), 12)
  | none => match (List.range (startsL cs).length).find? (deadB cs) with
    | some b => (([], []), ((startsL cs).getD b 0 : Nat), 13)
    | none => match (List.range cs.length).find? (roundB cs) with
      | some i => (([], []), (i : Int), 14)
      | none => ((startsL cs, (List.range (startsL cs).length).map (nextB cs)), -1, 0)

-- the chapter's examples
example : cutA [(24, [])] = (([0], [[]]), -1, 0) := by decide
example : cutA [(0, []), (15, []), (11, [0])] = (([0], [[0]]), -1, 0) := by decide
example : cutA [(0, []), (11, [0])] = (([], []), 0, 14) := by decide
example : cutA [(11, [2]), (0, []), (24, [])] = (([], []), 1, 13) := by decide
example : cutA [(12, [2]), (24, []), (24, [])] = (([0, 1, 2], [[2, 1], [], []]), -1, 0) := by decide
example : cutA [(0, [])] = (([], []), 0, 12) := by decide

/-- Steps from one to the next, none of those that are left talks. -/
inductive Pth (cs : List Bi) : Nat → Nat → Nat → Prop
  | one {i j : Nat} : silB cs i j = true → j < cs.length → Pth cs 1 i j
  | snoc {k i j z : Nat} : Pth cs k i j → silB cs j z = true → z < cs.length → Pth cs (k + 1) i z
theorem sil_lt {cs : List Bi} {i j : Nat} (h : silB cs i j = true) : i < cs.length := by
  unfold silB quietN at h
  rw [Bool.and_eq_true] at h
  cases hc : cs[i]? with
  | none => rw [hc] at h; exact absurd h.1 (by simp)
  | some x => exact (List.getElem?_eq_some_iff.1 hc).1
theorem Pth.fns {cs : List Bi} {k i j : Nat} (h : Pth cs k i j) : 1 ≤ k ∧ ∃ P : Nat → Nat, P 0 = i ∧ P k = j ∧ ∀ m, m < k → silB cs (P m) (P (m + 1)) = true ∧ P (m + 1) < cs.length := by
  induction h with
  | @one i j h hj => exact ⟨Nat.le_refl _, fun m => if m = 0 then i else j, rfl, rfl, fun m hm => by
      have : m = 0 := by omega
      subst this
      exact ⟨h, hj⟩⟩
  | @snoc k i j z _ hs hz ih =>
    obtain ⟨h1, P, p0, pk, hp⟩ := ih
    refine ⟨by omega, fun m => if m = k + 1 then z else P m, by simp [p0], by simp, fun m hm => ?_⟩
    by_cases e : m = k
    · subst e
      simp only [if_true]
      rw [if_neg (by omega), pk]
      exact ⟨hs, hz⟩
    · dsimp only
      rw [if_neg (by omega), if_neg (by omega)]
      exact hp m (by omega)
theorem Pth.of_fns {cs : List Bi} {P : Nat → Nat} {a : Nat} : ∀ k, (∀ m, m ≤ k → silB cs (P (a + m)) (P (a + m + 1)) = true ∧ P (a + m + 1) < cs.length) → Pth cs (k + 1) (P a) (P (a + k + 1))
  | 0, h => .one (h 0 (Nat.le_refl _)).1 (h 0 (Nat.le_refl _)).2
  | k + 1, h => .snoc (Pth.of_fns k fun m hm => h m (by omega)) (h (k + 1) (Nat.le_refl _)).1 (h (k + 1) (Nat.le_refl _)).2
theorem Pth.trans {cs : List Bi} {a b i j z : Nat} (h : Pth cs a i j) (h2 : Pth cs b j z) : Pth cs (a + b) i z := by
  induction h2 with
  | one hs hz => exact h.snoc hs hz
  | snoc _ hs hz ih => exact (ih h).snoc hs hz
theorem pigeonB : ∀ (n : Nat) (f : Nat → Nat), (∀ i, i ≤ n → f i < n) → ∃ i j, i < j ∧ j ≤ n ∧ f i = f j
  | 0, f, h => absurd (h 0 (Nat.le_refl _)) (by omega)
  | n + 1, f, h => by
    by_cases hc : ∃ i, i ≤ n ∧ f i = f (n + 1)
    · obtain ⟨i, hi, he⟩ := hc
      exact ⟨i, n + 1, by omega, Nat.le_refl _, he⟩
    · have hne : ∀ i, i ≤ n → f i ≠ f (n + 1) := fun i hi e => hc ⟨i, hi, e⟩
      have hm := h (n + 1) (Nat.le_refl _)
      obtain ⟨i, j, hij, hj, he⟩ := pigeonB n (fun i => if f i = n then f (n + 1) else f i) (fun i hi => by
        have h1 := hne i hi
        have h2 := h i (by omega)
        by_cases e : f i = n
        · simp only [e, if_true]; omega
        · simp only [e, if_false]; omega)
      refine ⟨i, j, hij, by omega, ?_⟩
      have h1 := hne i (by omega)
      have h2 := hne j (by omega)
      by_cases e1 : f i = n <;> by_cases e2 : f j = n
      · omega
      · rw [if_pos e1, if_neg e2] at he; omega
      · rw [if_neg e1, if_pos e2] at he; omega
      · rw [if_neg e1, if_neg e2] at he; exact he
/-- A way need not be longer than there are instructions. -/
theorem Pth.short {cs : List Bi} {i j : Nat} : ∀ (k : Nat), Pth cs k i j → ∃ k', 1 ≤ k' ∧ k' ≤ cs.length ∧ Pth cs k' i j := fun k => by
  induction k using Nat.strongRecOn with
  | _ k ih =>
    intro h
    by_cases hk : k ≤ cs.length
    · exact ⟨k, h.fns.1, hk, h⟩
    · obtain ⟨h1, P, p0, pk, hp⟩ := h.fns
      obtain ⟨a, b, hab, hb, he⟩ := pigeonB cs.length (fun m => P (m + 1)) (fun m hm => (hp m (by omega)).2)
      have hz : Pth cs (k - b - 1 + (a + 1)) i j := by
        have h3 : Pth cs (a + 1) i (P (a + 1)) := by
          have := Pth.of_fns (cs := cs) (P := P) (a := 0) a (fun m hm => by rw [Nat.zero_add]; exact hp m (by omega))
          rwa [p0, Nat.zero_add] at this
        by_cases hkb : k = b + 1
        · have e2 : P (a + 1) = j := by rw [he, ← hkb, pk]
          have e3 : k - b - 1 + (a + 1) = a + 1 := by omega
          rw [e3]
          rwa [e2] at h3
        · have h4 : Pth cs (k - b - 2 + 1) (P (b + 1)) (P (b + 1 + (k - b - 2) + 1)) := Pth.of_fns (k - b - 2) fun m hm => hp (b + 1 + m) (by omega)
          have e5 : b + 1 + (k - b - 2) + 1 = k := by omega
          rw [e5, pk] at h4
          have he' : P (a + 1) = P (b + 1) := he
          rw [he'] at h3
          have := h3.trans h4
          have e6 : a + 1 + (k - b - 2 + 1) = k - b - 1 + (a + 1) := by omega
          rwa [e6] at this
      exact ih _ (by omega) hz
theorem more_mem {cs : List Bi} : ∀ (k : Nat) (s : List Nat) (j : Nat), j ∈ moreB cs k s → (∀ j ∈ s, j < cs.length) → j < cs.length ∧ (j ∈ s ∨ ∃ i ∈ s, ∃ m, Pth cs m i j)
  | 0, s, j, h, hs => ⟨hs j h, .inl h⟩
  | k + 1, s, j, h, hs => by
    obtain ⟨h1, h2⟩ := more_mem k _ j h (fun j hj => by simp at hj; exact hj.1)
    refine ⟨h1, ?_⟩
    rcases h2 with h2 | ⟨i, hi, m, hm⟩
    · simp only [List.mem_filter, List.mem_range, Bool.or_eq_true, List.contains_iff_mem, List.any_eq_true] at h2
      rcases h2.2 with h3 | ⟨i, hi, hx⟩
      · exact .inl h3
      · exact .inr ⟨i, hi, 1, .one hx h2.1⟩
    · simp only [List.mem_filter, List.mem_range, Bool.or_eq_true, List.contains_iff_mem, List.any_eq_true] at hi
      rcases hi.2 with h3 | ⟨i', hi', hx⟩
      · exact .inr ⟨i, h3, m, hm⟩
      · exact .inr ⟨i', hi', 1 + m, Pth.trans (.one hx hi.1) hm⟩
theorem more_sub {cs : List Bi} : ∀ (k : Nat) (s : List Nat) (j : Nat), (∀ j ∈ s, j < cs.length) → j ∈ s → j ∈ moreB cs k s
  | 0, s, j, hs, h => h
  | k + 1, s, j, hs, h => more_sub k _ j (fun j hj => by simp at hj; exact hj.1) (by simp only [List.mem_filter, List.mem_range, Bool.or_eq_true, List.contains_iff_mem]; exact ⟨hs j h, .inl h⟩)
theorem more_snoc {cs : List Bi} {i j : Nat} (hx : silB cs i j = true) (hj : j < cs.length) : ∀ (k : Nat) (s : List Nat), i ∈ moreB cs k s → j ∈ moreB cs (k + 1) s
  | 0, s, h => by
    show j ∈ (List.range cs.length).filter _
    simp only [List.mem_filter, List.mem_range, Bool.or_eq_true, List.contains_iff_mem, List.any_eq_true]
    exact ⟨hj, .inr ⟨i, h, hx⟩⟩
  | k + 1, s, h => more_snoc hx hj k _ h
theorem more_up {cs : List Bi} (s : List Nat) (hs : ∀ j ∈ s, j < cs.length) (k d : Nat) {j : Nat} (h : j ∈ moreB cs k s) : j ∈ moreB cs (k + d) s := by
  induction d with
  | zero => exact h
  | succ d ih =>
    have : ∀ (k : Nat) (s : List Nat), (∀ j ∈ s, j < cs.length) → j ∈ moreB cs k s → j ∈ moreB cs (k + 1) s := fun k => by
      induction k with
      | zero => intro s hs h; exact more_sub 1 s j hs h
      | succ k ih2 => intro s hs h; exact ih2 _ (fun j hj => by simp at hj; exact hj.1) h
    exact this _ s hs ih
theorem Pth.more {cs : List Bi} {k i j : Nat} (h : Pth cs k i j) : j ∈ moreB cs (k - 1) ((List.range cs.length).filter (silB cs i)) := by
  induction h with
  | one hs hj => simp only [Nat.sub_self, moreB, List.mem_filter, List.mem_range]; exact ⟨hj, hs⟩
  | @snoc k i j z hp hs hz ih =>
    have h1 := hp.fns.1
    have := more_snoc hs hz _ _ ih
    have e : k - 1 + 1 = k + 1 - 1 := by omega
    rwa [e] at this
/-- What lies on a silent round. -/
theorem round_iff {cs : List Bi} {i : Nat} : roundB cs i = true ↔ ∃ k, Pth cs k i i := by
  unfold roundB
  rw [List.contains_iff_mem]
  have hs : ∀ j ∈ (List.range cs.length).filter (silB cs i), j < cs.length := fun j hj => by simp at hj; exact hj.1
  refine ⟨fun h => ?_, fun ⟨k, h⟩ => ?_⟩
  · obtain ⟨h1, h2⟩ := more_mem _ _ _ h hs
    rcases h2 with h2 | ⟨i', hi, m, hm⟩
    · simp only [List.mem_filter, List.mem_range] at h2
      exact ⟨1, .one h2.2 h1⟩
    · simp only [List.mem_filter, List.mem_range] at hi
      exact ⟨1 + m, Pth.trans (.one hi.2 hi.1) hm⟩
  · obtain ⟨k', h1, h2, h3⟩ := Pth.short k h
    have e : cs.length = k' - 1 + (cs.length - k' + 1) := by omega
    rw [e]
    have hs' : ∀ j ∈ (List.range (k' - 1 + (cs.length - k' + 1))).filter (silB cs i), j < cs.length := by rw [← e]; exact hs
    have h4 := h3.more
    rw [e] at h4
    exact more_up _ hs' _ _ h4
/-- Where all steps go up there is no round. -/
theorem round_up {cs : List Bi} (r : Nat → Nat) (h : ∀ i j, silB cs i j = true → r i < r j) (i : Nat) : roundB cs i = false := by
  cases hr : roundB cs i with
  | false => rfl
  | true =>
    obtain ⟨k, hk⟩ := round_iff.1 hr
    have : ∀ {k i j : Nat}, Pth cs k i j → r i < r j := fun {k i j} hp => by
      induction hp with
      | one hs _ => exact h _ _ hs
      | snoc _ hs _ ih => exact Nat.lt_trans ih (h _ _ hs)
    exact absurd (this hk) (Nat.lt_irrefl _)
end Go.Proofs.Ytgdoklbcmgkllaa

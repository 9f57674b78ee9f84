/- The way back that rises least, by making ways to all nodes less, round by round. No program. -/
import Derived.Test.YtablbgfleopbfaaOOrd
namespace Go.Proofs.Ytablbgfleopbfaa
open Go.RowKit

def valL (ls : List Int) (v : Nat) : Int := ls.getD v (-1)
def relE (xs : List Nd) (p so : Int) (ls : List Int) (e : Ed) : List Int := match jumpP xs p e with
  | none => ls
  | some (t, d) => if valL ls t.toNat < 0 ∨ so + d < valL ls t.toNat then ls.set t.toNat (so + d) else ls
def relK (xs : List Nd) (p so : Int) (es : List Ed) (ls : List Int) : Nat → List Int
  | 0 => ls
  | k + 1 => match es[k]? with | some e => relE xs p so (relK xs p so es ls k) e | none => relK xs p so es ls k
def soOf (u : Nat) (ls : List Int) (i : Nat) : Int := if i = u then 0 else valL ls i
def goesB (u : Nat) (ls : List Int) (i : Nat) (x : Nd) : Bool := actB x.kind && (decide (i = u) || decide (0 ≤ valL ls i))
def relN (xs : List Nd) (u : Nat) (ls : List Int) (i : Nat) : List Int := match xs[i]? with
  | none => ls
  | some x => if goesB u ls i x then relK xs x.prio (soOf u ls i) x.next ls x.next.length else ls
def sweep (xs : List Nd) (u : Nat) (ls : List Int) : Nat → List Int
  | 0 => ls
  | i + 1 => relN xs u (sweep xs u ls i) i
def rounds (xs : List Nd) (u : Nat) : Nat → List Int
  | 0 => List.replicate xs.length (-1)
  | r + 1 => sweep xs u (rounds xs u r) xs.length
def lastL (xs : List Nd) (u : Nat) : Int := valL (rounds xs u (xs.length + 1)) u
def backL (xs : List Nd) (i : Int) : Int × Bool :=
  if (orderL xs).2 = 0 then
    (match nodeAt xs i with
     | none => (0, false)
     | some x => if actB x.kind then (if lastL xs i.toNat < 0 then (0, false) else (lastL xs i.toNat, true)) else (0, false))
  else (0, false)

theorem valL_set {ls : List Int} {v : Nat} {a : Int} (w : Nat) (h : v < ls.length) : valL (ls.set v a) w = if w = v then a else valL ls w := by
  unfold valL
  rw [List.getD_eq_getElem?_getD, List.getD_eq_getElem?_getD, List.getElem?_set]
  by_cases e : v = w
  · subst e; simp [h]
  · have e' : ¬ w = v := fun x => e x.symm
    simp [e, e']
structure Snd (xs : List Nd) (u : Nat) (ls : List Int) (B : Int) : Prop where
  len : ls.length = xs.length
  val : ∀ v, valL ls v = -1 ∨ (0 ≤ valL ls v ∧ valL ls v ≤ B ∧ ∃ k, 1 ≤ k ∧ Wk xs k u v (valL ls v))
def Mon (ls ls' : List Int) : Prop := ∀ v, 0 ≤ valL ls v → 0 ≤ valL ls' v ∧ valL ls' v ≤ valL ls v
theorem Mon.refl (ls : List Int) : Mon ls ls := fun _ h => ⟨h, Int.le_refl _⟩
theorem Mon.trans {a b c : List Int} (h : Mon a b) (k : Mon b c) : Mon a c := fun v hv => by
  have h1 := h v hv
  have h2 := k v h1.1
  omega
theorem Snd.more {xs : List Nd} {u : Nat} {ls : List Int} {B B' : Int} (h : Snd xs u ls B) (hB : B ≤ B') : Snd xs u ls B' :=
  ⟨h.len, fun v => (h.val v).imp id fun ⟨a, b, c⟩ => ⟨a, by omega, c⟩⟩

/-- One edge. -/
theorem relE_ok {xs : List Nd} (ho : ORD xs) {u i : Nat} {x : Nd} {e : Ed} (hx : xs[i]? = some x) (ha : actB x.kind = true) (he : e ∈ x.next) {ls : List Int} {B so : Int} (hs : Snd xs u ls B) {k : Nat} (hw : Wk xs k u i so) (hso : 0 ≤ so) (hB : so + 66000 ≤ B) :
    Snd xs u (relE xs x.prio so ls e) B ∧ Mon ls (relE xs x.prio so ls e) ∧ ∀ (v : Nat) (d : Int), jumpP xs x.prio e = some ((v : Int), d) → 0 ≤ valL (relE xs x.prio so ls e) v ∧ valL (relE xs x.prio so ls e) v ≤ so + d := by
  unfold relE
  cases hj : jumpP xs x.prio e with
  | none => exact ⟨hs, .refl _, fun v d h => by cases h⟩
  | some q =>
    obtain ⟨t, d⟩ := q
    obtain ⟨hd1, hd2, ht0, ht1, _⟩ := ho.rise hx ha (List.mem_append_left _ he) hj
    obtain ⟨v, rfl⟩ : ∃ v : Nat, t = v := ⟨t.toNat, by omega⟩
    have hvl : v < ls.length := by rw [hs.len]; omega
    have hwv : Wk xs (k + 1) u v (so + d) := hw.snoc ⟨x, e, hx, ha, he, hj⟩
    simp only [Int.toNat_natCast]
    by_cases hc : valL ls v < 0 ∨ so + d < valL ls v
    · rw [if_pos hc]
      refine ⟨⟨by rw [List.length_set]; exact hs.len, fun w => ?_⟩, fun w hw2 => ?_, fun v' d' h => ?_⟩
      · rw [valL_set w hvl]
        by_cases e : w = v
        · subst e
          rw [if_pos rfl]
          exact .inr ⟨by omega, by omega, k + 1, by omega, hwv⟩
        · rw [if_neg e]; exact hs.val w
      · rw [valL_set w hvl]
        by_cases e : w = v
        · subst e; rw [if_pos rfl]; omega
        · rw [if_neg e]; omega
      · simp only [Option.some.injEq, Prod.mk.injEq] at h
        obtain ⟨h1, rfl⟩ := h
        obtain rfl : v = v' := by omega
        rw [valL_set v hvl, if_pos rfl]
        omega
    · rw [if_neg hc]
      refine ⟨hs, .refl _, fun v' d' h => ?_⟩
      simp only [Option.some.injEq, Prod.mk.injEq] at h
      obtain ⟨h1, rfl⟩ := h
      obtain rfl : v = v' := by omega
      omega
theorem relK_ok {xs : List Nd} (ho : ORD xs) {u i : Nat} {x : Nd} (hx : xs[i]? = some x) (ha : actB x.kind = true) {ls : List Int} {B so : Int} (hs : Snd xs u ls B) {k : Nat} (hw : Wk xs k u i so) (hso : 0 ≤ so) (hB : so + 66000 ≤ B) :
    ∀ n, Snd xs u (relK xs x.prio so x.next ls n) B ∧ Mon ls (relK xs x.prio so x.next ls n) ∧ ∀ (j : Nat) (e : Ed) (v : Nat) (d : Int), j < n → x.next[j]? = some e → jumpP xs x.prio e = some ((v : Int), d) → 0 ≤ valL (relK xs x.prio so x.next ls n) v ∧ valL (relK xs x.prio so x.next ls n) v ≤ so + d
  | 0 => ⟨hs, .refl _, fun j e v d h => by omega⟩
  | n + 1 => by
    obtain ⟨h1, h2, h3⟩ := relK_ok ho hx ha hs hw hso hB n
    unfold relK
    cases hn : x.next[n]? with
    | none =>
      refine ⟨h1, h2, fun j e v d hj he hjp => ?_⟩
      by_cases hjn : j = n
      · subst hjn; rw [hn] at he; cases he
      · exact h3 j e v d (by omega) he hjp
    | some e0 =>
      obtain ⟨g1, g2, g3⟩ := relE_ok ho hx ha (List.mem_of_getElem? hn) h1 hw hso hB
      refine ⟨g1, h2.trans g2, fun j e v d hj he hjp => ?_⟩
      by_cases hjn : j = n
      · subst hjn
        rw [hn] at he
        cases he
        exact g3 v d hjp
      · have a := h3 j e v d (by omega) he hjp
        have b := g2 v a.1
        simp only
        omega
/-- One node. -/
theorem relN_ok {xs : List Nd} (ho : ORD xs) {u : Nat} {ls : List Int} {B : Int} (hB0 : 0 ≤ B) (hs : Snd xs u ls B) (i : Nat) :
    Snd xs u (relN xs u ls i) (B + 66000) ∧ Mon ls (relN xs u ls i) ∧ ∀ v d, Eg xs i v d → (i = u ∨ 0 ≤ valL ls i) → 0 ≤ valL (relN xs u ls i) v ∧ valL (relN xs u ls i) v ≤ soOf u ls i + d := by
  unfold relN
  cases hx : xs[i]? with
  | none => exact ⟨hs.more (by omega), .refl _, fun v d ⟨x, _, h, _⟩ => by rw [hx] at h; cases h⟩
  | some x =>
    simp only
    by_cases hg : goesB u ls i x = true
    · rw [if_pos hg]
      have ha : actB x.kind = true := by simp only [goesB, Bool.and_eq_true] at hg; exact hg.1
      have hso : 0 ≤ soOf u ls i ∧ soOf u ls i ≤ B ∧ ∃ k, Wk xs k u i (soOf u ls i) := by
        simp only [goesB, Bool.and_eq_true, Bool.or_eq_true, decide_eq_true_eq] at hg
        unfold soOf
        by_cases e : i = u
        · subst e; rw [if_pos rfl]; exact ⟨by omega, hB0, 0, .zero _⟩
        · rw [if_neg e]
          rcases hs.val i with h | ⟨h1, h2, k, _, h3⟩
          · have := hg.2; omega
          · exact ⟨h1, h2, k, h3⟩
      obtain ⟨h0, h1, k, hw⟩ := hso
      obtain ⟨g1, g2, g3⟩ := relK_ok ho hx ha (hs.more (by omega : B ≤ B + 66000)) hw h0 (by omega) x.next.length
      refine ⟨g1, g2, fun v d ⟨x', e, hx', _, he, hj⟩ _ => ?_⟩
      rw [hx] at hx'
      cases hx'
      obtain ⟨j, hj2, he2⟩ := List.getElem_of_mem he
      exact g3 j e v d hj2 (by rw [List.getElem?_eq_getElem hj2, he2]) hj
    · rw [if_neg hg]
      refine ⟨hs.more (by omega), .refl _, fun v d ⟨x', e, hx', ha', _, _⟩ hi => ?_⟩
      rw [hx] at hx'
      cases hx'
      exfalso
      apply hg
      simp only [goesB, ha', Bool.true_and, Bool.or_eq_true, decide_eq_true_eq]
      exact hi
/-- All walks of up to r edges are found. -/
def Upto (xs : List Nd) (u : Nat) (ls : List Int) (r : Nat) : Prop := ∀ k v s, 1 ≤ k → k ≤ r → Wk xs k u v s → 0 ≤ valL ls v ∧ valL ls v ≤ s
theorem sweep_ok {xs : List Nd} (ho : ORD xs) {u : Nat} {L0 : List Int} {B : Int} (hB0 : 0 ≤ B) (hs : Snd xs u L0 B) {r : Nat} (hu : Upto xs u L0 r) :
    ∀ n, Snd xs u (sweep xs u L0 n) (B + 66000 * n) ∧ Mon L0 (sweep xs u L0 n) ∧ ∀ i, i < n → ∀ k s v d, k ≤ r → Wk xs k u i s → Eg xs i v d → 0 ≤ valL (sweep xs u L0 n) v ∧ valL (sweep xs u L0 n) v ≤ s + d
  | 0 => ⟨hs.more (by omega), .refl _, fun i h => by omega⟩
  | n + 1 => by
    obtain ⟨h1, h2, h3⟩ := sweep_ok ho hB0 hs hu n
    unfold sweep
    obtain ⟨g1, g2, g3⟩ := relN_ok ho (by omega) h1 n
    refine ⟨g1.more (by omega), h2.trans g2, fun i hi k s v d hk hw he => ?_⟩
    by_cases e : i = n
    · subst e
      have hs0 := hw.pos ho
      by_cases eu : i = u
      · have h4 := g3 v d he (.inl eu)
        have : soOf u (sweep xs u L0 i) i = 0 := by unfold soOf; rw [if_pos eu]
        omega
      · have hk1 : 1 ≤ k := by
          cases hw with
          | zero => exact absurd rfl eu
          | snoc => omega
        have h4 := hu k i s hk1 hk hw
        have h5 := h2 i h4.1
        have h6 := g3 v d he (.inr h5.1)
        have : soOf u (sweep xs u L0 i) i = valL (sweep xs u L0 i) i := by unfold soOf; rw [if_neg eu]
        omega
    · have h4 := h3 i (by omega) k s v d hk hw he
      have h5 := g2 v h4.1
      omega
theorem Wk.ends {xs : List Nd} (ho : ORD xs) {k u v : Nat} {s : Int} (h : Wk xs (k + 1) u v s) : ∃ i s' d, Wk xs k u i s' ∧ Eg xs i v d ∧ s = s' + d ∧ i < xs.length := by
  cases h with
  | snoc hw he => exact ⟨_, _, _, hw, he, rfl, (ho.eg he).2.2.2.1⟩
theorem rounds_ok {xs : List Nd} (ho : ORD xs) (u : Nat) : ∀ r, Snd xs u (rounds xs u r) (66000 * 64 * r) ∧ Upto xs u (rounds xs u r) r
  | 0 => by
    refine ⟨⟨by simp [rounds], fun v => .inl ?_⟩, fun k v s h1 h2 => by omega⟩
    unfold valL rounds
    rw [List.getD_eq_getElem?_getD, List.getElem?_replicate]
    split <;> rfl
  | r + 1 => by
    obtain ⟨h1, h2⟩ := rounds_ok ho u r
    have hle := ho.ok.le
    obtain ⟨g1, g2, g3⟩ := sweep_ok ho (by omega) h1 h2 xs.length
    unfold rounds
    refine ⟨g1.more (by omega), fun k v s hk hk2 hw => ?_⟩
    obtain ⟨j, rfl⟩ : ∃ j, k = j + 1 := ⟨k - 1, by omega⟩
    obtain ⟨i, s', d, hw2, he, rfl, hi⟩ := hw.ends ho
    exact g3 i hi j s' v d (by omega) hw2 he
/-- What is found in the end. -/
theorem last_ok {xs : List Nd} (ho : ORD xs) (u : Nat) : BackIs xs u (if lastL xs u < 0 then (0, false) else (lastL xs u, true)) := by
  obtain ⟨h1, h2⟩ := rounds_ok ho u (xs.length + 1)
  by_cases hl : lastL xs u < 0
  · rw [if_pos hl]
    refine .inr ⟨rfl, fun k r hk hw => ?_⟩
    obtain ⟨k', s', a, b, _, hw'⟩ := hw.short ho k hk
    have := (h2 k' u s' a (by omega) hw').1
    exact absurd this (by unfold lastL at hl; omega)
  · rw [if_neg hl]
    refine .inl ⟨rfl, ?_, fun k r hk hw => ?_⟩
    · rcases h1.val u with h | ⟨_, _, k, hk, hw⟩
      · exact absurd h (by unfold lastL at hl; omega)
      · exact ⟨k, hk, hw⟩
    · obtain ⟨k', s', a, b, c, hw'⟩ := hw.short ho k hk
      have := (h2 k' u s' a (by omega) hw').2
      show lastL xs u ≤ r
      unfold lastL
      omega
theorem back_eq {xs : List Nd} (ho : ORD xs) {u : Nat} {x : Nd} (hx : xs[u]? = some x) (ha : actB x.kind = true) {p : Int × Bool} (h : BackIs xs u p) : p = backL xs (u : Int) := by
  have hb : backL xs (u : Int) = (if lastL xs u < 0 then (0, false) else (lastL xs u, true)) := by
    unfold backL
    rw [ho.order]
    simp only [nodeAt_nat, hx, ha, if_true, Int.toNat_natCast]
  rw [hb]
  exact h.uniq (last_ok ho u)
theorem back_is {xs : List Nd} (ho : ORD xs) {u : Nat} {x : Nd} (hx : xs[u]? = some x) (ha : actB x.kind = true) : BackIs xs u (backL xs (u : Int)) := by
  have hb : backL xs (u : Int) = (if lastL xs u < 0 then (0, false) else (lastL xs u, true)) := by
    unfold backL
    rw [ho.order]
    simp only [nodeAt_nat, hx, ha, if_true, Int.toNat_natCast]
  rw [hb]
  exact last_ok ho u
theorem back_1 {xs : List Nd} {i : Int} (h : (orderL xs).2 ≠ 0) : backL xs i = (0, false) := by unfold backL; rw [if_neg h]
theorem back_2 {xs : List Nd} {i : Int} (h : nodeB xs.length i = false) : backL xs i = (0, false) := by
  unfold backL
  split
  · cases hn : nodeAt xs i with
    | none => rfl
    | some x => have := nodeAt_some hn; rw [nodeB_true.2 ⟨this.1, this.2.1⟩] at h; cases h
  · rfl
theorem back_3 {xs : List Nd} {i : Int} {x : Nd} (h : nodeAt xs i = some x) (ha : actB x.kind = false) : backL xs i = (0, false) := by
  unfold backL
  split
  · rw [h]; simp [ha]
  · rfl
end Go.Proofs.Ytablbgfleopbfaa

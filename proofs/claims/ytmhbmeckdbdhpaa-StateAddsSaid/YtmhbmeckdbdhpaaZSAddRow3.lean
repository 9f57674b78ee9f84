/- Texts joined for the claim's sake: CDep, GShp, GRefA, GRefB. -/
import Derived.Test.YtmhbmeckdbdhpaaZSAddRow1
import Derived.Test.YtmhbmeckdbdhpaaZSAddRow2
import Derived.Sort.CutIn
import Derived.Deep.DeepMust
import Derived.LoopTactic
namespace Go.Proofs.Ytmhbmeckdbdhpaa

section
variable {H : Type} [DecidableEq H] (hd : Nat → H) (sc : Nat → List (Nat × Int))
/-- Told apart by a way of fewer than k steps. -/
def aptK : Nat → Nat → Nat → Bool
  | 0, _, _ => false
  | k + 1, a, b => unl hd sc (aptK k) a b
variable {hd sc}
theorem unl_refl {M : Nat → Nat → Bool} (hM : ∀ a, M a a = false) (a : Nat) : unl hd sc M a a = false := by
  unfold unl
  rw [decide_eq_true rfl, Bool.not_true, Bool.false_or, List.any_eq_false]
  intro p hp
  obtain ⟨j, h1, h2⟩ := zip_mem hp
  rw [h1] at h2
  have h3 := Option.some.inj h2
  rw [h3, hM]
  simp
theorem aptK_refl : ∀ (k a : Nat), aptK hd sc k a a = false
  | 0, _ => rfl
  | k + 1, a => unl_refl (aptK_refl k) a
theorem unl_mono {M K : Nat → Nat → Bool} (h : ∀ a b, M a b = true → K a b = true) {a b : Nat} (hu : unl hd sc M a b = true) : unl hd sc K a b = true := by
  unfold unl at hu ⊢
  rw [Bool.or_eq_true] at hu ⊢
  refine hu.imp id fun hu => ?_
  rw [List.any_eq_true] at hu ⊢
  obtain ⟨p, hp, hx⟩ := hu
  refine ⟨p, hp, ?_⟩
  rw [Bool.or_eq_true] at hx ⊢
  exact hx.imp (h _ _) id
theorem aptK_up : ∀ (k : Nat) {a b : Nat}, aptK hd sc k a b = true → aptK hd sc (k + 1) a b = true
  | 0, _, _, h => by cases h
  | k + 1, _, _, h => unl_mono (fun _ _ => aptK_up k) h
theorem aptK_le {k j : Nat} (h : k ≤ j) {a b : Nat} (ha : aptK hd sc k a b = true) : aptK hd sc j a b = true := by
  obtain ⟨d, rfl⟩ : ∃ d, j = k + d := ⟨j - k, by omega⟩
  clear h
  induction d with
  | zero => exact ha
  | succ d ih => exact aptK_up (k + d) ih
theorem aptK_apt : ∀ (k : Nat) (a b : Nat), aptK hd sc k a b = true → Apt hd sc a b
  | 0, _, _, h => by cases h
  | k + 1, _, _, h => unl_apt (aptK_apt k) h
theorem unl_symm {M : Nat → Nat → Bool} (h : ∀ a b, M a b = true → M b a = true) {a b : Nat} (hu : unl hd sc M a b = true) : unl hd sc M b a = true := by
  unfold unl at hu ⊢
  rw [Bool.or_eq_true] at hu ⊢
  rcases hu with hu | hu
  · refine .inl ?_
    simp only [Bool.not_eq_true', decide_eq_false_iff_not] at hu ⊢
    exact fun e => hu e.symm
  · refine .inr ?_
    rw [List.any_eq_true] at hu ⊢
    obtain ⟨⟨x, y⟩, hp, hx⟩ := hu
    obtain ⟨j, h1, h2⟩ := zip_mem hp
    refine ⟨(y, x), zip_at h2 h1, ?_⟩
    dsimp only at hx ⊢
    rw [Bool.or_eq_true] at hx ⊢
    refine hx.imp (h _ _) fun hx => ?_
    simp only [Bool.not_eq_true', decide_eq_false_iff_not] at hx ⊢
    exact fun e => hx e.symm
theorem aptK_symm : ∀ (k : Nat) (a b : Nat), aptK hd sc k a b = true → aptK hd sc k b a = true
  | 0, _, _, h => by cases h
  | k + 1, _, _, h => unl_symm (aptK_symm k) h
theorem aptK_part (hl : HdLen hd sc) : ∀ (k : Nat) (a b c : Nat), aptK hd sc k a c = true → aptK hd sc k a b = true ∨ aptK hd sc k b c = true
  | 0, _, _, _, h => by cases h
  | k + 1, a, b, c, h => by
    by_cases e : hd a = hd b
    · by_cases e2 : hd b = hd c
      · have h' := h
        unfold aptK unl at h'
        rw [decide_eq_true (e.trans e2), Bool.not_true, Bool.false_or, List.any_eq_true] at h'
        obtain ⟨⟨⟨m, r⟩, ⟨n, s⟩⟩, hp, hx⟩ := h'
        obtain ⟨j, h1, h2⟩ := zip_mem hp
        have hj : j < (sc b).length := by rw [← hl a b e]; exact (List.getElem?_eq_some_iff.1 h1).1
        obtain ⟨⟨p, t⟩, h3⟩ : ∃ x, (sc b)[j]? = some x := ⟨_, List.getElem?_eq_getElem hj⟩
        have mk : ∀ {u v : Nat} {x y : Nat × Int}, (sc u)[j]? = some x → (sc v)[j]? = some y → (aptK hd sc k x.1 y.1 = true ∨ x.2 ≠ y.2) → aptK hd sc (k + 1) u v = true := fun {u v x y} g1 g2 g3 => by
          show unl hd sc (aptK hd sc k) u v = true
          unfold unl
          rw [Bool.or_eq_true]
          refine .inr (List.any_eq_true.2 ⟨_, zip_at g1 g2, ?_⟩)
          rw [Bool.or_eq_true]
          exact g3.imp id (fun g => by simp [g])
        dsimp only at hx
        rw [Bool.or_eq_true] at hx
        rcases hx with hx | hx
        · rcases aptK_part hl k m p n hx with g | g
          · exact .inl (mk h1 h3 (.inl g))
          · exact .inr (mk h3 h2 (.inl g))
        · have hx : r ≠ s := by simpa using hx
          by_cases e3 : r = t
          · exact .inr (mk h3 h2 (.inr (fun e4 => hx (e3.trans e4))))
          · exact .inl (mk h1 h3 (.inr e3))
      · exact .inr (by show unl hd sc (aptK hd sc k) b c = true; unfold unl; rw [decide_eq_false e2]; rfl)
    · exact .inl (by show unl hd sc (aptK hd sc k) a b = true; unfold unl; rw [decide_eq_false e]; rfl)
/-- Not apart, as far as k steps tell: an equivalence. -/
theorem likeK_trans (hl : HdLen hd sc) {k a b c : Nat} (h1 : aptK hd sc k a b = false) (h2 : aptK hd sc k b c = false) : aptK hd sc k a c = false := by
  cases h : aptK hd sc k a c with
  | false => rfl
  | true =>
    rcases aptK_part hl k a b c h with g | g
    · rw [h1] at g; cases g
    · rw [h2] at g; cases g
theorem likeK_symm {k a b : Nat} (h : aptK hd sc k a b = false) : aptK hd sc k b a = false := by
  cases g : aptK hd sc k b a with
  | false => rfl
  | true => rw [aptK_symm k b a g] at h; cases h
theorem likeK_down {k a b : Nat} (h : aptK hd sc (k + 1) a b = false) : aptK hd sc k a b = false := by
  cases g : aptK hd sc k a b with
  | false => rfl
  | true => rw [aptK_up k g] at h; cases h

/-! ### How many are first of their like -/
variable (D : Nat → Bool) (N : Nat)
variable (hd sc) in
def isFirst (k i : Nat) : Bool := D i && (List.range i).all fun j => !D j || aptK hd sc k j i
variable (hd sc) in
def firsts (k : Nat) : Nat := (List.range N).countP (isFirst hd sc D k)
variable {D N}
theorem isFirst_iff {k i : Nat} : isFirst hd sc D k i = true ↔ D i = true ∧ ∀ j, j < i → D j = true → aptK hd sc k j i = true := by
  unfold isFirst
  rw [Bool.and_eq_true, List.all_eq_true]
  refine and_congr Iff.rfl ⟨fun h j hj hd' => ?_, fun h j hj => ?_⟩
  · have := h j (List.mem_range.2 hj)
    rw [hd'] at this
    simpa using this
  · cases hDj : D j with
    | false => rfl
    | true => simpa using h j (List.mem_range.1 hj) hDj
theorem isFirst_up {k i : Nat} (h : isFirst hd sc D k i = true) : isFirst hd sc D (k + 1) i = true := by
  rw [isFirst_iff] at h ⊢
  exact ⟨h.1, fun j hj hD => aptK_up k (h.2 j hj hD)⟩
theorem least {P : Nat → Prop} (n : Nat) (h : P n) : ∃ m, m ≤ n ∧ P m ∧ ∀ j, j < m → ¬ P j := by
  induction n using Nat.strongRecOn with
  | _ n ih =>
    by_cases e : ∃ j, j < n ∧ P j
    · obtain ⟨j, hj, hP⟩ := e
      obtain ⟨m, h1, h2, h3⟩ := ih j hj hP
      exact ⟨m, by omega, h2, h3⟩
    · exact ⟨n, Nat.le_refl _, h, fun j hj hP => e ⟨j, hj, hP⟩⟩
/-- Where a step more tells more, one more is first. -/
theorem first_new (hl : HdLen hd sc) (hN : ∀ i, D i = true → i < N) {k a b : Nat} (ha : D a = true) (hb : D b = true) (h0 : aptK hd sc k a b = false) (h1 : aptK hd sc (k + 1) a b = true) :
    ∃ x, x < N ∧ isFirst hd sc D k x = false ∧ isFirst hd sc D (k + 1) x = true := by
  obtain ⟨m, _, ⟨hm, hma⟩, hmin⟩ := least (P := fun m => D m = true ∧ aptK hd sc k m a = false) a ⟨ha, aptK_refl k a⟩
  have hmb := likeK_trans hl hma h0
  obtain ⟨y, hy, hmy, hky⟩ : ∃ y, D y = true ∧ aptK hd sc (k + 1) m y = true ∧ aptK hd sc k m y = false := by
    cases g : aptK hd sc (k + 1) m a with
    | true => exact ⟨a, ha, g, hma⟩
    | false =>
      refine ⟨b, hb, ?_, hmb⟩
      rcases aptK_part hl (k + 1) a m b h1 with g2 | g2
      · rw [likeK_symm g] at g2; cases g2
      · exact g2
  obtain ⟨x, _, ⟨hx, hmx, hkx⟩, hxmin⟩ := least (P := fun x => D x = true ∧ aptK hd sc (k + 1) m x = true ∧ aptK hd sc k m x = false) y ⟨hy, hmy, hky⟩
  have hmx2 : m < x := by
    rcases Nat.lt_trichotomy m x with h | h | h
    · exact h
    · subst h; rw [aptK_refl] at hmx; cases hmx
    · exact absurd ⟨hx, likeK_trans hl (likeK_symm hkx) hma⟩ (hmin x h)
  refine ⟨x, hN x hx, ?_, isFirst_iff.2 ⟨hx, fun j hj hDj => ?_⟩⟩
  · cases g : isFirst hd sc D k x with
    | false => rfl
    | true =>
      have := (isFirst_iff.1 g).2 m hmx2 hm
      rw [hkx] at this; cases this
  · cases g : aptK hd sc (k + 1) j x with
    | true => rfl
    | false =>
      have g0 := likeK_down g
      have hkj : aptK hd sc k m j = false := likeK_trans hl hkx (likeK_symm g0)
      cases g2 : aptK hd sc (k + 1) m j with
      | true => exact absurd ⟨hDj, g2, hkj⟩ (hxmin j hj)
      | false => rw [likeK_trans hl g2 g] at hmx; cases hmx
theorem countP_lt {p q : Nat → Bool} : ∀ {l : List Nat}, (∀ x ∈ l, p x = true → q x = true) → (∃ x ∈ l, p x = false ∧ q x = true) → l.countP p < l.countP q
  | [], _, h => by obtain ⟨x, hx, _⟩ := h; cases hx
  | y :: l, h, hx => by
    have hle : l.countP p ≤ l.countP q := List.countP_mono_left fun x hx => h x (List.mem_cons_of_mem _ hx)
    rw [List.countP_cons, List.countP_cons]
    obtain ⟨x, hm, hp, hq⟩ := hx
    rcases List.mem_cons.1 hm with rfl | hm
    · rw [hp, hq]; simp; omega
    · have ih := countP_lt (fun x hx => h x (List.mem_cons_of_mem _ hx)) ⟨x, hm, hp, hq⟩
      have hy := h y List.mem_cons_self
      cases hpy : p y with
      | false => simp; omega
      | true => rw [hy hpy]; simp; omega
/-- Within N steps all is told that is told at all. -/
theorem aptK_full (hl : HdLen hd sc) (hN : ∀ i, D i = true → i < N) (hD : ∀ (a j m : Nat) (r : Int), D a = true → (sc a)[j]? = some (m, r) → D m = true) {a b : Nat} (ha : D a = true) (hb : D b = true) : aptK hd sc N a b = true ↔ Apt hd sc a b := by
  refine ⟨aptK_apt N a b, fun h => ?_⟩
  have stable : ∃ k, k ≤ N ∧ ∀ x y, D x = true → D y = true → aptK hd sc (k + 1) x y = true → aptK hd sc k x y = true := by
    refine Classical.byContradiction fun hno => ?_
    have grow : ∀ k, k ≤ N + 1 → k ≤ firsts hd sc D N k := by
      intro k
      induction k with
      | zero => intro _; exact Nat.zero_le _
      | succ k ih =>
        intro hk
        have ih := ih (by omega)
        have hex : ∃ x y, D x = true ∧ D y = true ∧ aptK hd sc (k + 1) x y = true ∧ aptK hd sc k x y = false := by
          refine Classical.byContradiction fun hne => hno ⟨k, by omega, fun x y hx hy h1 => ?_⟩
          cases g : aptK hd sc k x y with
          | true => rfl
          | false => exact absurd ⟨x, y, hx, hy, h1, g⟩ hne
        obtain ⟨x, y, hx, hy, h1, h0⟩ := hex
        obtain ⟨z, hz, z0, z1⟩ := first_new hl hN hx hy h0 h1
        have := countP_lt (p := isFirst hd sc D k) (q := isFirst hd sc D (k + 1)) (l := List.range N) (fun i _ hi => isFirst_up hi) ⟨z, List.mem_range.2 hz, z0, z1⟩
        unfold firsts at ih ⊢
        omega
    have h1 := grow (N + 1) (Nat.le_refl _)
    have h2 : firsts hd sc D N (N + 1) ≤ N := by
      unfold firsts
      have := List.countP_le_length (p := isFirst hd sc D (N + 1)) (l := List.range N)
      rwa [List.length_range] at this
    omega
  obtain ⟨k, hk, hst⟩ := stable
  exact aptK_le hk (apt_closed (M := aptK hd sc k) (D := fun i => D i = true) hD (fun x y hx hy hu => hst x y hx hy hu) h ha hb)
end
end Go.Proofs.Ytmhbmeckdbdhpaa

namespace Go.Proofs.Ytmhbmeckdbdhpaa
open Go.RowKit Go.Shelf
attribute [local go_sem] Oper.semAt_some

theorem shapeOf_in (k : Int) (hk : kindB k = true) (w : World) :
    Calls Try.prog 78 #[.int .i64 k] w fun e w' => e = .returned (.tuple #[shV (leastN k) (mostN k) (paysB k) (mostP k), .bool true]) ∧ w.grownBy w' none := by
  have := shapeOf_any k w
  rwa [shapeV_in hk, hk] at this
theorem shapeOf_out (k : Int) (hk : kindB k = false) (w : World) :
    Calls Try.prog 78 #[.int .i64 k] w fun e w' => e = .returned (.tuple #[shV 0 0 false 0, .bool false]) ∧ w.grownBy w' none := by
  have := shapeOf_any k w
  rwa [shapeV_out hk, hk] at this
theorem hs_results {tmps : Array Value} {W : World} {tb : Nat} {v : Value} (hp : tmps.getD 2 undef = .pointer (some ⟨tb, 0, none⟩)) (hb : Blk W tb 4 #[v]) :
    (results Try.f71 tmps).run Try.prog W = .ok v W := by
  have hc := hb.cell 0
  have hp' : tmps[2]?.getD undef = .pointer (some ⟨tb, 0, none⟩) := by simpa using hp
  simp [results, Try.results71, hp', go_sem, hc]

/-- Behind shapeOf: the node's box and the answer's, and the shape's. -/
theorem hs_boxes {w w3 : World} {x : Nd} {v : Value} (hg : ((w.alloc (.cells (ndCells x v) 70)).alloc (.cells #[.bool false] 4)).grownBy w3 none) :
    w.grownBy w3 none ∧ Blk w3 w.heap.size 70 (ndCells x v) ∧ Blk w3 (w.heap.size + 1) 4 #[.bool false] ∧ w.heap.size + 1 < w3.heap.size := by
  have h0 : w.grownBy ((w.alloc (.cells (ndCells x v) 70)).alloc (.cells #[.bool false] 4)) none := only_alloc (only_alloc (only_refl _ _) _) _
  have hz : (w.alloc (.cells (ndCells x v) 70)).heap.size = w.heap.size + 1 := by simp
  refine ⟨only_trans h0 hg, ((Blk.new w _ _).alloc _).kept hg, (blk_at hz _ _).kept hg, ?_⟩
  have := hg.size
  simp at this
  omega

theorem hs_paid {w w3 w4 : World} {x : Nd} {v : Value} {o : Obj} (hg : w.grownBy w3 none) (h1 : Blk w3 w.heap.size 70 (ndCells x v)) (h2 : Blk w3 (w.heap.size + 1) 4 #[.bool false]) (h4 : (w3.alloc o).grownBy w4 none) :
    w.grownBy w4 none ∧ Blk w4 w.heap.size 70 (ndCells x v) ∧ Blk w4 (w.heap.size + 1) 4 #[.bool false] ∧ w.heap.size + 1 < w4.heap.size :=
  have h2' := (h2.alloc o).kept h4
  ⟨only_trans (only_alloc hg o) h4, (h1.alloc o).kept h4, h2', h2'.lt⟩
theorem nd_cells {W : World} {b : Nat} {t : TypeId} {x : Nd} {v : Value} (h : Blk W b t (ndCells x v)) : W.cell? ⟨b, 0, none⟩ = some (.int .i64 x.kind) ∧ W.cell? ⟨b, 1, none⟩ = some (.int .i64 x.prio) ∧ W.cell? ⟨b, 2, none⟩ = some (.bool x.chan) ∧
    W.cell? ⟨b, 3, none⟩ = some (.int .i64 x.pay.1) ∧ W.cell? ⟨b, 4, none⟩ = some (.int .i64 x.pay.2) ∧ W.cell? ⟨b, 5, none⟩ = some v := ⟨h.cell 0, h.cell 1, h.cell 2, h.cell 3, h.cell 4, h.cell 5⟩

/-- Where the head is wrong. -/
theorem shape_head {x : Nd} (h : headB x = false) : shapeB x = false := by simp [shapeB, h]
theorem head_1 {x : Nd} (h : kindB x.kind = false) : headB x = false := by simp [headB, h]
theorem head_2 {x : Nd} (h : withinB x.next.length (leastN x.kind) (mostN x.kind) = false) : headB x = false := by simp [headB, h]
theorem head_3 {x : Nd} (h : withinB x.prio 0 (mostP x.kind) = false) : headB x = false := by simp [headB, h]
theorem head_4 {x : Nd} (h : payB x (paysB x.kind) = false) : headB x = false := by simp [headB, h]
theorem head_ok {x : Nd} (h1 : kindB x.kind = true) (h2 : withinB x.next.length (leastN x.kind) (mostN x.kind) = true) (h3 : withinB x.prio 0 (mostP x.kind) = true) (h4 : payB x (paysB x.kind) = true) : headB x = true := by simp [headB, h1, h2, h3, h4]
/-- It leaves ahead of the edges. -/
theorem hs_out {w w3 : World} {x : Nd} {tmps : Array Value} {F : Fence} {n : Nat} {o : Obj} (hp : tmps.getD 2 undef = .pointer (some ⟨w.heap.size + 1, 0, none⟩)) (hg : w.grownBy w3 none) (hb : Blk w3 (w.heap.size + 1) 4 #[.bool false]) (hx : headB x = false) :
    bodyPostM F n Try.prog Try.f71 (fun e w' => e = .returned (.bool (shapeB x)) ∧ w.grownBy w' none) .ret { tmps := tmps, defers := [] } ((w3.setCell ⟨w.heap.size + 1, 0, none⟩ (.bool false)).alloc o) := by
  have hb' := (hb.set_ 0 (.bool false)).alloc o
  refine ret_unmarked (hs_results hp hb') ⟨by rw [shape_head hx], only_alloc (only_setNew hg (by show w.heap.size ≤ w.heap.size + 1; omega) _) o⟩
theorem hs_out' {w w3 : World} {x : Nd} {tmps : Array Value} {F : Fence} {n : Nat} (hp : tmps.getD 2 undef = .pointer (some ⟨w.heap.size + 1, 0, none⟩)) (hg : w.grownBy w3 none) (hb : Blk w3 (w.heap.size + 1) 4 #[.bool false]) (hx : headB x = false) :
    bodyPostM F n Try.prog Try.f71 (fun e w' => e = .returned (.bool (shapeB x)) ∧ w.grownBy w' none) .ret { tmps := tmps, defers := [] } (w3.setCell ⟨w.heap.size + 1, 0, none⟩ (.bool false)) := by
  have hb' := hb.set_ 0 (.bool false)
  refine ret_unmarked (hs_results hp hb') ⟨by rw [shape_head hx], only_setNew hg (by show w.heap.size ≤ w.heap.size + 1; omega) _⟩

/-- Between two edges; where one is wrong. -/
def HI (w : World) (pre : List Ed) (W : World) : Prop := w.grownBy W none ∧ Blk W (w.heap.size + 1) 4 #[.bool false] ∧ pre.all shiftB = true
def HX (w : World) (c : Code) (pre : List Ed) (W : World) : Prop := c = .ret ∧ w.grownBy W none ∧ Blk W (w.heap.size + 1) 4 #[.bool false] ∧ pre.all shiftB = false
theorem hi_below {w : World} {B : Nat} (hB : w.heap.size + 1 < B) (s : List Ed) (X Y : World) (h : HI w s X) (hb : Below B X Y) : HI w s Y := ⟨below_only hb h.1 (by omega), h.2.1.below hb hB, h.2.2⟩
theorem hx_below {w : World} {B : Nat} (hB : w.heap.size + 1 < B) (c : Code) (s : List Ed) (X Y : World) (h : HX w c s X) (hb : Below B X Y) : HX w c s Y := ⟨h.1, below_only hb h.2.1 (by omega), h.2.2.1.below hb hB, h.2.2.2⟩
theorem hi_next {w W : World} {pre : List Ed} {e : Ed} (h : HI w pre W) (he : shiftB e = true) : HI w (pre ++ [e]) W := ⟨h.1, h.2.1, by simp [h.2.2, he]⟩
theorem hx_next {w W : World} {pre : List Ed} {e : Ed} (h : HI w pre W) (he : shiftB e = false) : HX w .ret (pre ++ [e]) (W.setCell ⟨w.heap.size + 1, 0, none⟩ (.bool false)) :=
  ⟨rfl, only_setNew h.1 (by show w.heap.size ≤ w.heap.size + 1; omega) _, h.2.1.set_ 0 _, by simp [he]⟩
theorem all_prefix {α : Type} {p : α → Bool} {l m : List α} (h : l <+: m) (hl : l.all p = false) : m.all p = false := by
  obtain ⟨r, rfl⟩ := h
  simp [List.all_append, hl]
theorem shape_ok {x : Nd} (h : headB x = true) (he : (edgesL x).all shiftB = true) : shapeB x = true := by simp only [shapeB, h, he, Bool.and_self]
theorem shape_bad {x : Nd} (he : (edgesL x).all shiftB = false) : shapeB x = false := by simp only [shapeB, he, Bool.and_false]

set_option maxRecDepth 100000 in
set_option maxHeartbeats 2000000 in
theorem hasShape_any (x : Nd) (v : Value) (w : World) (hE : Edges w v x.next) :
    Calls Try.prog 71 #[ndV x v] w fun e w' => e = .returned (.bool (shapeB x)) ∧ w.grownBy w' none := by
  refine (callsIn_wide (n := 3)).1 ?_
  refine callsIn_of_wp_marks Try.func71 rfl trivial ?_ rfl
  simp only [Try.ntmps71, List.size_toArray, List.length_cons, List.length_nil, Nat.reduceAdd, Nat.reduceSub, Array.replicate_succ, Array.replicate_zero, List.push_toArray, List.append_toArray, List.nil_append, List.cons_append]
  have HE := Lib.hid hE
  obtain ⟨A, cap, rfl, hlen, _⟩ := hE
  have HL := Lib.hid hlen
  clear hlen
  cases hk : kindB x.kind
  · have HK := Lib.hid hk
    gi_wp2_with (first | (refine ⟨trivial, ?_⟩; gi_at_call 78; go_must (refine (callsIn_wide.2 (shapeOf_out _ HK.out _)).mono ?_; rintro e w3 ⟨rfl, hg3⟩; obtain ⟨hg, hb1, hb2, hz⟩ := hs_boxes hg3; have hz0 : w.heap.size < w3.heap.size := (by omega); have HG := Lib.hid hg; have HB := Lib.hid hb2; clear hg3 hg; have c0 : w3.cell? ⟨w.heap.size + 1, 0, none⟩ = some (.bool false) := hb2.cell 0; have f0 := hb2.frozen 0; clear hb2 hb1)) | (refine ⟨trivial, ?_⟩))
    exact hs_out rfl HG.out HB.out (head_1 HK.out)
  · have HK := Lib.hid hk
    cases hc1 : withinB x.next.length (leastN x.kind) (mostN x.kind)
    · have H1 := Lib.hid hc1
      gi_wp2_with (first | (refine ⟨trivial, ?_⟩; gi_at_call 78; go_must (refine (callsIn_wide.2 (shapeOf_in _ HK.out _)).mono ?_; rintro e w3 ⟨rfl, hg3⟩; obtain ⟨hg, hb1, hb2, hz⟩ := hs_boxes hg3; have hz0 : w.heap.size < w3.heap.size := (by omega); have HG := Lib.hid hg; have HB := Lib.hid hb2; clear hg3 hg; have c0 : w3.cell? ⟨w.heap.size + 1, 0, none⟩ = some (.bool false) := hb2.cell 0; have f0 := hb2.frozen 0; obtain ⟨q0, q1, q2, q3, q4, q5⟩ := nd_cells hb1; clear hb2 hb1)) | (refine ⟨trivial, ?_⟩; gi_at_call 79; go_must (refine (callsIn_wide.2 (within_any _ _ _ _)).mono ?_; rintro e w4 ⟨rfl, rfl⟩)) | (refine ⟨trivial, ?_⟩))
      exact hs_out rfl HG.out HB.out (head_2 H1.out)
    · cases hc2 : withinB x.prio 0 (mostP x.kind)
      · have H1 := Lib.hid hc2
        gi_wp2_with (first | (refine ⟨trivial, ?_⟩; gi_at_call 78; go_must (refine (callsIn_wide.2 (shapeOf_in _ HK.out _)).mono ?_; rintro e w3 ⟨rfl, hg3⟩; obtain ⟨hg, hb1, hb2, hz⟩ := hs_boxes hg3; have hz0 : w.heap.size < w3.heap.size := (by omega); have HG := Lib.hid hg; have HB := Lib.hid hb2; clear hg3 hg; have c0 : w3.cell? ⟨w.heap.size + 1, 0, none⟩ = some (.bool false) := hb2.cell 0; have f0 := hb2.frozen 0; obtain ⟨q0, q1, q2, q3, q4, q5⟩ := nd_cells hb1; clear hb2 hb1)) | (refine ⟨trivial, ?_⟩; gi_at_call 79; go_must (refine (callsIn_wide.2 (within_any _ _ _ _)).mono ?_; rintro e w4 ⟨rfl, rfl⟩)) | (refine ⟨trivial, ?_⟩))
        exact hs_out rfl HG.out HB.out (head_3 H1.out)
      · cases hc3 : payB x (paysB x.kind)
        · have H1 := Lib.hid hc3
          gi_wp2_with (first | (refine ⟨trivial, ?_⟩; gi_at_call 78; go_must (refine (callsIn_wide.2 (shapeOf_in _ HK.out _)).mono ?_; rintro e w3 ⟨rfl, hg3⟩; obtain ⟨hg, hb1, hb2, hz⟩ := hs_boxes hg3; have hz0 : w.heap.size < w3.heap.size := (by omega); have HG := Lib.hid hg; have HB := Lib.hid hb2; have HB1 := Lib.hid hb1; clear hg3 hg; have c0 : w3.cell? ⟨w.heap.size + 1, 0, none⟩ = some (.bool false) := hb2.cell 0; have f0 := hb2.frozen 0; obtain ⟨q0, q1, q2, q3, q4, q5⟩ := nd_cells hb1; clear hb2 hb1)) | (refine ⟨trivial, ?_⟩; gi_at_call 79; go_must (refine (callsIn_wide.2 (within_any _ _ _ _)).mono ?_; rintro e w4 ⟨rfl, rfl⟩)) | (refine ⟨trivial, ?_⟩; gi_at_call 80; go_must (refine (callsIn_wide.2 (hasPay_any x _ _ _ _ _ _)).mono ?_; rintro e w4 ⟨rfl, hg4⟩; obtain ⟨hg5, hb1, hb2, hz5⟩ := hs_paid HG.out HB1.out HB.out hg4; have HG5 := Lib.hid hg5; have HB5 := Lib.hid hb2; clear hg4 hg5; have c5 : w4.cell? ⟨w.heap.size + 1, 0, none⟩ = some (.bool false) := hb2.cell 0; have f5 := hb2.frozen 0; clear hb1 hb2)) | (refine ⟨trivial, ?_⟩))
          exact hs_out' rfl HG5.out HB5.out (head_4 H1.out)
        · have HH := Lib.hid (head_ok hk hc1 hc2 hc3)
          gi_wp2_with (first | (refine ⟨trivial, ?_⟩; gi_at_call 78; go_must (refine (callsIn_wide.2 (shapeOf_in _ HK.out _)).mono ?_; rintro e w3 ⟨rfl, hg3⟩; obtain ⟨hg, hb1, hb2, hz⟩ := hs_boxes hg3; have hz0 : w.heap.size < w3.heap.size := (by omega); have HG := Lib.hid hg; have HB := Lib.hid hb2; have HB1 := Lib.hid hb1; clear hg3 hg; have c0 : w3.cell? ⟨w.heap.size + 1, 0, none⟩ = some (.bool false) := hb2.cell 0; have f0 := hb2.frozen 0; obtain ⟨q0, q1, q2, q3, q4, q5⟩ := nd_cells hb1; clear hb2 hb1)) | (refine ⟨trivial, ?_⟩; gi_at_call 79; go_must (refine (callsIn_wide.2 (within_any _ _ _ _)).mono ?_; rintro e w4 ⟨rfl, rfl⟩)) | (refine ⟨trivial, ?_⟩; gi_at_call 80; go_must (refine (callsIn_wide.2 (hasPay_any x _ _ _ _ _ _)).mono ?_; rintro e w4 ⟨rfl, hg4⟩; obtain ⟨hg5, hb1, hb2, hz5⟩ := hs_paid HG.out HB1.out HB.out hg4; have HG5 := Lib.hid hg5; have HB5 := Lib.hid hb2; clear hg4 hg5; have c5 : w4.cell? ⟨w.heap.size + 1, 0, none⟩ = some (.bool false) := hb2.cell 0; have f5 := hb2.frozen 0; obtain ⟨p0, p1, p2, p3, p4, p5⟩ := nd_cells hb1; have HB6 := Lib.hid hb1; clear hb1 hb2)) | (refine ⟨trivial, ?_⟩; gi_at_call 72; go_must (refine (callsIn_wide.2 (edges_any x _ _)).mono ?_; rintro e w5 ⟨rfl, rfl⟩)) | (refine ⟨trivial, ?_⟩))
          have hz6 : (w4.alloc (.cells (ndCells x (.slice A x.next.length cap)) 70)).heap.size = w4.heap.size + 1 := by simp
          have hb2' := HB5.out.alloc (.cells (ndCells x (.slice A x.next.length cap)) 70)
          have hg2' := only_alloc HG5.out (.cells (ndCells x (.slice A x.next.length cap)) 70)
          refine wpIn_rangeFunc_tells rfl (by omega) (gf := 81) (lb := #[.pointer (some ⟨w4.heap.size, 0, none⟩)]) rfl trivial (enters_of Try.func81 (by kernel_rfl) rfl)
            (edges_tells w4.heap.size x (.slice A x.next.length cap)) (fun h k => h.trans k) (fun _ _ _ o' h hc => .putObj o' h hc) KeepsCells.alloc (fun _ => rfl) ?t0 (HI w) (HX w) (hi_below (by omega)) (hx_below (by omega)) ⟨hg2', hb2', rfl⟩ 67 edCells
            (fun e Bx => { tmps := #[ndV x (.slice A x.next.length cap), .pointer (some ⟨w.heap.size, 0, none⟩), .pointer (some ⟨w.heap.size + 1, 0, none⟩), .pointer (some ⟨w3.heap.size, 0, none⟩), .bool true, .pointer (some ⟨Bx, 0, none⟩), .tuple #[shV (leastN x.kind) (mostN x.kind) (paysB x.kind) (mostP x.kind), .bool true], .pointer (some ⟨w.heap.size, 0, none⟩), .int .i64 x.kind, .tuple #[shV (leastN x.kind) (mostN x.kind) (paysB x.kind) (mostP x.kind), .bool true], shV (leastN x.kind) (mostN x.kind) (paysB x.kind) (mostP x.kind), .bool true, .bool true, .bool false, .bool false, .pointer (some ⟨w.heap.size, 5, none⟩), .slice A x.next.length cap, .int .i64 (x.next.length : Int), .pointer (some ⟨w3.heap.size, 0, none⟩), .int .i64 (leastN x.kind), .pointer (some ⟨w3.heap.size, 1, none⟩), .int .i64 (mostN x.kind), .bool true, .bool false, .bool false, .bool false, .pointer (some ⟨w.heap.size, 1, none⟩), .int .i64 x.prio, .pointer (some ⟨w3.heap.size, 3, none⟩), .int .i64 (mostP x.kind), .bool true, .bool false, .bool false, .bool false, ndV x (.slice A x.next.length cap), shV (leastN x.kind) (mostN x.kind) (paysB x.kind) (mostP x.kind), .bool true, .bool false, .bool false, ndV x (.slice A x.next.length cap), .func (.func 81) #[] #[.pointer (some ⟨w4.heap.size, 0, none⟩)], edV e, undef, undef, undef, undef], defers := [] }) ?assign ?body ?done ?stop
          case t0 =>
            intro W hW
            exact ⟨(Blk.new w4 70 _).below hW (by omega), (HE.out.keep (.grown hg2')).keep (.below hW)⟩
          case assign =>
            intro l e W K hK
            gi_wp2
            exact hK
          case body =>
            rintro l pre ⟨a, b⟩ W Bx hpre hBx hI hbx
            have c1 : W.cell? ⟨Bx, 1, none⟩ = some (.int .i64 b) := hbx.cell 1
            have c0' : W.cell? ⟨w.heap.size + 1, 0, none⟩ = some (.bool false) := hI.2.1.cell 0
            have f0' := hI.2.1.frozen 0
            have HI' := Lib.hid hI
            clear hI hpre
            cases hs : withinB b 0 1000
            · have HS : Hid (shiftB (a, b) = false) := hs
              gi_wp2_with (refine ⟨trivial, ?_⟩; gi_at_call 79; refine (CallsIn.inRound l (callsIn_wide.2 (within_any _ _ _ _))).mono ?_; rintro e w6 ⟨rfl, rfl⟩)
              exact ⟨(KeepsOthers.setCell _ _ _).from _, hx_next HI'.out HS.out⟩
            · have HS : Hid (shiftB (a, b) = true) := hs
              gi_wp2_with (refine ⟨trivial, ?_⟩; gi_at_call 79; refine (CallsIn.inRound l (callsIn_wide.2 (within_any _ _ _ _))).mono ?_; rintro e w6 ⟨rfl, rfl⟩)
              exact ⟨KeepsFrom.refl _ _, .refl _, hi_next HI'.out HS.out⟩
          case done =>
            rintro D W hD ⟨h1, h2, h3⟩ hK
            have d0 : W.cell? ⟨w.heap.size + 1, 0, none⟩ = some (.bool false) := h2.cell 0
            have g0 := h2.frozen 0
            have HK2 := Lib.hid ((KeepsOthers.setCell W ⟨w.heap.size + 1, 0, none⟩ (.bool true)).same D _ hK rfl)
            have HB7 := Lib.hid (h2.set_ 0 (.bool true))
            have HG7 := Lib.hid (only_setNew h1 (p := ⟨w.heap.size + 1, 0, none⟩) (by show w.heap.size ≤ w.heap.size + 1; omega) (.bool true))
            have HS := Lib.hid (shape_ok HH.out h3)
            clear h1 h2 h3 hK
            gi_wp2
            refine marks_ret (B := w4.heap.size + 1) [D] _ (by simp) (by simp only [List.mem_singleton, forall_eq]; exact ⟨by omega, HK2.out⟩) fun W' hW' => ?_
            refine ⟨_, hs_results rfl (HB7.out.keeps hW'.2), by rw [HS.out], hW'.grown HG7.out (by omega)⟩
          case stop =>
            rintro D c pre W hD hpre hne ⟨rfl, h1, h2, h3⟩ hK
            gi_wp2
            refine marks_ret (B := w4.heap.size + 1) [D] _ (by simp) (by simp only [List.mem_singleton, forall_eq]; exact ⟨by omega, hK⟩) fun W' hW' => ?_
            refine ⟨_, hs_results rfl (h2.keeps hW'.2), by rw [shape_bad (all_prefix hpre h3)], hW'.grown h1 (by omega)⟩
end Go.Proofs.Ytmhbmeckdbdhpaa

namespace Go.Proofs.Ytmhbmeckdbdhpaa
open Go.RowKit Go.Shelf

end Go.Proofs.Ytmhbmeckdbdhpaa

namespace Go.Proofs.Ytmhbmeckdbdhpaa
open Go.RowKit Go.Shelf

def InOk (n : Nat) (next : List Ed) (k : Nat) : Prop := ∀ j e, j < k → next[j]? = some e → inB n e = true
theorem InOk.all {n : Nat} {next : List Ed} (h : InOk n next next.length) : next.all (inB n) = true := by
  rw [List.all_eq_true]
  intro e he
  obtain ⟨j, hj⟩ := List.mem_iff_getElem?.1 he
  exact h j e (List.getElem?_eq_some_iff.1 hj).1 hj
end Go.Proofs.Ytmhbmeckdbdhpaa

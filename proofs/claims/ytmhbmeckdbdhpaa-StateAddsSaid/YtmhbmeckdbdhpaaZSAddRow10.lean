/- Texts joined for the claim's sake: DDual, CCls. -/
import Derived.Test.YtmhbmeckdbdhpaaZSAddRow9
import Derived.Test.YtmhbmeckdbdhpaaZSAddRow3
namespace Go.Proofs.Ytmhbmeckdbdhpaa
open Go.RowKit

def dualK (k : Int) : Int := if k = 1 then 2 else if k = 2 then 1 else if k = 3 then 4 else if k = 4 then 3 else k
theorem dualK_5 (k : Int) : dualK k = 5 ↔ k = 5 := by unfold dualK; repeat' split
                                                      all_goals omega
theorem dualK_twice (k : Int) : dualK (dualK k) = k := by
  by_cases h1 : k = 1
  · subst h1; rfl
  · by_cases h2 : k = 2
    · subst h2; rfl
    · by_cases h3 : k = 3
      · subst h3; rfl
      · by_cases h4 : k = 4
        · subst h4; rfl
        · simp [dualK, h1, h2, h3, h4]
def upE (n : Nat) (e : Ed) : Ed := (e.1 + n, e.2)
def dualN (n : Nat) (x : Nd) : Nd := { x with kind := dualK x.kind, next := x.next.map (upE n) }
def twoL (xs : List Nd) : List Nd := xs ++ xs.map (dualN xs.length)
def tableL (xs : List Nd) : List Nd := if (checkL xs).2 = 0 then twoL xs else []
def mateA (n node : Int) : Int := if n < 1 ∨ node < 0 ∨ 2 * n ≤ node then -1 else if node < n then node + n else node - n
theorem twoL_len (xs : List Nd) : (twoL xs).length = 2 * xs.length := by unfold twoL; rw [List.length_append, List.length_map]; omega
theorem tableL_ok {xs : List Nd} (h : (checkL xs).2 = 0) : tableL xs = twoL xs := by unfold tableL; rw [if_pos h]
theorem tableL_not {xs : List Nd} (h : (checkL xs).2 ≠ 0) : tableL xs = [] := by unfold tableL; rw [if_neg h]

/-- Of the first half, or of the second one. -/
def upS (n : Nat) (s : Bool) (e : Ed) : Ed := if s then upE n e else e
def nodeS (n : Nat) (s : Bool) (x : Nd) : Nd := if s then dualN n x else x
theorem upS_1 (n : Nat) (s : Bool) (e : Ed) : (upS n s e).1 = e.1 + (if s then (n : Int) else 0) := by cases s <;> simp [upS, upE]
theorem nodeS_5 (n : Nat) (s : Bool) (x : Nd) : (nodeS n s x).kind = 5 ↔ x.kind = 5 := by
  cases s
  · exact Iff.rfl
  · exact dualK_5 x.kind
theorem nodeS_next (n : Nat) (s : Bool) (x : Nd) : (nodeS n s x).next = x.next.map (upS n s) := by
  cases s
  · show x.next = x.next.map (fun e => e)
    simp
  · show x.next.map (upE n) = x.next.map (upE n)
    rfl
theorem nodeS_only (n : Nat) (s : Bool) (x : Nd) : onlyNext (nodeS n s x) = (onlyNext x).map (upS n s) := by
  by_cases h : x.kind = 5
  · unfold onlyNext
    rw [if_pos h, if_pos ((nodeS_5 n s x).2 h), nodeS_next]
    match x.next with
    | [] => rfl
    | [e] => rfl
    | _ :: _ :: _ => rfl
  · unfold onlyNext
    rw [if_neg h, if_neg (fun e => h ((nodeS_5 n s x).1 e))]
    rfl
section
variable {xs : List Nd}
theorem two_at {i : Nat} {x : Nd} (h : xs[i]? = some x) : (twoL xs)[i]? = some x := by
  unfold twoL
  rw [List.getElem?_append_left (List.getElem?_eq_some_iff.1 h).1]; exact h
theorem two_up {i : Nat} {x : Nd} (h : xs[i]? = some x) : (twoL xs)[xs.length + i]? = some (dualN xs.length x) := by
  unfold twoL
  rw [List.getElem?_append_right (by omega), List.getElem?_map, show xs.length + i - xs.length = i by omega, h]; rfl
theorem nodeAt_two {t : Ed} {x : Nd} (s : Bool) (h : nodeAt xs t.1 = some x) : nodeAt (twoL xs) (upS xs.length s t).1 = some (nodeS xs.length s x) := by
  obtain ⟨h0, h1, h2⟩ := nodeAt_some h
  obtain ⟨i, hi⟩ : ∃ i : Nat, t.1 = i := ⟨t.1.toNat, by omega⟩
  rw [hi] at h2
  simp only [Int.toNat_natCast] at h2
  rw [upS_1, hi]
  cases s
  · simp only [Bool.false_eq_true, if_false, Int.add_zero]
    exact nodeAt_nat.trans (two_at h2)
  · simp only [if_true]
    rw [show (i : Int) + (xs.length : Int) = ((xs.length + i : Nat) : Int) by omega]
    exact nodeAt_nat.trans (two_up h2)
theorem isAl_two {t : Ed} (s : Bool) (h0 : 0 ≤ t.1) (h1 : t.1 < xs.length) : isAl (twoL xs) (upS xs.length s t) = isAl xs t := by
  obtain ⟨x, hx, _⟩ := nodeAt_of (nodeB_true.2 ⟨h0, h1⟩)
  rw [isAl_at hx, isAl_at (nodeAt_two s hx)]
  exact decide_eq_decide.2 (nodeS_5 _ s x)
theorem way_two (hg : ∀ x ∈ xs, Good xs.length x) (s : Bool) : ∀ (f : Nat) (t : Ed), 0 ≤ t.1 → t.1 < xs.length → wayL (twoL xs) f (upS xs.length s t) = (wayL xs f t).map (upS xs.length s) ∧ ∀ u ∈ wayL xs f t, 0 ≤ u.1 ∧ u.1 < xs.length
  | 0, _, _, _ => ⟨rfl, fun u hu => by cases hu⟩
  | f + 1, t, h0, h1 => by
    obtain ⟨x, hx, hxi⟩ := nodeAt_of (nodeB_true.2 ⟨h0, h1⟩)
    have hx2 := nodeAt_two s hx
    have ho := nodeS_only xs.length s x
    cases hn : onlyNext x with
    | none =>
      rw [hn] at ho
      rw [wayL_end hx hn, wayL_end hx2 ho]
      exact ⟨rfl, fun u hu => by rcases List.mem_singleton.1 hu with rfl; exact ⟨h0, h1⟩⟩
    | some e =>
      rw [hn] at ho
      rw [wayL_next hx hn, wayL_next hx2 ho]
      have hk : x.kind = 5 := by
        apply Classical.byContradiction
        intro hk
        unfold onlyNext at hn
        rw [if_neg hk] at hn
        cases hn
      obtain ⟨e', _, he2, hed⟩ := good_one (hg x (List.mem_of_getElem? hxi)) hk
      obtain rfl : e' = e := by rw [hn] at he2; exact (Option.some.inj he2).symm
      have es : stepT (upS xs.length s t) (upS xs.length s e') = upS xs.length s (stepT t e') := by cases s <;> rfl
      obtain ⟨i1, i2⟩ := way_two hg s f (stepT t e') hed.1 hed.2.1
      rw [es, i1]
      refine ⟨rfl, fun u hu => ?_⟩
      rcases List.mem_cons.1 hu with rfl | hu
      · exact ⟨h0, h1⟩
      · exact i2 u hu
theorem pick_two (s : Bool) : ∀ (L : List Ed), (∀ u ∈ L, 0 ≤ u.1 ∧ u.1 < xs.length) → 0 ≤ (pickL xs L).1 → pickL (twoL xs) (L.map (upS xs.length s)) = upS xs.length s (pickL xs L)
  | [], _, h => by simp [pickL] at h
  | t :: L, hr, h => by
    have ht := hr t List.mem_cons_self
    have ha := isAl_two (xs := xs) s ht.1 ht.2
    cases hb : isAl xs t with
    | true =>
      simp only [List.map_cons, pickL, ha, hb, if_true] at h ⊢
      exact pick_two s L (fun u hu => hr u (List.mem_cons_of_mem _ hu)) h
    | false => simp only [List.map_cons, pickL, ha, hb, Bool.false_eq_true, if_false]
theorem pick_fuel (t : Ed) (k : Nat) : pickL xs (wayL xs (xs.length + k) t) = resolveL xs t := by
  induction k with
  | zero => rfl
  | succ k ih =>
    rw [← ih]
    cases h : ends xs (xs.length + k) t.1 with
    | true => exact pick_true h
    | false =>
      have h2 : ends xs (xs.length + (k + 1)) t.1 = false := by rw [ends_more]; rw [ends_more] at h; exact h
      rw [pick_false h, pick_false h2]
/-- What types of a dual table come to. -/
theorem resolve_two (hk : OKT xs) {t : Ed} (s : Bool) (h0 : 0 ≤ t.1) (h1 : t.1 < xs.length) (hr : 0 ≤ (resolveL xs t).1) : resolveL (twoL xs) (upS xs.length s t) = upS xs.length s (resolveL xs t) := by
  have hw := way_two hk.good s (2 * xs.length) t h0 h1
  have hp : pickL xs (wayL xs (2 * xs.length) t) = resolveL xs t := by
    rw [show 2 * xs.length = xs.length + xs.length by omega]; exact pick_fuel t _
  unfold resolveL
  rw [twoL_len, hw.1, pick_two s _ hw.2 (by rw [hp]; exact hr), hp]
  rfl
end
theorem mate_low {n m : Int} (h : 1 ≤ n) (h0 : 0 ≤ m) (h1 : m < n) : mateA n m = m + n := by unfold mateA; rw [if_neg (by omega), if_pos h1]
theorem mate_high {n m : Int} (h : 1 ≤ n) (h0 : n ≤ m) (h1 : m < 2 * n) : mateA n m = m - n := by unfold mateA; rw [if_neg (by omega), if_neg (by omega)]
/-! ### the dual of the dual -/
section
variable {f : Nd → Nd} (hk : ∀ x, (f x).kind = 5 ↔ x.kind = 5) (hn : ∀ x, (f x).next = x.next) {xs : List Nd}
include hk in
include hk hn in
include hk hn in
end
end Go.Proofs.Ytmhbmeckdbdhpaa

namespace Go.Proofs.Ytmhbmeckdbdhpaa
open Go.RowKit

/-- What a table of nodes and their duals is good for. -/
structure TW (L : List Nd) : Prop where
  good : ∀ x ∈ L, (0 ≤ x.kind ∧ x.kind ≤ 5) ∧ (0 ≤ x.prio ∧ x.prio ≤ 1000) ∧ x.next.length ≤ 8
  edge : ∀ x ∈ L, ∀ e ∈ allE x, 0 ≤ e.1 ∧ e.1 < (L.length : Int) ∧ 0 ≤ e.2 ∧ e.2 ≤ 1000
  root : ∀ t : Int, 0 ≤ t → t < (L.length : Int) → ∃ (m : Nat) (y : Nd) (s : Int), L[m]? = some y ∧ y.kind ≠ 5 ∧ 0 ≤ s ∧ s ≤ 64000 ∧ ∀ o, -1000000000 ≤ o → o ≤ 1000000000 → resolveL L (t, o) = ((m : Int), s + o)
  self : ∀ (m : Nat) (y : Nd) (o : Int), L[m]? = some y → y.kind ≠ 5 → resolveL L ((m : Int), o) = ((m : Int), o)
theorem resolve_self {L : List Nd} {m : Nat} {y : Nd} (o : Int) (h : L[m]? = some y) (h5 : y.kind ≠ 5) : resolveL L ((m : Int), o) = ((m : Int), o) := by
  have hm := (List.getElem?_eq_some_iff.1 h).1
  have hn : nodeAt L (m : Int) = some y := nodeAt_nat.trans h
  have ha : isAl L ((m : Int), o) = false := by unfold isAl; rw [hn]; simp [h5]
  obtain ⟨n, hl⟩ : ∃ n, L.length = n + 1 := ⟨L.length - 1, by omega⟩
  unfold resolveL
  rw [hl]
  unfold wayL
  dsimp only
  rw [hn]
  dsimp only
  unfold pickL
  rw [ha]
  rfl
theorem tw_two {xs : List Nd} (hk : OKT xs) : TW (twoL xs) := by
  have part : ∀ x ∈ twoL xs, ∃ (u : Nat) (y : Nd), xs[u]? = some y ∧ (x = y ∨ x = dualN xs.length y) := fun x hx => by
    unfold twoL at hx
    rcases List.mem_append.1 hx with hx | hx
    · obtain ⟨u, hu⟩ := List.mem_iff_getElem?.1 hx
      exact ⟨u, x, hu, .inl rfl⟩
    · obtain ⟨y, hy, rfl⟩ := List.mem_map.1 hx
      obtain ⟨u, hu⟩ := List.mem_iff_getElem?.1 hy
      exact ⟨u, y, hu, .inr rfl⟩
  have h2 : ((twoL xs).length : Int) = 2 * (xs.length : Int) := by rw [twoL_len]; omega
  refine ⟨fun x hx => ?_, fun x hx e he => ?_, fun t h0 h1 => ?_, fun m y o hy h5 => resolve_self o hy h5⟩
  · obtain ⟨u, y, hu, rfl | rfl⟩ := part x hx
    · have := hk.end_ hu; exact ⟨this.1, this.2.1, this.2.2.1⟩
    · have := hk.end_ hu
      refine ⟨?_, this.2.1, by show (y.next.map _).length ≤ 8; rw [List.length_map]; exact this.2.2.1⟩
      have hd : (dualN xs.length y).kind = dualK y.kind := rfl
      rw [hd]
      unfold dualK
      repeat' split
      all_goals omega
  · obtain ⟨u, y, hu, rfl | rfl⟩ := part x hx
    · have := hk.edge hu he
      omega
    · unfold allE at he
      rcases List.mem_append.1 he with he | he
      · obtain ⟨f, hf, rfl⟩ := List.mem_map.1 he
        have := hk.edge hu (List.mem_append_left _ hf)
        simp only [upE]
        omega
      · have := hk.edge hu (e := e) (List.mem_append_right _ he)
        omega
  · by_cases ht : t < (xs.length : Int)
    · obtain ⟨m, y, d, hy, h5, d0, d1, _, hr⟩ := hk.goal h0 ht
      refine ⟨m, y, d, two_at hy, h5, d0, d1, fun o o0 o1 => ?_⟩
      have h3 := resolve_two hk (t := (t, o)) false h0 ht (by rw [hr o o0 o1]; show (0 : Int) ≤ (m : Int); omega)
      rw [hr o o0 o1] at h3
      exact h3
    · have ht0 : 0 ≤ t - (xs.length : Int) := by omega
      have ht1 : t - (xs.length : Int) < (xs.length : Int) := by omega
      obtain ⟨m, y, d, hy, h5, d0, d1, _, hr⟩ := hk.goal ht0 ht1
      refine ⟨xs.length + m, dualN xs.length y, d, two_up hy, fun e => h5 ((dualK_5 _).1 e), d0, d1, fun o o0 o1 => ?_⟩
      have h3 := resolve_two hk (t := (t - (xs.length : Int), o)) true ht0 ht1 (by rw [hr o o0 o1]; show (0 : Int) ≤ (m : Int); omega)
      rw [hr o o0 o1] at h3
      have e1 : upS xs.length true (t - (xs.length : Int), o) = (t, o) := by simp [upS, upE]
      have e2 : upS xs.length true ((m : Int), d + o) = (((xs.length + m : Nat) : Int), d + o) := by simp [upS, upE]; omega
      rw [e1, e2] at h3
      exact h3

def hdL (L : List Nd) (a : Nat) : Int × Bool × Nat := match L[a]? with | some x => (x.kind, x.chan, x.next.length) | none => (0, false, 0)
/-- What an edge of a node comes to, and how far it rises; 0, if that is an End. -/
def placeL (L : List Nd) (x : Nd) (e : Ed) : Nat × Int :=
  ((resolveL L e).1.toNat, match L[(resolveL L e).1.toNat]? with | some y => if y.kind = 0 then 0 else y.prio + (resolveL L e).2 - x.prio | none => 0)
def scL (L : List Nd) (a : Nat) : List (Nat × Int) := match L[a]? with | some x => (allE x).map (placeL L x) | none => []
def liveB (L : List Nd) (a : Nat) : Bool := match L[a]? with | some x => !decide (x.kind = 5) | none => false
theorem allE_len (x : Nd) : (allE x).length = x.next.length + (if x.chan then 1 else 0) := by unfold allE; split <;> simp [*]
theorem hd_len (L : List Nd) : HdLen (hdL L) (scL L) := by
  intro a b h
  unfold hdL at h
  unfold scL
  cases ha : L[a]? with
  | none =>
    cases hb : L[b]? with
    | none => rfl
    | some y =>
      rw [ha, hb] at h
      simp only [Prod.mk.injEq] at h
      dsimp only
      rw [List.length_map, allE_len, ← h.2.1, ← h.2.2]; rfl
  | some x =>
    cases hb : L[b]? with
    | none =>
      rw [ha, hb] at h
      simp only [Prod.mk.injEq] at h
      dsimp only
      rw [List.length_map, allE_len, h.2.1, h.2.2]; rfl
    | some y =>
      rw [ha, hb] at h
      simp only [Prod.mk.injEq] at h
      dsimp only
      rw [List.length_map, List.length_map, allE_len, allE_len, h.2.1, h.2.2]
section
variable {L : List Nd}
theorem live_lt {a : Nat} (h : liveB L a = true) : a < L.length := by
  unfold liveB at h
  cases ha : L[a]? with
  | none => rw [ha] at h; cases h
  | some x => exact (List.getElem?_eq_some_iff.1 ha).1
theorem live_some {a : Nat} (h : liveB L a = true) : ∃ x, L[a]? = some x ∧ x.kind ≠ 5 := by
  unfold liveB at h
  cases ha : L[a]? with
  | none => rw [ha] at h; cases h
  | some x => rw [ha] at h; exact ⟨x, rfl, by simpa using h⟩
theorem live_of {a : Nat} {x : Nd} (h : L[a]? = some x) (h5 : x.kind ≠ 5) : liveB L a = true := by unfold liveB; rw [h]; simp [h5]
/-- An edge comes to a node that is no alias. -/
theorem TW.goes (h : TW L) {x : Nd} (hx : x ∈ L) {e : Ed} (he : e ∈ allE x) : ∃ (m : Nat) (y : Nd) (s : Int), L[m]? = some y ∧ y.kind ≠ 5 ∧ 0 ≤ s ∧ s ≤ 65000 ∧ resolveL L e = ((m : Int), s) ∧ placeL L x e = (m, if y.kind = 0 then 0 else y.prio + s - x.prio) := by
  obtain ⟨h0, h1, h2, h3⟩ := h.edge x hx e he
  obtain ⟨m, y, s, hy, h5, s0, s1, hr⟩ := h.root e.1 h0 h1
  have hre : resolveL L e = ((m : Int), s + e.2) := hr e.2 (by omega) (by omega)
  refine ⟨m, y, s + e.2, hy, h5, by omega, by omega, hre, ?_⟩
  unfold placeL
  rw [hre]
  simp only [Int.toNat_natCast, hy]
theorem TW.closed (h : TW L) (a j m : Nat) (r : Int) (hs : (scL L a)[j]? = some (m, r)) : liveB L m = true := by
  unfold scL at hs
  cases ha : L[a]? with
  | none => rw [ha] at hs; simp at hs
  | some x =>
    rw [ha] at hs
    dsimp only at hs
    rw [List.getElem?_map] at hs
    obtain ⟨e, he, hp⟩ := Option.map_eq_some_iff.1 hs
    obtain ⟨m', y, s, hy, h5, _, _, _, hpl⟩ := h.goes (List.mem_of_getElem? ha) (List.mem_of_getElem? he)
    rw [hpl] at hp
    simp only [Prod.mk.injEq] at hp
    rw [← hp.1]
    exact live_of hy h5
end
/-- Whether two nodes are told apart. -/
def apL (L : List Nd) (a b : Nat) : Bool := aptK (hdL L) (scL L) L.length a b
theorem apL_iff {L : List Nd} (h : TW L) {a b : Nat} (ha : liveB L a = true) (hb : liveB L b = true) : apL L a b = true ↔ Apt (hdL L) (scL L) a b :=
  aptK_full (D := liveB L) (hd_len L) (fun _ hi => live_lt hi) (fun a j m r _ hs => h.closed a j m r hs) ha hb
theorem apL_alike {L : List Nd} (D : Nat → Prop) : Alike (fun a b => apL L a b = false) D :=
  ⟨fun a _ => aptK_refl _ a, fun _ _ _ _ h => likeK_symm h, fun _ _ _ _ _ _ h1 h2 => likeK_trans (hd_len L) h1 h2⟩

/-! ### The table of classes -/
/-- The node that a type of node i comes to, and its priority, without an offset of the type. -/
def rootL (L : List Nd) (i : Nat) : Nat := (resolveL L ((i : Int), 0)).1.toNat
def prioL (L : List Nd) (i : Nat) : Int := match L[rootL L i]? with | some y => if y.kind = 0 then 0 else y.prio + (resolveL L ((i : Int), 0)).2 | none => 0
def rootsL (L : List Nd) : List Nat := (List.range L.length).map (rootL L)
def numL (L : List Nd) : List Nat × List Nat := clsL (apL L) (rootsL L)
/-- A link: the class of what an edge comes to, how far it rises. -/
def linkL (L : List Nd) (os : List Nat) (x : Nd) (e : Ed) : Ed := (((os.getD (placeL L x e).1 0 : Nat) : Int), (placeL L x e).2)
/-- What a class tells, of the node that is its first: its Kind, its Dual, IsChan, its links. -/
def clsN (L : List Nd) (n : Nat) (os : List Nat) (m : Nat) : Nd := match L[m]? with
  | some x => ⟨x.kind, ((os.getD ((m + n) % L.length) 0 : Nat) : Int), x.chan, if x.chan then linkL L os x x.pay else (0, 0), x.next.map (linkL L os x)⟩
  | none => ⟨0, 0, false, (0, 0), []⟩
structure ClsT where
  cls : List Nd
  of_ : List Int
  prio : List Int
def clsT (xs : List Nd) : ClsT := if (orderL xs).2 = 0 then
    ⟨(numL (twoL xs)).1.map (clsN (twoL xs) xs.length (numL (twoL xs)).2), (numL (twoL xs)).2.map Int.ofNat, (List.range (twoL xs).length).map (prioL (twoL xs))⟩
  else ⟨[], [], []⟩
end Go.Proofs.Ytmhbmeckdbdhpaa

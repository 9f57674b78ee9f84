/- Texts joined for the claim's sake: CCls, CTab. -/
import Derived.Test.YtmhbmeckdbdhpaaZSKnwRow2
import Derived.Test.YtmhbmeckdbdhpaaZSKnwRow11
import Derived.Test.YtmhbmeckdbdhpaaZSKnwRow1
import Derived.Test.YtmhbmeckdbdhpaaZSKnwRow4
namespace Go.Proofs.Ytmhbmeckdbdhpaa
open Go.RowKit

/-- What a table of nodes and their duals is good for. -/
structure TW (L : List Nd) : Prop where
  good : ∀ x ∈ L, (0 ≤ x.kind ∧ x.kind ≤ 5) ∧ (0 ≤ x.prio ∧ x.prio ≤ 1000) ∧ x.next.length ≤ 8
  edge : ∀ x ∈ L, ∀ e ∈ allE x, 0 ≤ e.1 ∧ e.1 < (L.length : Int) ∧ 0 ≤ e.2 ∧ e.2 ≤ 1000
  root : ∀ t : Int, 0 ≤ t → t < (L.length : Int) → ∃ (m : Nat) (y : Nd) (s : Int), L[m]? = some y ∧ y.kind ≠ 5 ∧ 0 ≤ s ∧ s ≤ 64000 ∧ ∀ o, -1000000000 ≤ o → o ≤ 1000000000 → resolveL L (t, o) = ((m : Int), s + o)
  self : ∀ (m : Nat) (y : Nd) (o : Int), L[m]? = some y → y.kind ≠ 5 → resolveL L ((m : Int), o) = ((m : Int), o)
theorem resolve_self {L : List Nd} {m : Nat} {y : Nd} (o : Int) (h : L[m]? = some y) (h5 : y.kind ≠ 5) : resolveL L ((m : Int), o) = ((m : Int), o) := by
  have hm := (List.getElem?_eq_some_iff.1 h).1
  have hn : nodeAt L (m : Int) = some y := nodeAt_nat.trans h
  have ha : isAl L ((m : Int), o) = false := by unfold isAl; rw [hn]; simp [h5]
  obtain ⟨n, hl⟩ : ∃ n, L.length = n + 1 := ⟨L.length - 1, by omega⟩
  unfold resolveL
  rw [hl]
  unfold wayL
  dsimp only
  rw [hn]
  dsimp only
  unfold pickL
  rw [ha]
  rfl
theorem tw_two {xs : List Nd} (hk : OKT xs) : TW (twoL xs) := by
  have part : ∀ x ∈ twoL xs, ∃ (u : Nat) (y : Nd), xs[u]? = some y ∧ (x = y ∨ x = dualN xs.length y) := fun x hx => by
    unfold twoL at hx
    rcases List.mem_append.1 hx with hx | hx
    · obtain ⟨u, hu⟩ := List.mem_iff_getElem?.1 hx
      exact ⟨u, x, hu, .inl rfl⟩
    · obtain ⟨y, hy, rfl⟩ := List.mem_map.1 hx
      obtain ⟨u, hu⟩ := List.mem_iff_getElem?.1 hy
      exact ⟨u, y, hu, .inr rfl⟩
  have h2 : ((twoL xs).length : Int) = 2 * (xs.length : Int) := by rw [twoL_len]; omega
  refine ⟨fun x hx => ?_, fun x hx e he => ?_, fun t h0 h1 => ?_, fun m y o hy h5 => resolve_self o hy h5⟩
  · obtain ⟨u, y, hu, rfl | rfl⟩ := part x hx
    · have := hk.end_ hu; exact ⟨this.1, this.2.1, this.2.2.1⟩
    · have := hk.end_ hu
      refine ⟨?_, this.2.1, by show (y.next.map _).length ≤ 8; rw [List.length_map]; exact this.2.2.1⟩
      have hd : (dualN xs.length y).kind = dualK y.kind := rfl
      rw [hd]
      unfold dualK
      repeat' split
      all_goals omega
  · obtain ⟨u, y, hu, rfl | rfl⟩ := part x hx
    · have := hk.edge hu he
      omega
    · unfold allE at he
      rcases List.mem_append.1 he with he | he
      · obtain ⟨f, hf, rfl⟩ := List.mem_map.1 he
        have := hk.edge hu (List.mem_append_left _ hf)
        simp only [upE]
        omega
      · have := hk.edge hu (e := e) (List.mem_append_right _ he)
        omega
  · by_cases ht : t < (xs.length : Int)
    · obtain ⟨m, y, d, hy, h5, d0, d1, _, hr⟩ := hk.goal h0 ht
      refine ⟨m, y, d, two_at hy, h5, d0, d1, fun o o0 o1 => ?_⟩
      have h3 := resolve_two hk (t := (t, o)) false h0 ht (by rw [hr o o0 o1]; show (0 : Int) ≤ (m : Int); omega)
      rw [hr o o0 o1] at h3
      exact h3
    · have ht0 : 0 ≤ t - (xs.length : Int) := by omega
      have ht1 : t - (xs.length : Int) < (xs.length : Int) := by omega
      obtain ⟨m, y, d, hy, h5, d0, d1, _, hr⟩ := hk.goal ht0 ht1
      refine ⟨xs.length + m, dualN xs.length y, d, two_up hy, fun e => h5 ((dualK_5 _).1 e), d0, d1, fun o o0 o1 => ?_⟩
      have h3 := resolve_two hk (t := (t - (xs.length : Int), o)) true ht0 ht1 (by rw [hr o o0 o1]; show (0 : Int) ≤ (m : Int); omega)
      rw [hr o o0 o1] at h3
      have e1 : upS xs.length true (t - (xs.length : Int), o) = (t, o) := by simp [upS, upE]
      have e2 : upS xs.length true ((m : Int), d + o) = (((xs.length + m : Nat) : Int), d + o) := by simp [upS, upE]; omega
      rw [e1, e2] at h3
      exact h3

def hdL (L : List Nd) (a : Nat) : Int × Bool × Nat := match L[a]? with | some x => (x.kind, x.chan, x.next.length) | none => (0, false, 0)
/-- What an edge of a node comes to, and how far it rises; 0, if that is an End. -/
def placeL (L : List Nd) (x : Nd) (e : Ed) : Nat × Int :=
  ((resolveL L e).1.toNat, match L[(resolveL L e).1.toNat]? with | some y => if y.kind = 0 then 0 else y.prio + (resolveL L e).2 - x.prio | none => 0)
def scL (L : List Nd) (a : Nat) : List (Nat × Int) := match L[a]? with | some x => (allE x).map (placeL L x) | none => []
def liveB (L : List Nd) (a : Nat) : Bool := match L[a]? with | some x => !decide (x.kind = 5) | none => false
theorem allE_len (x : Nd) : (allE x).length = x.next.length + (if x.chan then 1 else 0) := by unfold allE; split <;> simp [*]
theorem hd_len (L : List Nd) : HdLen (hdL L) (scL L) := by
  intro a b h
  unfold hdL at h
  unfold scL
  cases ha : L[a]? with
  | none =>
    cases hb : L[b]? with
    | none => rfl
    | some y =>
      rw [ha, hb] at h
      simp only [Prod.mk.injEq] at h
      dsimp only
      rw [List.length_map, allE_len, ← h.2.1, ← h.2.2]; rfl
  | some x =>
    cases hb : L[b]? with
    | none =>
      rw [ha, hb] at h
      simp only [Prod.mk.injEq] at h
      dsimp only
      rw [List.length_map, allE_len, h.2.1, h.2.2]; rfl
    | some y =>
      rw [ha, hb] at h
      simp only [Prod.mk.injEq] at h
      dsimp only
      rw [List.length_map, List.length_map, allE_len, allE_len, h.2.1, h.2.2]
section
variable {L : List Nd}
theorem live_lt {a : Nat} (h : liveB L a = true) : a < L.length := by
  unfold liveB at h
  cases ha : L[a]? with
  | none => rw [ha] at h; cases h
  | some x => exact (List.getElem?_eq_some_iff.1 ha).1
theorem live_some {a : Nat} (h : liveB L a = true) : ∃ x, L[a]? = some x ∧ x.kind ≠ 5 := by
  unfold liveB at h
  cases ha : L[a]? with
  | none => rw [ha] at h; cases h
  | some x => rw [ha] at h; exact ⟨x, rfl, by simpa using h⟩
theorem live_of {a : Nat} {x : Nd} (h : L[a]? = some x) (h5 : x.kind ≠ 5) : liveB L a = true := by unfold liveB; rw [h]; simp [h5]
/-- An edge comes to a node that is no alias. -/
theorem TW.goes (h : TW L) {x : Nd} (hx : x ∈ L) {e : Ed} (he : e ∈ allE x) : ∃ (m : Nat) (y : Nd) (s : Int), L[m]? = some y ∧ y.kind ≠ 5 ∧ 0 ≤ s ∧ s ≤ 65000 ∧ resolveL L e = ((m : Int), s) ∧ placeL L x e = (m, if y.kind = 0 then 0 else y.prio + s - x.prio) := by
  obtain ⟨h0, h1, h2, h3⟩ := h.edge x hx e he
  obtain ⟨m, y, s, hy, h5, s0, s1, hr⟩ := h.root e.1 h0 h1
  have hre : resolveL L e = ((m : Int), s + e.2) := hr e.2 (by omega) (by omega)
  refine ⟨m, y, s + e.2, hy, h5, by omega, by omega, hre, ?_⟩
  unfold placeL
  rw [hre]
  simp only [Int.toNat_natCast, hy]
theorem TW.closed (h : TW L) (a j m : Nat) (r : Int) (hs : (scL L a)[j]? = some (m, r)) : liveB L m = true := by
  unfold scL at hs
  cases ha : L[a]? with
  | none => rw [ha] at hs; simp at hs
  | some x =>
    rw [ha] at hs
    dsimp only at hs
    rw [List.getElem?_map] at hs
    obtain ⟨e, he, hp⟩ := Option.map_eq_some_iff.1 hs
    obtain ⟨m', y, s, hy, h5, _, _, _, hpl⟩ := h.goes (List.mem_of_getElem? ha) (List.mem_of_getElem? he)
    rw [hpl] at hp
    simp only [Prod.mk.injEq] at hp
    rw [← hp.1]
    exact live_of hy h5
end
/-- Whether two nodes are told apart. -/
def apL (L : List Nd) (a b : Nat) : Bool := aptK (hdL L) (scL L) L.length a b
theorem apL_iff {L : List Nd} (h : TW L) {a b : Nat} (ha : liveB L a = true) (hb : liveB L b = true) : apL L a b = true ↔ Apt (hdL L) (scL L) a b :=
  aptK_full (D := liveB L) (hd_len L) (fun _ hi => live_lt hi) (fun a j m r _ hs => h.closed a j m r hs) ha hb
theorem apL_alike {L : List Nd} (D : Nat → Prop) : Alike (fun a b => apL L a b = false) D :=
  ⟨fun a _ => aptK_refl _ a, fun _ _ _ _ h => likeK_symm h, fun _ _ _ _ _ _ h1 h2 => likeK_trans (hd_len L) h1 h2⟩

/-! ### The table of classes -/
/-- The node that a type of node i comes to, and its priority, without an offset of the type. -/
def rootL (L : List Nd) (i : Nat) : Nat := (resolveL L ((i : Int), 0)).1.toNat
def prioL (L : List Nd) (i : Nat) : Int := match L[rootL L i]? with | some y => if y.kind = 0 then 0 else y.prio + (resolveL L ((i : Int), 0)).2 | none => 0
def rootsL (L : List Nd) : List Nat := (List.range L.length).map (rootL L)
def numL (L : List Nd) : List Nat × List Nat := clsL (apL L) (rootsL L)
/-- A link: the class of what an edge comes to, how far it rises. -/
def linkL (L : List Nd) (os : List Nat) (x : Nd) (e : Ed) : Ed := (((os.getD (placeL L x e).1 0 : Nat) : Int), (placeL L x e).2)
/-- What a class tells, of the node that is its first: its Kind, its Dual, IsChan, its links. -/
def clsN (L : List Nd) (n : Nat) (os : List Nat) (m : Nat) : Nd := match L[m]? with
  | some x => ⟨x.kind, ((os.getD ((m + n) % L.length) 0 : Nat) : Int), x.chan, if x.chan then linkL L os x x.pay else (0, 0), x.next.map (linkL L os x)⟩
  | none => ⟨0, 0, false, (0, 0), []⟩
structure ClsT where
  cls : List Nd
  of_ : List Int
  prio : List Int
def clsT (xs : List Nd) : ClsT := if (orderL xs).2 = 0 then
    ⟨(numL (twoL xs)).1.map (clsN (twoL xs) xs.length (numL (twoL xs)).2), (numL (twoL xs)).2.map Int.ofNat, (List.range (twoL xs).length).map (prioL (twoL xs))⟩
  else ⟨[], [], []⟩
end Go.Proofs.Ytmhbmeckdbdhpaa

namespace Go.Proofs.Ytmhbmeckdbdhpaa
open Go.RowKit

/-- A slice that reads as a list of ints. -/
def Ints (W : World) (v : Value) (zs : List Int) : Prop := ∃ (A : Option Addr) (c : Nat), v = .slice A zs.length c ∧ zs.length ≤ 9223372036854775807 ∧ (zs ≠ [] → ∃ b off, A = some ⟨b, off, none⟩ ∧ ∀ (i : Nat) (z : Int), zs[i]? = some z → W.cell? ⟨b, off + i, none⟩ = some (.int .i64 z))
theorem Ints.keep {W W' : World} {v : Value} {zs : List Int} (h : Ints W v zs) (hk : Keeps W W') : Ints W' v zs := by
  obtain ⟨A, c, h1, hl, h2⟩ := h
  refine ⟨A, c, h1, hl, fun hn => ?_⟩
  obtain ⟨b, off, h3, h4⟩ := h2 hn
  exact ⟨b, off, h3, fun i z hz => hk _ _ (h4 i z hz)⟩
theorem Ints.nil_ (W : World) : Ints W (.slice none 0 0) [] := ⟨none, 0, rfl, by simp, fun h => absurd rfl h⟩
/-- A value that reads as a table of classes. -/
def TabV (W : World) (v : Value) (T : ClsT) : Prop := ∃ vc vo vp, v = .agg #[vc, vo, vp] ∧ Tbl W vc T.cls ∧ Ints W vo T.of_ ∧ Ints W vp T.prio
theorem TabV.keep {W W' : World} {v : Value} {T : ClsT} (h : TabV W v T) (hk : Keeps W W') : TabV W' v T := by
  obtain ⟨vc, vo, vp, h1, h2, h3, h4⟩ := h
  exact ⟨vc, vo, vp, h1, h2.keep hk, h3.keep hk, h4.keep hk⟩

/-! ### What is asked of a table of classes -/
def kindC (T : ClsT) (c : Int) : Int := match nodeAt T.cls c with | some x => x.kind | none => 0
def typeA (T : ClsT) (x : Ed) : Int × Int := if x.1 < 0 ∨ (T.of_.length : Int) ≤ x.1 then (-1, 0) else if kindC T (T.of_.getD x.1.toNat 0) = 0 then (T.of_.getD x.1.toNat 0, 0) else (T.of_.getD x.1.toNat 0, wrap64 (T.prio.getD x.1.toNat 0 + x.2))
/-- What a table of classes holds by itself: its numbers are classes. -/
structure Wf (T : ClsT) : Prop where
  len : T.prio.length = T.of_.length
  of_ : ∀ c ∈ T.of_, 0 ≤ c ∧ c < (T.cls.length : Int)
  next : ∀ x ∈ T.cls, ∀ e ∈ x.next, 0 ≤ e.1 ∧ e.1 < (T.cls.length : Int)
  pay : ∀ x ∈ T.cls, x.chan = true → 0 ≤ x.pay.1 ∧ x.pay.1 < (T.cls.length : Int)
  small : T.cls.length ≤ 1000000 ∧ T.of_.length ≤ 1000000 ∧ ∀ x ∈ T.cls, x.next.length ≤ 1000000
end Go.Proofs.Ytmhbmeckdbdhpaa

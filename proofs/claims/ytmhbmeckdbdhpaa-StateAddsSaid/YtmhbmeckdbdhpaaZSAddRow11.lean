/- Texts joined for the claim's sake: CTab, CRef. -/
import Derived.Test.YtmhbmeckdbdhpaaZSAddRow10
import Derived.Test.YtmhbmeckdbdhpaaZSAddRow0
import Derived.Test.YtmhbmeckdbdhpaaZSAddRow2
import Derived.Test.YtmhbmeckdbdhpaaZSAddRow7
import Derived.Deep.CutBlock
import Derived.Deep.CutRange
import Derived.Deep.QuietTactic
import Derived.BigQuiet
namespace Go.Proofs.Ytmhbmeckdbdhpaa
open Go.RowKit

/-- A slice that reads as a list of ints. -/
def Ints (W : World) (v : Value) (zs : List Int) : Prop := ∃ (A : Option Addr) (c : Nat), v = .slice A zs.length c ∧ zs.length ≤ 9223372036854775807 ∧ (zs ≠ [] → ∃ b off, A = some ⟨b, off, none⟩ ∧ ∀ (i : Nat) (z : Int), zs[i]? = some z → W.cell? ⟨b, off + i, none⟩ = some (.int .i64 z))
theorem Ints.keep {W W' : World} {v : Value} {zs : List Int} (h : Ints W v zs) (hk : Keeps W W') : Ints W' v zs := by
  obtain ⟨A, c, h1, hl, h2⟩ := h
  refine ⟨A, c, h1, hl, fun hn => ?_⟩
  obtain ⟨b, off, h3, h4⟩ := h2 hn
  exact ⟨b, off, h3, fun i z hz => hk _ _ (h4 i z hz)⟩
theorem Ints.nil_ (W : World) : Ints W (.slice none 0 0) [] := ⟨none, 0, rfl, by simp, fun h => absurd rfl h⟩
/-- A value that reads as a table of classes. -/
def TabV (W : World) (v : Value) (T : ClsT) : Prop := ∃ vc vo vp, v = .agg #[vc, vo, vp] ∧ Tbl W vc T.cls ∧ Ints W vo T.of_ ∧ Ints W vp T.prio
theorem TabV.keep {W W' : World} {v : Value} {T : ClsT} (h : TabV W v T) (hk : Keeps W W') : TabV W' v T := by
  obtain ⟨vc, vo, vp, h1, h2, h3, h4⟩ := h
  exact ⟨vc, vo, vp, h1, h2.keep hk, h3.keep hk, h4.keep hk⟩

/-! ### What is asked of a table of classes -/
def kindC (T : ClsT) (c : Int) : Int := match nodeAt T.cls c with | some x => x.kind | none => 0
def typeA (T : ClsT) (x : Ed) : Int × Int := if x.1 < 0 ∨ (T.of_.length : Int) ≤ x.1 then (-1, 0) else if kindC T (T.of_.getD x.1.toNat 0) = 0 then (T.of_.getD x.1.toNat 0, 0) else (T.of_.getD x.1.toNat 0, wrap64 (T.prio.getD x.1.toNat 0 + x.2))
/-- What a table of classes holds by itself: its numbers are classes. -/
structure Wf (T : ClsT) : Prop where
  len : T.prio.length = T.of_.length
  of_ : ∀ c ∈ T.of_, 0 ≤ c ∧ c < (T.cls.length : Int)
  next : ∀ x ∈ T.cls, ∀ e ∈ x.next, 0 ≤ e.1 ∧ e.1 < (T.cls.length : Int)
  pay : ∀ x ∈ T.cls, x.chan = true → 0 ≤ x.pay.1 ∧ x.pay.1 < (T.cls.length : Int)
  small : T.cls.length ≤ 1000000 ∧ T.of_.length ≤ 1000000 ∧ ∀ x ∈ T.cls, x.next.length ≤ 1000000
end Go.Proofs.Ytmhbmeckdbdhpaa

namespace Go.Proofs.Ytmhbmeckdbdhpaa
open Go.RowKit Go.Shelf

section
variable {W : World} {vc vo vp : Value} {T : ClsT}
/-- A class in memory. -/
theorem cls_at {A : Option Addr} {c : Nat} {xs : List Nd} (h : Tbl W (.slice A xs.length c) xs) {k : Nat} {x : Nd} (hx : xs[k]? = some x) : ∃ b off A2 c2, A = some ⟨b, off, none⟩ ∧ Edges W (.slice A2 x.next.length c2) x.next ∧
    W.cell? ⟨b, off + k * 6, none⟩ = some (.int .i64 x.kind) ∧ W.cell? ⟨b, off + k * 6 + 1, none⟩ = some (.int .i64 x.prio) ∧ W.cell? ⟨b, off + k * 6 + 2, none⟩ = some (.bool x.chan) ∧
    W.cell? ⟨b, off + k * 6 + 3, none⟩ = some (.int .i64 x.pay.1) ∧ W.cell? ⟨b, off + k * 6 + 4, none⟩ = some (.int .i64 x.pay.2) ∧ W.cell? ⟨b, off + k * 6 + 5, none⟩ = some (.slice A2 x.next.length c2) := by
  obtain ⟨A', c', hA, hcl⟩ := h
  have hk := (List.getElem?_eq_some_iff.1 hx).1
  obtain ⟨b, off, hb, hcl2⟩ := hcl (by intro e; rw [e] at hk; simp at hk)
  simp only [Value.slice.injEq, true_and] at hA
  obtain ⟨v, hE, m⟩ := hcl2 k x hx
  obtain ⟨A2, c2, rfl, _⟩ := id hE
  exact ⟨b, off, A2, c2, hA.1.trans hb, hE, m⟩
theorem ints_at {A : Option Addr} {c : Nat} {zs : List Int} (h : Ints W (.slice A zs.length c) zs) {k : Nat} {z : Int} (hz : zs[k]? = some z) : ∃ b off, A = some ⟨b, off, none⟩ ∧ W.cell? ⟨b, off + k, none⟩ = some (.int .i64 z) := by
  obtain ⟨A', c', hA, _, hcl⟩ := h
  have hk := (List.getElem?_eq_some_iff.1 hz).1
  obtain ⟨b, off, hb, hcl2⟩ := hcl (by intro e; rw [e] at hk; simp at hk)
  simp only [Value.slice.injEq, true_and] at hA
  exact ⟨b, off, hA.1.trans hb, hcl2 k z hz⟩
theorem kindC_at {c : Nat} {y : Nd} (hy : T.cls[c]? = some y) : kindC T (c : Int) = y.kind := by unfold kindC; rw [nodeAt_nat, hy]
end

end Go.Proofs.Ytmhbmeckdbdhpaa

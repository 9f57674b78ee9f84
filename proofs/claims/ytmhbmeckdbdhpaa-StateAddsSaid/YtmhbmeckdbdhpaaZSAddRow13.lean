/- Texts joined for the claim's sake: SFac, CCon. -/
import Derived.Test.YtmhbmeckdbdhpaaZSAddRow12
import Derived.Test.YtmhbmeckdbdhpaaZSAddRow11
import Derived.Test.YtmhbmeckdbdhpaaZSAddRow9
namespace Go.Proofs.Ytmhbmeckdbdhpaa
open Go.RowKit

/-- A slice that reads as a list of slots; its cells lie in a block of S. -/
def SlotsV (S : Nat → Prop) (W : World) (v : Value) (l : List Slt) : Prop := ∃ (A : Option Addr) (c : Nat), v = .slice A l.length c ∧ l.length ≤ 1000000000 ∧
  (l ≠ [] → ∃ b off, A = some ⟨b, off, none⟩ ∧ S b ∧ ∀ (j : Nat) (u : Value), (rgL l)[j]? = some u → W.cell? ⟨b, off + j, none⟩ = some u)
theorem SlotsV.keep {S : Nat → Prop} {W W' : World} {v : Value} {l : List Slt} (h : SlotsV S W v l) (hk : Keeps W W') : SlotsV S W' v l := by
  obtain ⟨A, c, h1, hl, h2⟩ := h
  refine ⟨A, c, h1, hl, fun hn => ?_⟩
  obtain ⟨b, off, h3, hs, h4⟩ := h2 hn
  exact ⟨b, off, h3, hs, fun j u hu => hk _ _ (h4 j u hu)⟩
theorem SlotsV.weak {S S' : Nat → Prop} {W : World} {v : Value} {l : List Slt} (h : SlotsV S W v l) (hS : ∀ b, b < W.heap.size → S b → S' b) : SlotsV S' W v l := by
  obtain ⟨A, c, h1, hl, h2⟩ := h
  refine ⟨A, c, h1, hl, fun hn => ?_⟩
  obtain ⟨b, off, h3, hs, h4⟩ := h2 hn
  refine ⟨b, off, h3, hS b ?_ hs, h4⟩
  cases l with
  | nil => exact absurd rfl hn
  | cons x l => exact cell_lt (h4 0 (.int .i64 x.kind) rfl)
/-- They stay where another block is turned. -/
theorem SlotsV.row {S : Nat → Prop} {W W' : World} {v : Value} {l : List Slt} {row : Option Nat} (h : SlotsV S W v l) (hg : W.grownBy W' row) (hr : ∀ g, row = some g → ¬ S g) : SlotsV S W' v l := by
  obtain ⟨A, c, h1, hl, h2⟩ := h
  refine ⟨A, c, h1, hl, fun hn => ?_⟩
  obtain ⟨b, off, h3, hs, h4⟩ := h2 hn
  refine ⟨b, off, h3, hs, fun j u hu => ?_⟩
  have h5 := h4 j u hu
  rw [World.cell?_of_block (hg.block b (cell_lt h5) (fun e => hr b e.symm hs))]
  exact h5
theorem SlotsV.nil_ (S : Nat → Prop) (W : World) : SlotsV S W (.slice none 0 0) [] := ⟨none, 0, rfl, by simp, fun h => absurd rfl h⟩
/-- A slice that reads as a list of lists of slots. -/
def ParsV (W : World) (v : Value) (ps : List (List Slt)) : Prop := ∃ (A : Option Addr) (c : Nat), v = .slice A ps.length c ∧ ps.length ≤ 1000000000 ∧
  (ps ≠ [] → ∃ b off, A = some ⟨b, off, none⟩ ∧ ∀ (i : Nat) (l : List Slt), ps[i]? = some l → ∃ u, W.cell? ⟨b, off + i, none⟩ = some u ∧ SlotsV (fun _ => True) W u l)
theorem ParsV.keep {W W' : World} {v : Value} {ps : List (List Slt)} (h : ParsV W v ps) (hk : Keeps W W') : ParsV W' v ps := by
  obtain ⟨A, c, h1, hl, h2⟩ := h
  refine ⟨A, c, h1, hl, fun hn => ?_⟩
  obtain ⟨b, off, h3, h4⟩ := h2 hn
  refine ⟨b, off, h3, fun i l hi => ?_⟩
  obtain ⟨u, h5, h6⟩ := h4 i l hi
  exact ⟨u, hk _ _ h5, h6.keep hk⟩
theorem ParsV.nil_ (W : World) : ParsV W (.slice none 0 0) [] := ⟨none, 0, rfl, by simp, fun h => absurd rfl h⟩
/-- Facts. -/
def FacV (W : World) (v : Value) (T : ClsT) (ps : List (List Slt)) : Prop := ∃ vc vo vp vq, v = .agg #[vc, vo, vp, vq] ∧ TabV W (.agg #[vc, vo, vp]) T ∧ ParsV W vq ps
theorem FacV.keep {W W' : World} {v : Value} {T : ClsT} {ps : List (List Slt)} (h : FacV W v T ps) (hk : Keeps W W') : FacV W' v T ps := by
  obtain ⟨vc, vo, vp, vq, h1, h2, h3⟩ := h
  exact ⟨vc, vo, vp, vq, h1, h2.keep hk, h3.keep hk⟩
/-- Its classes. -/
theorem FacV.tbl {W : World} {vc vo vp vq : Value} {T : ClsT} {ps : List (List Slt)} (h : FacV W (.agg #[vc, vo, vp, vq]) T ps) : Tbl W vc T.cls := by
  obtain ⟨_, _, _, _, e, ⟨_, _, _, e2, h2, _⟩, _⟩ := h
  simp only [Value.agg.injEq, Array.mk.injEq, List.cons.injEq, and_true] at e e2
  rw [e.1, e2.1]
  exact h2
theorem FacV.pars {W : World} {vc vo vp vq : Value} {T : ClsT} {ps : List (List Slt)} (h : FacV W (.agg #[vc, vo, vp, vq]) T ps) : ParsV W vq ps := by
  obtain ⟨_, _, _, _, e, _, h3⟩ := h
  simp only [Value.agg.injEq, Array.mk.injEq, List.cons.injEq, and_true] at e
  rw [e.2.2.2]
  exact h3

/-! ### Templates, as far as they count -/
abbrev prC (p : Prm) : Array Value := #[.bool p.chan, .int .i64 p.ty.1, .int .i64 p.ty.2]
def Prm.Fit (p : Prm) : Prop := -9223372036854775808 ≤ p.ty.1 ∧ p.ty.1 ≤ 9223372036854775807
def PrmsV (W : World) (v : Value) (l : List Prm) : Prop := ∃ (A : Option Addr) (c : Nat), v = .slice A l.length c ∧ l.length ≤ c ∧ c ≤ 9223372036854775807 ∧
  (l ≠ [] → ∃ b off, A = some ⟨b, off, none⟩ ∧ ∀ (i : Nat) (p : Prm), l[i]? = some p → p.Fit ∧ W.cell? ⟨b, off + i * 3, none⟩ = some (.bool p.chan) ∧ W.cell? ⟨b, off + i * 3 + 1, none⟩ = some (.int .i64 p.ty.1) ∧ W.cell? ⟨b, off + i * 3 + 2, none⟩ = some (.int .i64 p.ty.2))
theorem PrmsV.keep {W W' : World} {v : Value} {l : List Prm} (h : PrmsV W v l) (hk : Keeps W W') : PrmsV W' v l := by
  obtain ⟨A, c, h1, hl, hc, h2⟩ := h
  refine ⟨A, c, h1, hl, hc, fun hn => ?_⟩
  obtain ⟨b, off, h3, h4⟩ := h2 hn
  exact ⟨b, off, h3, fun i p hi => ⟨(h4 i p hi).1, hk _ _ (h4 i p hi).2.1, hk _ _ (h4 i p hi).2.2.1, hk _ _ (h4 i p hi).2.2.2⟩⟩
theorem PrmsV.at_ {W : World} {A : Option Addr} {n c : Nat} {l : List Prm} (h : PrmsV W (.slice A n c) l) {i : Nat} {p : Prm} (hi : l[i]? = some p) : ∃ b off, A = some ⟨b, off, none⟩ ∧ p.Fit ∧ W.cell? ⟨b, off + i * 3, none⟩ = some (.bool p.chan) ∧ W.cell? ⟨b, off + i * 3 + 1, none⟩ = some (.int .i64 p.ty.1) ∧ W.cell? ⟨b, off + i * 3 + 2, none⟩ = some (.int .i64 p.ty.2) := by
  obtain ⟨A', c', e, _, _, h2⟩ := h
  injection e with e1 _ _
  subst e1
  obtain ⟨b, off, h3, h4⟩ := h2 (by intro e; rw [e] at hi; simp at hi)
  exact ⟨b, off, h3, h4 i p hi⟩
theorem PrmsV.take {W : World} {A : Option Addr} {c m : Nat} {l : List Prm} (h : PrmsV W (.slice A l.length c) l) (hm : m ≤ l.length) : PrmsV W (.slice A m c) (l.take m) := by
  obtain ⟨A', c', e, hl, hc, h2⟩ := h
  injection e with e1 _ e3
  subst e1
  subst e3
  refine ⟨A, c, by rw [List.length_take, Nat.min_eq_left hm], by rw [List.length_take]; omega, hc, fun hn => ?_⟩
  obtain ⟨b, off, h3, h4⟩ := h2 (by intro e; rw [e] at hn; simp at hn)
  refine ⟨b, off, h3, fun i p hi => h4 i p ?_⟩
  rw [List.getElem?_take] at hi
  split at hi
  · exact hi
  · cases hi
def TplsV (W : World) (v : Value) (ts : List (List Prm)) : Prop := ∃ (A : Option Addr) (c : Nat), v = .slice A ts.length c ∧ ts.length ≤ c ∧ c ≤ 9223372036854775807 ∧
  (ts ≠ [] → ∃ b off, A = some ⟨b, off, none⟩ ∧ ∀ (i : Nat) (l : List Prm), ts[i]? = some l → ∃ pv C nc cc D nd cd, PrmsV W pv l ∧ W.cell? ⟨b, off + i * 3, none⟩ = some pv ∧ W.cell? ⟨b, off + i * 3 + 1, none⟩ = some (.slice C nc cc) ∧ W.cell? ⟨b, off + i * 3 + 2, none⟩ = some (.slice D nd cd))
theorem TplsV.keep {W W' : World} {v : Value} {ts : List (List Prm)} (h : TplsV W v ts) (hk : Keeps W W') : TplsV W' v ts := by
  obtain ⟨A, c, h1, hl, hc, h2⟩ := h
  refine ⟨A, c, h1, hl, hc, fun hn => ?_⟩
  obtain ⟨b, off, h3, h4⟩ := h2 hn
  refine ⟨b, off, h3, fun i l hi => ?_⟩
  obtain ⟨pv, C, nc, cc, D, nd, cd, h5, h6, h7, h8⟩ := h4 i l hi
  exact ⟨pv, C, nc, cc, D, nd, cd, h5.keep hk, hk _ _ h6, hk _ _ h7, hk _ _ h8⟩
theorem TplsV.at_ {W : World} {A : Option Addr} {n c : Nat} {ts : List (List Prm)} (h : TplsV W (.slice A n c) ts) {i : Nat} {l : List Prm} (hi : ts[i]? = some l) : ∃ b off pv C nc cc D nd cd, A = some ⟨b, off, none⟩ ∧ PrmsV W pv l ∧ W.cell? ⟨b, off + i * 3, none⟩ = some pv ∧ W.cell? ⟨b, off + i * 3 + 1, none⟩ = some (.slice C nc cc) ∧ W.cell? ⟨b, off + i * 3 + 2, none⟩ = some (.slice D nd cd) := by
  obtain ⟨A', c', e, _, _, h2⟩ := h
  injection e with e1 _ _
  subst e1
  obtain ⟨b, off, h3, h4⟩ := h2 (by intro e; rw [e] at hi; simp at hi)
  obtain ⟨pv, C, nc, cc, D, nd, cd, h5⟩ := h4 i l hi
  exact ⟨b, off, pv, C, nc, cc, D, nd, cd, h3, h5⟩
theorem ParsV.at_ {W : World} {A : Option Addr} {n c : Nat} {ps : List (List Slt)} (h : ParsV W (.slice A n c) ps) {i : Nat} {l : List Slt} (hi : ps[i]? = some l) : ∃ b off u, A = some ⟨b, off, none⟩ ∧ W.cell? ⟨b, off + i, none⟩ = some u ∧ SlotsV (fun _ => True) W u l := by
  obtain ⟨A', c', e, _, h2⟩ := h
  injection e with e1 _ _
  subst e1
  obtain ⟨b, off, h3, h4⟩ := h2 (by intro e; rw [e] at hi; simp at hi)
  obtain ⟨u, h5, h6⟩ := h4 i l hi
  exact ⟨b, off, u, h3, h5, h6⟩
end Go.Proofs.Ytmhbmeckdbdhpaa

namespace Go.Proofs.Ytmhbmeckdbdhpaa
open Go.RowKit

def OfC : Prop := ∀ (xs : List Nd) (v : Value) (w : World), Tbl w v xs → xs.length ≤ 1000 → Calls Try.prog 22 #[v] w fun e w' => (∃ tv, e = .returned (.tuple #[tv, .int .i64 (orderL xs).2]) ∧ TabV w' tv (clsT xs)) ∧ w.grownBy w' none
def TypeC : Prop := ∀ (T : ClsT) (tv : Value) (x : Ed) (w : World), Wf T → TabV w tv T → -9223372036854775808 ≤ x.1 → x.1 ≤ 9223372036854775807 → Calls Try.prog 35 #[tv, edV x] w fun e w' => e = .returned (pairV (typeA T x)) ∧ w.grownBy w' none
end Go.Proofs.Ytmhbmeckdbdhpaa

/- Texts joined for the claim's sake: CRef, CPla. -/
import Derived.Test.YtmhbmeckdbdhpaaZSKnwRow12
import Derived.Test.YtmhbmeckdbdhpaaZSKnwRow8
import Derived.Deep.CutBlock
import Derived.Deep.CutRange
import Derived.Deep.QuietTactic
import Derived.BigQuiet
import Derived.Test.YtmhbmeckdbdhpaaZSKnwRow7
namespace Go.Proofs.Ytmhbmeckdbdhpaa
open Go.RowKit Go.Shelf

section
variable {W : World} {vc vo vp : Value} {T : ClsT}
/-- A class in memory. -/
theorem cls_at {A : Option Addr} {c : Nat} {xs : List Nd} (h : Tbl W (.slice A xs.length c) xs) {k : Nat} {x : Nd} (hx : xs[k]? = some x) : ∃ b off A2 c2, A = some ⟨b, off, none⟩ ∧ Edges W (.slice A2 x.next.length c2) x.next ∧
    W.cell? ⟨b, off + k * 6, none⟩ = some (.int .i64 x.kind) ∧ W.cell? ⟨b, off + k * 6 + 1, none⟩ = some (.int .i64 x.prio) ∧ W.cell? ⟨b, off + k * 6 + 2, none⟩ = some (.bool x.chan) ∧
    W.cell? ⟨b, off + k * 6 + 3, none⟩ = some (.int .i64 x.pay.1) ∧ W.cell? ⟨b, off + k * 6 + 4, none⟩ = some (.int .i64 x.pay.2) ∧ W.cell? ⟨b, off + k * 6 + 5, none⟩ = some (.slice A2 x.next.length c2) := by
  obtain ⟨A', c', hA, hcl⟩ := h
  have hk := (List.getElem?_eq_some_iff.1 hx).1
  obtain ⟨b, off, hb, hcl2⟩ := hcl (by intro e; rw [e] at hk; simp at hk)
  simp only [Value.slice.injEq, true_and] at hA
  obtain ⟨v, hE, m⟩ := hcl2 k x hx
  obtain ⟨A2, c2, rfl, _⟩ := id hE
  exact ⟨b, off, A2, c2, hA.1.trans hb, hE, m⟩
theorem ints_at {A : Option Addr} {c : Nat} {zs : List Int} (h : Ints W (.slice A zs.length c) zs) {k : Nat} {z : Int} (hz : zs[k]? = some z) : ∃ b off, A = some ⟨b, off, none⟩ ∧ W.cell? ⟨b, off + k, none⟩ = some (.int .i64 z) := by
  obtain ⟨A', c', hA, _, hcl⟩ := h
  have hk := (List.getElem?_eq_some_iff.1 hz).1
  obtain ⟨b, off, hb, hcl2⟩ := hcl (by intro e; rw [e] at hk; simp at hk)
  simp only [Value.slice.injEq, true_and] at hA
  exact ⟨b, off, hA.1.trans hb, hcl2 k z hz⟩
theorem kindC_at {c : Nat} {y : Nd} (hy : T.cls[c]? = some y) : kindC T (c : Int) = y.kind := by unfold kindC; rw [nodeAt_nat, hy]
end

end Go.Proofs.Ytmhbmeckdbdhpaa

namespace Go.Proofs.Ytmhbmeckdbdhpaa
open Go.RowKit Go.Shelf

end Go.Proofs.Ytmhbmeckdbdhpaa

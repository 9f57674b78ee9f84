/- BlocksTalk. -/
import Derived.Test.YtgdoklbcmgkllaaBCod
namespace Go.Proofs.Ytgdoklbcmgkllaa
open Go.RowKit

/-- A list of bytes in memory. -/
def U8A (W : World) (v : Value) (bs : List Nat) : Prop := ∃ (A : Option Addr) (c : Nat), v = .slice A bs.length c ∧ bs.length ≤ 9223372036854775807 ∧ (∀ z ∈ bs, z < 256) ∧ (bs ≠ [] → ∃ b off, A = some ⟨b, off, none⟩ ∧ ∀ (i : Nat) (z : Nat), bs[i]? = some z → W.cell? ⟨b, off + i, none⟩ = some (.int .u8 (z : Int)))
theorem U8A.at_ {W W' : World} {A : Option Addr} {n c : Nat} {bs : List Nat} (h : U8A W (.slice A n c) bs) (hg : W.grownBy W' none) {i z : Nat} (hz : bs[i]? = some z) : ∃ b off, A = some ⟨b, off, none⟩ ∧ W'.cell? ⟨b, off + i, none⟩ = some (.int .u8 (z : Int)) ∧ z < 256 := by
  obtain ⟨A', c', e, _, h2, h3⟩ := h
  injection e with e1 e2 e3
  subst e1
  obtain ⟨b, off, h4, h5⟩ := h3 (by intro e; rw [e] at hz; simp at hz)
  exact ⟨b, off, h4, cell_row (h5 i z hz) hg (fun e => by cases e), h2 z (List.mem_of_getElem? hz)⟩
theorem BOwn.at_ {base : Nat} {W : World} {A : Option Addr} {n c : Nat} {zs : List Int} (h : BOwn base W (.slice A n c) zs) {i : Nat} {z : Int} (hz : zs[i]? = some z) : ∃ b off, A = some ⟨b, off, none⟩ ∧ W.cell? ⟨b, off + i, none⟩ = some (.int .i64 z) := IB.at_ h.ib hz
theorem flow_slices {W : World} {fv : Value} {f : List Nat × List (List Nat)} (h : FlowA W fv f) : ∃ A1 n1 c1 A2 n2 c2, fv = .agg #[.slice A1 n1 c1, .slice A2 n2 c2] ∧ n1 = f.1.length ∧ n2 = f.2.length ∧ IB W (.slice A1 n1 c1) (intsN f.1) ∧ NX W (.slice A2 n2 c2) (f.2.map intsN) := by
  obtain ⟨sv, nv, rfl, hs, hn⟩ := h
  obtain ⟨A1, c1, rfl, h1⟩ := hs.slice (n := f.1.length) (by simp [intsN])
  obtain ⟨A2, c2, rfl, h2⟩ := hn.slice (n := f.2.length) (by simp)
  exact ⟨A1, _, c1, A2, _, c2, rfl, rfl, rfl, h1, h2⟩
end Go.Proofs.Ytgdoklbcmgkllaa

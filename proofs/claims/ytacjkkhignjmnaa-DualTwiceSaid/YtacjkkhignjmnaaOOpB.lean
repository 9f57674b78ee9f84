/- For the rows: a list of bytes that was handed in. -/
import Derived.Test.YtacjkkhignjmnaaGOpen
import Derived.OpenShut
namespace Go.Proofs.Ytacjkkhignjmnaa
open Go.ChangeShapes Go.WideShapes Go.RowKit Go.Deep

/-- A slice value that reads as a list of bytes. -/
def BytesA (w : World) (v : Value) (bs : List Int) : Prop := ∃ (A : Option Addr) (c : Nat), v = .slice A bs.length c ∧ bs.length ≤ 9223372036854775807 ∧ (∀ x ∈ bs, 0 ≤ x ∧ x ≤ 255) ∧
  (bs ≠ [] → ∃ b off, A = some ⟨b, off, none⟩ ∧ ∀ i x, bs[i]? = some x → w.cell? ⟨b, off + i, none⟩ = some (.int .u8 x))
theorem BytesA.keep {w w' : World} {v : Value} {bs : List Int} (h : BytesA w v bs) (hk : Keeps w w') : BytesA w' v bs := by
  obtain ⟨A, c, h1, hl, h2, h3⟩ := h
  refine ⟨A, c, h1, hl, h2, fun hn => ?_⟩
  obtain ⟨b, off, h4, h5⟩ := h3 hn
  exact ⟨b, off, h4, fun i x hx => hk _ _ (h5 i x hx)⟩
theorem cells_u8_ : Try.prog.cellsOf 5 = 1 := by kernel_rfl
theorem bytes_of {H : Type} {enc : TypeId × Value → H} {W : World} {fuel : Nat} {x : DataW H × List MemPlace} {A0 : Option Addr} {n0 c0 : Nat} (h : DataW.trod enc Try.prog W 0 (fun _ => true) true fuel 38 [.slice A0 n0 c0] = some x) :
    ∃ bs : List Int, n0 = bs.length ∧ BytesA W (.slice A0 n0 c0) bs := by
  rcases open_ints Try.underlying38 Try.underlying5 cells_u8_ h with ⟨hcs, _⟩ | ⟨a, len, cap, zs, hcs, _, hl, hcm, hz, _, hcell, hwf⟩
  · simp only [List.cons.injEq, and_true, Value.slice.injEq] at hcs
    obtain ⟨rfl, rfl, rfl⟩ := hcs
    exact ⟨[], rfl, none, 0, rfl, by simp, (fun x hx => by cases hx), fun hn => absurd rfl hn⟩
  · simp only [List.cons.injEq, and_true, Value.slice.injEq] at hcs
    obtain ⟨rfl, rfl, rfl⟩ := hcs
    rw [if_pos rfl] at hz
    have hlen : (zs.take n0).length = n0 := by rw [List.length_take]; omega
    obtain ⟨b, off, spot⟩ := a
    refine ⟨zs.take n0, hlen.symm, some ⟨b, off, spot⟩, c0, by rw [hlen], by rw [hlen]; unfold maxLen at hcm; omega, fun x hx => bounds_u8 (hwf x (List.mem_of_mem_take hx)), fun hn => ?_⟩
    have h0 : 0 < n0 := by
      rcases Nat.eq_zero_or_pos n0 with e | e
      · subst e; simp at hn
      · exact e
    have hspot : spot = none := by simpa [Addr.add] using World.cell?_spot (hcell 0 (by omega))
    subst hspot
    refine ⟨b, off, rfl, fun i x hx => ?_⟩
    rw [List.getElem?_take] at hx
    split at hx
    · have hi : i < zs.length := (List.getElem?_eq_some_iff.1 hx).1
      have := hcell i hi
      rw [add_plain] at this
      rw [this]
      rw [List.getD_eq_getElem?_getD, hx]
      rfl
    · cases hx
end Go.Proofs.Ytacjkkhignjmnaa

/- For rows over an array of three texts: what is handed in is three texts. -/
import Derived.Test.YtjjfofifooailaaDoorRowKit
import Derived.OpenShut
import Derived.Lib.SmallJoins
import Derived.Laws.IdiomArrays
namespace Go.Proofs.YtjjfofifooailaaDoor
open Go.ChangeShapes Go.WideShapes Go.RowKit

theorem cells_str3 : Tryd.prog.cellsOf 22 = 3 := by kernel_rfl
theorem cells_str : Tryd.prog.cellsOf 9 = 1 := by kernel_rfl
theorem array_three {cs : Array Value} (h : cs.size = 3) : ∃ c0 c1 c2, cs = #[c0, c1, c2] := by
  obtain ⟨l⟩ := cs
  match l, h with
  | [c0, c1, c2], _ => exact ⟨c0, c1, c2, rfl⟩
set_option maxRecDepth 100000 in
theorem open_str3 {H : Type} {enc : TypeId × Value → H} {W : World} {r : Reach} {b0 base : Nat} {sp : Nat → Bool} {held : Bool} {v : Value} {d : DataW H} {p : List MemPlace}
    (hv : Value.okWide Tryd.prog W r b0 22 v) (h : DataW.Trod enc Tryd.prog W base sp held 22 v d p) : ∃ s1 s2 s3 : ByteArray, v = .agg #[.string s1, .string s2, .string s3] := by
  simp only [Value.okWide, Tryd.underlying22] at hv
  obtain ⟨cs, rfl, hs, _⟩ := hv
  obtain ⟨c0, c1, c2, rfl⟩ := array_three (hs.trans cells_str3)
  obtain ⟨fuel, hf⟩ := h
  obtain ⟨y0, y1, y2, n, _, h0, h1, h2⟩ := trod_array3 (c0 := c0) (c1 := c1) (c2 := c2) Tryd.underlying22 cells_str (by simpa [Value.cells] using hf)
  obtain ⟨s1, e1, _⟩ := DataW.trod_string Tryd.underlying9 h0
  obtain ⟨s2, e2, _⟩ := DataW.trod_string Tryd.underlying9 h1
  obtain ⟨s3, e3, _⟩ := DataW.trod_string Tryd.underlying9 h2
  simp only [List.cons.injEq, and_true] at e1 e2 e3
  exact ⟨s1, s2, s3, by rw [e1, e2, e3]⟩
end Go.Proofs.YtjjfofifooailaaDoor

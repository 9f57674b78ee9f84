/- For the rows: a list of four bytes each, and two bytes, that were handed in. -/
import Derived.Test.YthjkgjkiikomdaaGOpen
import Derived.Test.YthjkgjkiikomdaaGMade
import Derived.Laws.IdiomArrays
namespace Go.Proofs.Ythjkgjkiikomdaa
open Go.ChangeShapes Go.WideShapes Go.RowKit Go.Deep

theorem cells_quad : Try.prog.cellsOf 53 = 4 := by kernel_rfl
theorem cells_pair : Try.prog.cellsOf 42 = 2 := by kernel_rfl
theorem cells_u8 : Try.prog.cellsOf 5 = 1 := by kernel_rfl
section
variable {H : Type} {enc : TypeId × Value → H} {W : World} {fuel : Nat} {x : DataW H × List MemPlace}
theorem byte_of {sp : Nat → Bool} {base : Nat} {held : Bool} {v : Value} {y : DataW H × List MemPlace} (h : DataW.trod enc Try.prog W base sp held fuel 5 [v] = some y) : ∃ n : Int, v = .int .u8 n ∧ 0 ≤ n ∧ n < 256 := by
  obtain ⟨z, hz, _, hw⟩ := DataW.trod_int Try.underlying5 h
  simp only [List.cons.injEq, and_true] at hz
  have := bounds_u8 hw
  exact ⟨z, hz, this.1, by omega⟩
theorem quad_of {cs : List Value} (hl : cs.length = 4) (h : DataW.trod enc Try.prog W 0 (fun _ => true) true fuel 53 cs = some x) : ∃ q : Qd, cs = (qCells q).toList ∧ q.ok := by
  match cs, hl with
  | [c0, c1, c2, c3], _ =>
    obtain ⟨y0, y1, y2, y3, n, _, h0, h1, h2, h3⟩ := trod_array4 Try.underlying53 cells_u8 h
    obtain ⟨a, rfl, a0, a1⟩ := byte_of h0
    obtain ⟨b, rfl, b0, b1⟩ := byte_of h1
    obtain ⟨c, rfl, c0, c1⟩ := byte_of h2
    obtain ⟨d, rfl, d0, d1⟩ := byte_of h3
    exact ⟨⟨a, b, c, d⟩, rfl, ⟨a0, a1⟩, ⟨b0, b1⟩, ⟨c0, c1⟩, ⟨d0, d1⟩⟩
theorem quads_of {A0 : Option Addr} {n0 c0 : Nat} (h : DataW.trod enc Try.prog W 0 (fun _ => true) true fuel 38 [.slice A0 n0 c0] = some x) : ∃ qs : List Qd, n0 = qs.length ∧ Quads W (.slice A0 n0 c0) qs := by
  rcases open_slice Try.underlying38 h with ⟨hcs, _⟩ | ⟨a, len, cap, m, n, D, Pl, hcs, _, hl, hc, hm, _, hall⟩
  · simp only [List.cons.injEq, and_true, Value.slice.injEq] at hcs
    obtain ⟨rfl, rfl, rfl⟩ := hcs
    exact ⟨[], rfl, none, 0, rfl, by simp, fun h => absurd rfl h⟩
  · simp only [List.cons.injEq, and_true, Value.slice.injEq] at hcs
    obtain ⟨rfl, rfl, rfl⟩ := hcs
    rw [if_pos rfl] at hm
    obtain ⟨b, off, spot⟩ := a
    have each : ∀ i, i < n0 → ∃ q : Qd, q.ok ∧ ∀ j u, (qCells q).toList[j]? = some u → W.cell? (((⟨b, off, spot⟩ : Addr).add (i * 4)).add j) = some u := fun i hi => by
      obtain ⟨cs', h1, h2⟩ := hall i (by omega)
      rw [cells_quad] at h1
      obtain ⟨_, hlen, hcell⟩ := World.cells?_some h1
      obtain ⟨q, rfl, hq⟩ := quad_of hlen h2
      refine ⟨q, hq, fun j u hu => ?_⟩
      obtain ⟨hj, rfl⟩ := List.getElem?_eq_some_iff.1 hu
      rw [hcell j (by simpa using hj), List.getElem?_eq_getElem]
    have : Inhabited Qd := ⟨⟨0, 0, 0, 0⟩⟩
    obtain ⟨f, hf⟩ := choose_lt each
    refine ⟨(List.range n0).map f, by simp, some ⟨b, off, spot⟩, c0, by simp, fun q hq => ?_, fun hn => ?_⟩
    · obtain ⟨i, hi, rfl⟩ := List.mem_map.1 hq
      exact (hf i (List.mem_range.1 hi)).1
    have h0 : 0 < n0 := by
      rcases Nat.eq_zero_or_pos n0 with e | e
      · subst e; simp at hn
      · exact e
    have hspot : spot = none := by
      have hv := (hf 0 h0).2
      simpa [Addr.add] using World.cell?_spot (hv 0 _ rfl)
    subst hspot
    refine ⟨b, off, rfl, fun i x he => ?_⟩
    rw [List.getElem?_map] at he
    rcases Nat.lt_or_ge i n0 with hi | hi
    · rw [List.getElem?_range hi] at he
      simp only [Option.map_some, Option.some.injEq] at he
      subst he
      have hv := (hf i hi).2
      have e : ∀ j, ((⟨b, off, none⟩ : Addr).add (i * 4)).add j = ⟨b, off + i * 4 + j, none⟩ := fun j => by rw [add_plain, add_plain]
      have c := fun j u hu => (e j) ▸ hv j u hu
      exact ⟨c 0 _ rfl, c 1 _ rfl, c 2 _ rfl, c 3 _ rfl⟩
    · rw [List.getElem?_eq_none (by simpa using hi)] at he
      simp at he
theorem array_two {cs : Array Value} (h : cs.size = 2) : ∃ c0 c1, cs = #[c0, c1] := by
  obtain ⟨l⟩ := cs
  match l, h with
  | [c0, c1], _ => exact ⟨c0, c1, rfl⟩
set_option maxRecDepth 100000 in
theorem open_two {r : Reach} {b0 base : Nat} {sp : Nat → Bool} {held : Bool} {v : Value} {d : DataW H} {p : List MemPlace}
    (hv : Value.okWide Try.prog W r b0 42 v) (h : DataW.Trod enc Try.prog W base sp held 42 v d p) : ∃ a b : Int, v = .agg #[.int .u8 a, .int .u8 b] ∧ (0 ≤ a ∧ a < 256) ∧ 0 ≤ b ∧ b < 256 := by
  simp only [Value.okWide, Try.underlying42] at hv
  obtain ⟨cs, rfl, hs, _⟩ := hv
  obtain ⟨c0, c1, rfl⟩ := array_two (hs.trans cells_pair)
  obtain ⟨fuel, hf⟩ := h
  obtain ⟨xs, m, _, _, _, hxl, hall⟩ := DataW.trod_array Try.underlying42 (by simpa [Value.cells] using hf)
  match xs, hxl with
  | [y0, y1], _ =>
    have h0 : DataW.trod enc Try.prog W base sp held m 5 [c0] = some y0 := by simpa [cells_u8] using hall 0 (by decide)
    have h1 : DataW.trod enc Try.prog W base sp held m 5 [c1] = some y1 := by simpa [cells_u8] using hall 1 (by decide)
    obtain ⟨a, rfl, a0, a1⟩ := byte_of h0
    obtain ⟨b, rfl, b0, b1⟩ := byte_of h1
    exact ⟨a, b, rfl, ⟨a0, a1⟩, b0, b1⟩
end
end Go.Proofs.Ythjkgjkiikomdaa

/- For the rows: rows, bytes that were handed in. -/
import Derived.Test.YtgdoklbcmgkllaaBTlk
import Derived.Test.YtgdoklbcmgkllaaIOpn
import Derived.OpenShut
import Derived.Laws.IdiomArrays
namespace Go.Proofs.Ytgdoklbcmgkllaa
open Go.ChangeShapes Go.WideShapes Go.RowKit Go.Deep

theorem prog_own : ownKnob Try.prog.godebug = none := by kernel_rfl
theorem prog_laidOut : laidOutB Try.prog = true := by kernel_rfl
theorem prog_size : Try.prog.types.size = 81 := by kernel_rfl
theorem cells_u8B : Try.prog.cellsOf 5 = 1 := by kernel_rfl
theorem cells_3u8 : Try.prog.cellsOf 39 = 3 := by kernel_rfl
theorem cells_row : Try.prog.cellsOf 41 = 5 := by kernel_rfl
section
variable {H : Type} {enc : TypeId × Value → H} {W : World} {fuel : Nat} {x : DataW H × List MemPlace}
theorem byteB_of {v : Value} {y : DataW H × List MemPlace} (h : DataW.trod enc Try.prog W 0 (fun _ => true) true fuel 5 [v] = some y) : ∃ n : Nat, v = .int .u8 (n : Int) ∧ n < 256 := by
  obtain ⟨z, hz, _, hw⟩ := DataW.trod_int Try.underlying5 h
  simp only [List.cons.injEq, and_true] at hz
  have := bounds_u8 hw
  exact ⟨z.toNat, by rw [hz]; congr 1; omega, by omega⟩
theorem arr3_of {cs : List Value} (hl : cs.length = 3) (h : DataW.trod enc Try.prog W 0 (fun _ => true) true fuel 39 cs = some x) : ∃ a b c : Nat, cs = [.int .u8 (a : Int), .int .u8 (b : Int), .int .u8 (c : Int)] ∧ a < 256 ∧ b < 256 ∧ c < 256 := by
  match cs, hl with
  | [c0, c1, c2], _ =>
    obtain ⟨y0, y1, y2, n, _, h0, h1, h2⟩ := trod_array3 Try.underlying39 cells_u8B h
    obtain ⟨a, rfl, a1⟩ := byteB_of h0
    obtain ⟨b, rfl, b1⟩ := byteB_of h1
    obtain ⟨c, rfl, c1⟩ := byteB_of h2
    exact ⟨a, b, c, rfl, a1, b1, c1⟩
theorem rowB_of {cs : List Value} (hl : cs.length = 5) (h : DataW.trod enc Try.prog W 0 (fun _ => true) true fuel 41 cs = some x) : ∃ r : Rw, cs = r.cells.toList ∧ r.ok := by
  obtain ⟨ys, n, _, _, _, hyl, hf⟩ := DataW.trod_struct Try.underlying41 h
  match cs, hl with
  | [c0, c1, c2, c3, c4], _ =>
    match ys, hyl with
    | [y0, y1, y2], _ =>
      have g0 : DataW.trod enc Try.prog W 0 (fun _ => true) true n 5 [c0] = some y0 := by simpa [cells_u8B] using hf 0 _ rfl
      have g1 : DataW.trod enc Try.prog W 0 (fun _ => true) true n 5 [c1] = some y1 := by simpa [cells_u8B] using hf 1 _ rfl
      have g2 : DataW.trod enc Try.prog W 0 (fun _ => true) true n 39 [c2, c3, c4] = some y2 := by simpa [cells_u8B, cells_3u8] using hf 2 _ rfl
      obtain ⟨a, rfl, ha⟩ := byteB_of g0
      obtain ⟨b, rfl, hb⟩ := byteB_of g1
      obtain ⟨c, d, e, h3, hc, hd, he⟩ := arr3_of rfl g2
      simp only [List.cons.injEq, and_true] at h3
      obtain ⟨rfl, rfl, rfl⟩ := h3
      exact ⟨⟨a, b, c, d, e⟩, rfl, ⟨ha, hb, hc, hd, he⟩⟩
instance : Inhabited Rw := ⟨⟨0, 0, 0, 0, 0⟩⟩
theorem rows_of {A0 : Option Addr} {n0 c0 : Nat} (h : DataW.trod enc Try.prog W 0 (fun _ => true) true fuel 23 [.slice A0 n0 c0] = some x) : ∃ rs : List Rw, n0 = rs.length ∧ RowsA W (.slice A0 n0 c0) rs := by
  rcases open_slice Try.underlying23 h with ⟨hcs, _⟩ | ⟨a, len, cap, m, n, D, Pl, hcs, _, hl, hc, hm, _, hall⟩
  · simp only [List.cons.injEq, and_true, Value.slice.injEq] at hcs
    obtain ⟨rfl, rfl, rfl⟩ := hcs
    exact ⟨[], rfl, none, 0, rfl, by simp, by simp, fun h => absurd rfl h⟩
  · simp only [List.cons.injEq, and_true, Value.slice.injEq] at hcs
    obtain ⟨rfl, rfl, rfl⟩ := hcs
    rw [if_pos rfl] at hm
    obtain ⟨b, off, spot⟩ := a
    have each : ∀ i, i < n0 → ∃ r : Rw, r.ok ∧ ∀ j u, r.cells[j]? = some u → W.cell? (((⟨b, off, spot⟩ : Addr).add (i * 5)).add j) = some u := fun i hi => by
      obtain ⟨cs', h1, h2⟩ := hall i (by omega)
      rw [cells_row] at h1
      obtain ⟨_, hlen, hcell⟩ := World.cells?_some h1
      obtain ⟨r, rfl, h3⟩ := rowB_of hlen h2
      refine ⟨r, h3, fun j u hu => ?_⟩
      have hu' : r.cells.toList[j]? = some u := by rw [Array.getElem?_toList]; exact hu
      obtain ⟨hj, rfl⟩ := List.getElem?_eq_some_iff.1 hu'
      rw [hcell j (show j < 5 from hj), List.getElem?_eq_getElem]
    obtain ⟨f, hf⟩ := choose_lt each
    refine ⟨(List.range n0).map f, by simp, some ⟨b, off, spot⟩, c0, by simp, by simpa using hl, by unfold maxLen at hc; omega, fun hn => ?_⟩
    have h0 : 0 < n0 := by
      rcases Nat.eq_zero_or_pos n0 with e | e
      · subst e; simp at hn
      · exact e
    have hspot : spot = none := by simpa [Addr.add] using World.cell?_spot ((hf 0 h0).2 0 _ rfl)
    subst hspot
    refine ⟨b, off, rfl, fun i r he => ?_⟩
    rw [List.getElem?_map] at he
    rcases Nat.lt_or_ge i n0 with hi | hi
    · rw [List.getElem?_range hi] at he
      simp only [Option.map_some, Option.some.injEq] at he
      subst he
      obtain ⟨h4, h5⟩ := hf i hi
      refine ⟨h4, fun j u hu => ?_⟩
      have := h5 j u hu
      rw [add_plain, add_plain] at this
      exact this
    · rw [List.getElem?_eq_none (by simpa using hi)] at he
      simp at he
end
end Go.Proofs.Ytgdoklbcmgkllaa

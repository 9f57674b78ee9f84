/- For the rows: an instruction that was handed in, and a list of such. -/
import Derived.ProofKit
import Derived.RowKit
import Derived.ChangeSame
import Derived.Test.YtgdoklbcmgkllaaIMm
import Derived.OpenShut
import Derived.Deep.SlicePairs
import Derived.Deep.Slices
import Derived.Deep.Fields
import Derived.Lib.SmallJoins
namespace Go.Proofs.Ytgdoklbcmgkllaa
open Go.ChangeShapes Go.WideShapes Go.RowKit Go.Deep

theorem cells_i : Try.prog.cellsOf 3 = 1 := by kernel_rfl
theorem cells_i64 : Try.prog.cellsOf 2 = 1 := by kernel_rfl
theorem cells_is : Try.prog.cellsOf 24 = 1 := by kernel_rfl
theorem cells_insn : Try.prog.cellsOf 43 = 6 := by kernel_rfl
/-- A slice whose row lies in memory that is there, with its room. -/
def IntsR (W : World) (v : Value) (zs : List Int) : Prop := IntsA (fun b => b < W.heap.size) W v zs ∧ ∃ A c, v = .slice A zs.length c ∧ zs.length ≤ c ∧ c ≤ 9223372036854775807
section
variable {H : Type} {enc : TypeId × Value → H} {W : World} {sp : Nat → Bool} {fuel : Nat} {x : DataW H × List MemPlace}
theorem ints_of (hsp : ∀ b, sp b = true) {v : Value} (h : DataW.trod enc Try.prog W 0 sp true fuel 24 [v] = some x) : ∃ zs : List Int, IntsR W v zs := by
  rcases open_ints Try.underlying24 Try.underlying3 cells_i h with ⟨hcs, _⟩ | ⟨a, len, cap, zs, hcs, _, hl, hcm, hz, _, hcell, hwf⟩
  · simp only [List.cons.injEq, and_true] at hcs
    subst hcs
    exact ⟨[], ⟨none, 0, rfl, fun hn => absurd rfl hn⟩, none, 0, rfl, by simp, by simp⟩
  · simp only [List.cons.injEq, and_true] at hcs
    subst hcs
    rw [hsp, if_pos rfl] at hz
    have hlen : (zs.take len).length = len := by rw [List.length_take]; omega
    obtain ⟨b, off, spot⟩ := a
    refine ⟨zs.take len, ⟨some ⟨b, off, spot⟩, cap, by rw [hlen], fun hn => ?_⟩, some ⟨b, off, spot⟩, cap, by rw [hlen], by rw [hlen]; exact hl, by unfold maxLen at hcm; omega⟩
    have h0 : 0 < len := by
      rcases Nat.eq_zero_or_pos len with e | e
      · subst e; simp at hn
      · exact e
    have hspot : spot = none := by simpa [Addr.add] using World.cell?_spot (hcell 0 (by omega))
    subst hspot
    have hc : ∀ (i : Nat) (z : Int), (zs.take len)[i]? = some z → W.cell? ⟨b, off + i, none⟩ = some (.int .i64 z) := fun i x hx => by
      rw [List.getElem?_take] at hx
      split at hx
      · have hi : i < zs.length := (List.getElem?_eq_some_iff.1 hx).1
        have := hcell i hi
        rw [add_plain] at this
        rw [this]
        rw [List.getD_eq_getElem?_getD, hx]
        rfl
      · cases hx
    refine ⟨b, off, rfl, ?_, hc⟩
    have h6 := hc 0 _ (List.getElem?_eq_getElem (by rw [hlen]; exact h0))
    show b < W.heap.size
    rcases Nat.lt_or_ge b W.heap.size with hl | hl
    · exact hl
    · unfold World.cell? at h6
      rw [Array.getElem?_eq_none hl] at h6
      simp at h6
set_option maxRecDepth 100000 in
theorem insn_of (hsp : ∀ b, sp b = true) {cs : List Value} (hl : cs.length = 6) (h : DataW.trod enc Try.prog W 0 sp true fuel 43 cs = some x) :
    ∃ (op : Int) (s : Sg), cs = (s.cells op).toList ∧ IntsR W s.lv s.l ∧ Whole s.a := by
  obtain ⟨ys, n, _, _, _, hyl, hf⟩ := DataW.trod_struct Try.underlying43 h
  match cs, hl with
  | [c0, c1, c2, c3, c4, c5], _ =>
    match ys, hyl with
    | [y0, y1, y2, y3, y4, y5], _ =>
      have g0 : DataW.trod enc Try.prog W 0 sp true n 3 [c0] = some y0 := by simpa [cells_i, cells_i64] using hf 0 _ rfl
      have g1 : DataW.trod enc Try.prog W 0 sp true n 2 [c1] = some y1 := by simpa [cells_i, cells_i64] using hf 1 _ rfl
      have g2 : DataW.trod enc Try.prog W 0 sp true n 3 [c2] = some y2 := by simpa [cells_i, cells_i64] using hf 2 _ rfl
      have g3 : DataW.trod enc Try.prog W 0 sp true n 3 [c3] = some y3 := by simpa [cells_i, cells_i64] using hf 3 _ rfl
      have g4 : DataW.trod enc Try.prog W 0 sp true n 3 [c4] = some y4 := by simpa [cells_i, cells_i64] using hf 4 _ rfl
      have g5 : DataW.trod enc Try.prog W 0 sp true n 24 [c5] = some y5 := by simpa [cells_i, cells_i64, cells_is] using hf 5 _ rfl
      obtain ⟨z0, e0, _, _⟩ := DataW.trod_int Try.underlying3 g0
      obtain ⟨z1, e1, w1, _⟩ := DataW.trod_int Try.underlying2 g1
      obtain ⟨z2, e2, _, _⟩ := DataW.trod_int Try.underlying3 g2
      obtain ⟨z3, e3, _, _⟩ := DataW.trod_int Try.underlying3 g3
      obtain ⟨z4, e4, _, _⟩ := DataW.trod_int Try.underlying3 g4
      obtain ⟨zs, hzs⟩ := ints_of hsp g5
      simp only [List.cons.injEq, and_true] at e0 e1 e2 e3 e4
      subst e0 e1 e2 e3 e4
      exact ⟨z0, ⟨z1, z2, z3, z4, c5, zs⟩, rfl, hzs, bounds_i64 (by first | exact w1 | assumption)⟩
set_option maxRecDepth 100000 in
theorem open_insn {r : Reach} {b0 : Nat} {v : Value} {d : DataW H} {p : List MemPlace} (hv : Value.okWide Try.prog W r b0 43 v) (h : DataW.Trod enc Try.prog W 0 (fun _ => true) true 43 v d p) :
    ∃ (op : Int) (s : Sg), v = .agg (s.cells op) ∧ IntsR W s.lv s.l ∧ Whole s.a := by
  simp only [Value.okWide, Try.underlying43] at hv
  obtain ⟨cs, rfl, hs, _⟩ := hv
  obtain ⟨fuel, hf⟩ := h
  have hf' : DataW.trod enc Try.prog W 0 (fun _ => true) true fuel 43 cs.toList = some (d, p) := by simpa [Value.cells] using hf
  obtain ⟨op, s, e, h1, h2⟩ := insn_of (fun _ => rfl) (by rw [Array.length_toList, hs, cells_insn]) hf'
  refine ⟨op, s, ?_, h1, h2⟩
  have : cs = s.cells op := by
    apply Array.toList_inj.1
    exact e
  rw [this]
/-- A list of instructions that was handed in. -/
def InsA (W : World) (v : Value) (xs : List (Int × Sg)) : Prop := ∃ (A : Option Addr) (c : Nat), v = .slice A xs.length c ∧ xs.length ≤ 9223372036854775807 ∧
  (xs ≠ [] → ∃ b off, A = some ⟨b, off, none⟩ ∧ b < W.heap.size ∧ ∀ (i : Nat) (y : Int × Sg), xs[i]? = some y → IntsR W y.2.lv y.2.l ∧ Whole y.2.a ∧ ∀ (j : Nat) (u : Value), (y.2.cells y.1)[j]? = some u → W.cell? ⟨b, off + i * 6 + j, none⟩ = some u)
instance : Inhabited (Int × Sg) := ⟨(0, ⟨0, 0, 0, 0, .slice none 0 0, []⟩)⟩
set_option maxRecDepth 100000 in
theorem insns_of {A0 : Option Addr} {n0 c0 : Nat} (h : DataW.trod enc Try.prog W 0 (fun _ => true) true fuel 22 [.slice A0 n0 c0] = some x) : ∃ xs : List (Int × Sg), n0 = xs.length ∧ InsA W (.slice A0 n0 c0) xs := by
  rcases open_slice Try.underlying22 h with ⟨hcs, _⟩ | ⟨a, len, cap, m, n, D, Pl, hcs, _, hl, hc, hm, _, hall⟩
  · simp only [List.cons.injEq, and_true, Value.slice.injEq] at hcs
    obtain ⟨rfl, rfl, rfl⟩ := hcs
    exact ⟨[], rfl, none, 0, rfl, by simp, fun h => absurd rfl h⟩
  · simp only [List.cons.injEq, and_true, Value.slice.injEq] at hcs
    obtain ⟨rfl, rfl, rfl⟩ := hcs
    rw [if_pos rfl] at hm
    obtain ⟨b, off, spot⟩ := a
    have each : ∀ i, i < n0 → ∃ y : Int × Sg, IntsR W y.2.lv y.2.l ∧ Whole y.2.a ∧ ∀ j u, (y.2.cells y.1)[j]? = some u → W.cell? (((⟨b, off, spot⟩ : Addr).add (i * 6)).add j) = some u := fun i hi => by
      obtain ⟨cs', h1, h2⟩ := hall i (by omega)
      rw [cells_insn] at h1
      obtain ⟨_, hlen, hcell⟩ := World.cells?_some h1
      obtain ⟨op, s, rfl, h3, h4⟩ := insn_of (fun _ => rfl) hlen h2
      refine ⟨(op, s), h3, h4, fun j u hu => ?_⟩
      have hu' : (s.cells op).toList[j]? = some u := by rw [Array.getElem?_toList]; exact hu
      obtain ⟨hj, rfl⟩ := List.getElem?_eq_some_iff.1 hu'
      rw [hcell j (show j < 6 from hj), List.getElem?_eq_getElem]
    obtain ⟨f, hf⟩ := choose_lt each
    refine ⟨(List.range n0).map f, by simp, some ⟨b, off, spot⟩, c0, by simp, by simp; unfold maxLen at hc; omega, fun hn => ?_⟩
    have h0 : 0 < n0 := by
      rcases Nat.eq_zero_or_pos n0 with e | e
      · subst e; simp at hn
      · exact e
    have hspot : spot = none := by simpa [Addr.add] using World.cell?_spot ((hf 0 h0).2.2 0 _ rfl)
    subst hspot
    have hat : ∀ (i : Nat) (y : Int × Sg), ((List.range n0).map f)[i]? = some y → IntsR W y.2.lv y.2.l ∧ Whole y.2.a ∧ ∀ (j : Nat) (u : Value), (y.2.cells y.1)[j]? = some u → W.cell? ⟨b, off + i * 6 + j, none⟩ = some u := fun i x he => by
      rw [List.getElem?_map] at he
      rcases Nat.lt_or_ge i n0 with hi | hi
      · rw [List.getElem?_range hi] at he
        simp only [Option.map_some, Option.some.injEq] at he
        subst he
        obtain ⟨h3, h4, h5⟩ := hf i hi
        refine ⟨h3, h4, fun j u hu => ?_⟩
        have := h5 j u hu
        rw [add_plain, add_plain] at this
        exact this
      · rw [List.getElem?_eq_none (by simpa using hi)] at he
        simp at he
    refine ⟨b, off, rfl, ?_, hat⟩
    have h6 := (hat 0 _ (by rw [List.getElem?_map, List.getElem?_range h0]; rfl)).2.2 0 _ rfl
    rcases Nat.lt_or_ge b W.heap.size with hl | hl
    · exact hl
    · unfold World.cell? at h6
      rw [Array.getElem?_eq_none hl] at h6
      simp at h6
end
end Go.Proofs.Ytgdoklbcmgkllaa

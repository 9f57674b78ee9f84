/- For the rows: a list of nodes that was handed in reads as a table. -/
import Derived.Test.YtoklaajiajilhaaDoorRows
import Derived.Test.YtoklaajiajilhaaDoorGTab
import Derived.ChangeSame
import Derived.ChangeVars
import Derived.JoinedOf
import Derived.RowKit
import Derived.OpenShut
import Derived.Deep.SlicePairs
import Derived.Deep.Slices
import Derived.Deep.Fields
import Derived.Lib.SmallJoins
namespace Go.Proofs.YtoklaajiajilhaaDoor
open Go.ChangeShapes Go.WideShapes Go.RowKit Go.Deep

theorem prog_own : ownKnob Tryd.prog.godebug = none := by kernel_rfl
theorem prog_laidOut : laidOutB Tryd.prog = true := by kernel_rfl
theorem prog_size : Tryd.prog.types.size = 115 := by kernel_rfl
theorem cells_edge : Tryd.prog.cellsOf 36 = 2 := by kernel_rfl
theorem cells_node : Tryd.prog.cellsOf 39 = 6 := by kernel_rfl
theorem cells_int : Tryd.prog.cellsOf 3 = 1 := by kernel_rfl
theorem cells_bool : Tryd.prog.cellsOf 4 = 1 := by kernel_rfl
theorem cells_edges : Tryd.prog.cellsOf 37 = 1 := by kernel_rfl
instance : Inhabited Nd := ⟨⟨0, 0, false, (0, 0), []⟩⟩

section
variable {H : Type} {enc : TypeId × Value → H} {W : World} {sp : Nat → Bool} {fuel : Nat} {x : DataW H × List MemPlace}
theorem int_of {v : Value} {y : DataW H × List MemPlace} (h : DataW.trod enc Tryd.prog W 0 sp true fuel 3 [v] = some y) : v = .int .i64 (intOf v) := by
  obtain ⟨z, hz, _, _⟩ := DataW.trod_int Tryd.underlying3 h
  simp only [List.cons.injEq, and_true] at hz
  subst hz
  rfl
theorem edges_of (hsp : ∀ b, sp b = true) {v : Value} (h : DataW.trod enc Tryd.prog W 0 sp true fuel 37 [v] = some x) : ∃ es, Edges W v es := by
  rcases open_slice_pairs Tryd.underlying37 Tryd.underlying36 cells_edge rfl rfl cells_int cells_int h with ⟨hcs, _⟩ | ⟨a, len, cap, m, f, V0, V1, D0, D1, P0, P1, hcs, _, hl, hc, hm, _, hall⟩
  · simp only [List.cons.injEq, and_true] at hcs
    exact ⟨[], by rw [hcs]; exact Edges.nil_ W⟩
  · simp only [List.cons.injEq, and_true] at hcs
    rw [hsp, if_pos rfl] at hm
    obtain ⟨b, off, spot⟩ := a
    refine ⟨(List.range len).map fun i => (intOf (V0 i), intOf (V1 i)), some ⟨b, off, spot⟩, cap, by rw [hcs]; simp, by simp; unfold maxLen at hc; omega, fun hn => ?_⟩
    have h0 : 0 < len := by
      rcases Nat.eq_zero_or_pos len with e | e
      · subst e; simp at hn
      · exact e
    have hspot : spot = none := by simpa [Addr.add] using World.cell?_spot (hall 0 (by omega)).1
    subst hspot
    refine ⟨b, off, rfl, fun i e he => ?_⟩
    rw [List.getElem?_map] at he
    rcases Nat.lt_or_ge i len with hi | hi
    · rw [List.getElem?_range hi] at he
      simp only [Option.map_some, Option.some.injEq] at he
      subst he
      obtain ⟨hc0, hc1, ht0, ht1⟩ := hall i (by omega)
      rw [add_plain] at hc0 hc1
      exact ⟨by rw [hc0, ← int_of ht0], by rw [← Nat.add_assoc] at hc1; rw [hc1, ← int_of ht1]⟩
    · rw [List.getElem?_eq_none (by simpa using hi)] at he
      simp at he
set_option maxRecDepth 100000 in
theorem node_of (hsp : ∀ b, sp b = true) {cs : List Value} (hl : cs.length = 6) (h : DataW.trod enc Tryd.prog W 0 sp true fuel 39 cs = some x) :
    ∃ (nd : Nd) (v : Value), cs = [.int .i64 nd.kind, .int .i64 nd.prio, .bool nd.chan, .int .i64 nd.pay.1, .int .i64 nd.pay.2, v] ∧ Edges W v nd.next := by
  obtain ⟨ys, n, _, _, _, hyl, hf⟩ := DataW.trod_struct Tryd.underlying39 h
  match cs, hl with
  | [c0, c1, c2, c3, c4, c5], _ =>
    match ys, hyl with
    | [y0, y1, y2, y3, y4], _ =>
      have g0 : DataW.trod enc Tryd.prog W 0 sp true n 3 [c0] = some y0 := by simpa [cells_int] using hf 0 _ rfl
      have g1 : DataW.trod enc Tryd.prog W 0 sp true n 3 [c1] = some y1 := by simpa [cells_int] using hf 1 _ rfl
      have g2 : DataW.trod enc Tryd.prog W 0 sp true n 4 [c2] = some y2 := by simpa [cells_bool] using hf 2 _ rfl
      have g3 : DataW.trod enc Tryd.prog W 0 sp true n 36 [c3, c4] = some y3 := by simpa [cells_edge] using hf 3 _ rfl
      have g4 : DataW.trod enc Tryd.prog W 0 sp true n 37 [c5] = some y4 := by simpa [cells_edges] using hf 4 _ rfl
      obtain ⟨zs, n2, _, _, _, hzl, hz⟩ := DataW.trod_struct Tryd.underlying36 g3
      match zs, hzl with
      | [z0, z1], _ =>
        have k0 : DataW.trod enc Tryd.prog W 0 sp true n2 3 [c3] = some z0 := by simpa [cells_int] using hz 0 _ rfl
        have k1 : DataW.trod enc Tryd.prog W 0 sp true n2 3 [c4] = some z1 := by simpa [cells_int] using hz 1 _ rfl
        obtain ⟨es, hes⟩ := edges_of hsp g4
        obtain ⟨b, hb, _⟩ := DataW.trod_bool Tryd.underlying4 g2
        simp only [List.cons.injEq, and_true] at hb
        refine ⟨⟨intOf c0, intOf c1, b, (intOf c3, intOf c4), es⟩, c5, ?_, hes⟩
        rw [← int_of g0, ← int_of g1, ← int_of k0, ← int_of k1, hb]
/-- The argument itself. -/
theorem table_of {A0 : Option Addr} {n0 c0 : Nat} (h : DataW.trod enc Tryd.prog W 0 (fun _ => true) true fuel 22 [.slice A0 n0 c0] = some x) : ∃ xs : List Nd, n0 = xs.length ∧ Tbl W (.slice A0 n0 c0) xs ∧ n0 ≤ c0 ∧ c0 ≤ 9223372036854775807 := by
  rcases open_slice Tryd.underlying22 h with ⟨hcs, _⟩ | ⟨a, len, cap, m, n, D, Pl, hcs, _, hl, hc, hm, _, hall⟩
  · simp only [List.cons.injEq, and_true, Value.slice.injEq] at hcs
    obtain ⟨rfl, rfl, rfl⟩ := hcs
    exact ⟨[], rfl, Tbl.nil_ W, by simp, by simp⟩
  · simp only [List.cons.injEq, and_true, Value.slice.injEq] at hcs
    obtain ⟨rfl, rfl, rfl⟩ := hcs
    rw [if_pos rfl] at hm
    obtain ⟨b, off, spot⟩ := a
    have each : ∀ i, i < n0 → ∃ nd : Nd, ∃ v, (∀ j u, [Value.int .i64 nd.kind, Value.int .i64 nd.prio, Value.bool nd.chan, Value.int .i64 nd.pay.1, Value.int .i64 nd.pay.2, v][j]? = some u → W.cell? (((⟨b, off, spot⟩ : Addr).add (i * 6)).add j) = some u) ∧ Edges W v nd.next := fun i hi => by
      obtain ⟨cs', h1, h2⟩ := hall i (by omega)
      rw [cells_node] at h1
      obtain ⟨_, hlen, hcell⟩ := World.cells?_some h1
      obtain ⟨nd, v, rfl, hE⟩ := node_of (fun _ => rfl) hlen h2
      refine ⟨nd, v, fun j u hu => ?_, hE⟩
      obtain ⟨hj, rfl⟩ := List.getElem?_eq_some_iff.1 hu
      rw [hcell j (by simpa using hj), List.getElem?_eq_getElem]
    obtain ⟨f, hf⟩ := choose_lt each
    refine ⟨(List.range n0).map f, by simp, ⟨some ⟨b, off, spot⟩, c0, by simp, fun hn => ?_⟩, hl, by unfold maxLen at hc; omega⟩
    have h0 : 0 < n0 := by
      rcases Nat.eq_zero_or_pos n0 with e | e
      · subst e; simp at hn
      · exact e
    have hspot : spot = none := by
      obtain ⟨v, hv, _⟩ := hf 0 h0
      simpa [Addr.add] using World.cell?_spot (hv 0 _ rfl)
    subst hspot
    refine ⟨b, off, rfl, fun i x he => ?_⟩
    rw [List.getElem?_map] at he
    rcases Nat.lt_or_ge i n0 with hi | hi
    · rw [List.getElem?_range hi] at he
      simp only [Option.map_some, Option.some.injEq] at he
      subst he
      obtain ⟨v, hv, hE⟩ := hf i hi
      have e : ∀ j, ((⟨b, off, none⟩ : Addr).add (i * 6)).add j = ⟨b, off + i * 6 + j, none⟩ := fun j => by rw [add_plain, add_plain]
      have c := fun j u hu => (e j) ▸ hv j u hu
      exact ⟨v, hE, c 0 _ rfl, c 1 _ rfl, c 2 _ rfl, c 3 _ rfl, c 4 _ rfl, c 5 _ rfl⟩
    · rw [List.getElem?_eq_none (by simpa using hi)] at he
      simp at he
end
end Go.Proofs.YtoklaajiajilhaaDoor

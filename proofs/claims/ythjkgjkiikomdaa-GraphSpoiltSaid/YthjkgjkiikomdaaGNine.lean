/- append of nine zero edges to a row that is owned; and a node of an owned table that is turned. -/
import Derived.Test.YthjkgjkiikomdaaGMadA
import Derived.Lib.AppendZeros
import Derived.Lib.AppendZerosOnto
import Derived.Laws.OwnMore
namespace Go.Proofs.Ythjkgjkiikomdaa
open Go.RowKit

abbrev nineL : List Ed := List.replicate 9 (0, 0)
theorem nine_cells : (Builtin.zeroCells (Value.agg #[.int .i64 0, .int .i64 0]).cells 9).toList = edAll nineL := by kernel_rfl
theorem nine_arr : Builtin.zeroCells (Value.agg #[.int .i64 0, .int .i64 0]).cells 9 = (edAll nineL).toArray := by rw [← nine_cells]

/-- append of make where there is room. -/
theorem run_append_room_zeros {P : Program} (w w2 : World) (t tn ty e : TypeId) (i : TypeInfo) (z : Value) (k kn : IntKind) (ht : P.underlying t = some (.slice e)) (htn : P.underlying tn = some (.int kn)) (hi : P.info? e = some i) (hz : i.zero = some z)
    (a : Addr) (sLen sCap n : Nat) (h0 : 0 < n) (hs : 0 < i.size) (h63 : (n : Int) ≤ 9223372036854775807) (h48 : n * i.bytes ≤ 281474976710656) (hroom : sLen + n ≤ sCap)
    (hst : (storeCells (a.add (sLen * i.size)) (Builtin.zeroCells z.cells n).toList).run P w = .ok () w2) :
    (Builtin.append_ #[t, tn] ty #[.slice (some a) sLen sCap, .int k n]).run P w = .ok (.slice (some a) (sLen + n) sCap) w2 := by
  have hn : n ≠ 0 := by omega
  have hw : IntKind.i64.wrap (n : Int) = n := by rw [IntKind.wrap_i64]; omega
  have h48i : ¬ (281474976710656 < (n : Int) * (i.bytes : Int)) := by
    rw [← Int.natCast_mul]
    omega
  have hneg : ¬ ((n : Int) < 0) := by omega
  have hns : ¬ (n * i.size = 0) := Nat.mul_ne_zero hn (by omega)
  simp [Builtin.append_, run_underlying ht, run_underlying htn, sizeOf, typeInfo, zeroValue, hi, hz, asInt, asIntOf, hw, hneg, hns, h48i, hroom, hst]
theorem edge_fits {n c : Nat} (h : c < n) (hn : n ≤ 2000) : Builtin.nextslicecap n c * 16 ≤ 281474976710656 := growslice_fits h (by omega)
/-- Nine zero edges, appended to a row that is owned. -/
theorem run_append_nine (ty : TypeId) (W : World) {base : Nat} {v : Value} {es : List Ed} (h : EOwn base W v es) (hl : es.length ≤ 1000) (hbase : base ≤ W.heap.size) :
    ∃ v' W', (Builtin.append_ #[33, 3] ty #[v, .int .i64 9]).run Try.prog W = .ok v' W' ∧ EOwn base W' v' (es ++ nineL) ∧ W.grownBy W' v.ownBlock ∧ ∀ b, v'.ownBlock = some b → v.ownBlock = some b ∨ W.heap.size ≤ b := by
  obtain ⟨i, hi, hz, hs, hb⟩ := info_parts edge_info
  have hlen : (edAll (es ++ nineL)).length = (es ++ nineL).length * 2 := edAll_len _
  have hln : (es ++ nineL).length = es.length + 9 := by simp
  have hea : edAll (es ++ nineL) = edAll es ++ edAll nineL := by simp [edAll]
  have hel : (edAll es).length = es.length * 2 := edAll_len _
  have h18 : (edAll nineL).length = 18 := rfl
  rcases h.2 with ⟨rfl, he⟩ | ⟨g, cap, cur, rfl, hbg, hg, hnc, hcm, hcs, htake⟩
  · have h0 : es = [] := List.eq_nil_of_length_eq_zero he
    subst h0
    refine ⟨_, _, Lib.run_append_nil_zeros W _ _ ty _ i _ .i64 .i64 Try.underlying33 Try.underlying3 hi hz 9 (by omega) (by omega) (by omega) (by omega), ?_, ⟨rfl, rfl, rfl, by simp, fun k hk _ => Below.heap_alloc W.drew _ k hk⟩, fun b hb => ?_⟩
    · refine ⟨by simp [edAll], .inr ⟨_, _, _, rfl, hbase, heap_alloc_new W.drew _, ?_, grownCap_le_maxLen W 9 0 _ (by unfold maxLen; omega), ?_, ?_⟩⟩
      · exact grownCap_ge W 9 0 _
      · have := grownCap_ge W 9 0 32
        simp only [Array.size_append, size_zeroCells]
        show 9 * 2 + (grownCap W 9 0 _ - 9) * 2 = _
        omega
      · rw [Array.toList_append, nine_cells, hea, show (([] : List Ed) ++ nineL).length * 2 = (edAll nineL).length by rfl]
        exact List.take_left
    · simp only [Value.ownBlock, Option.some.injEq] at hb
      subst hb
      exact .inr (Nat.le_refl _)
  · by_cases hroom : es.length + 9 ≤ cap
    · have hst := run_storeCells_at Try.prog g (es.length * 2) 32 (edAll nineL) 0 cur W hg (by rw [h18]; omega) (edAll_one _)
      simp only [Nat.add_zero] at hst
      rw [h18] at hst
      refine ⟨_, _, run_append_room_zeros W _ _ _ ty _ i _ .i64 .i64 Try.underlying33 Try.underlying3 hi hz ⟨g, 0, none⟩ es.length cap 9 (by omega) (by omega) (by omega) (by omega) hroom (by rw [addr_plain, hs, Nat.zero_add, nine_cells]; exact hst), ?_, ?_, fun b hb => .inl hb⟩
      · refine ⟨hlen, .inr ⟨g, cap, _, by rw [hln], hbg, setRow_heap W g cur _ _ _ hg, by omega, hcm, ?_, ?_⟩⟩
        · simp only [List.size_toArray, List.length_append, List.length_take, List.length_drop, Array.length_toList, h18]
          omega
        · rw [htake, hea, hln, show (es.length + 9) * 2 = (edAll es ++ edAll nineL).length by rw [List.length_append, hel, h18]; omega]
          exact List.take_left
      · exact ⟨rfl, rfl, rfl, by simp, fun k _ hk => setRow_other W g k _ (fun e => hk (by simp [Value.ownBlock, e]))⟩
    · have hold : (Builtin.firstCells i.size es.length (.slice (some ⟨g, 0, none⟩) es.length cap)).run Try.prog W.drew = .ok (edAll es).toArray W.drew := by
        refine run_firstCells_some (P := Try.prog) W.drew i.size es.length ⟨g, 0, none⟩ es.length cap (edAll es) (by rw [hel, hs]) (fun j u hu => ?_)
        exact h.cells (g := g) rfl j u hu
      refine ⟨_, _, Lib.run_append_grow_zeros W _ _ ty _ i _ .i64 .i64 Try.underlying33 Try.underlying3 hi hz _ es.length cap (edAll es) hold 9 (by omega) (by omega) (by omega) (by omega) (by omega) (by rw [hb]; exact edge_fits (by omega) (by omega)), ?_, ⟨rfl, rfl, rfl, by simp, fun k hk _ => Below.heap_alloc W.drew _ k hk⟩, fun b hb => ?_⟩
      · have hge := grownCap_ge W (es.length + 9) cap 32
        refine ⟨hlen, .inr ⟨_, _, _, by rw [hln], hbase, heap_alloc_new W.drew _, by rw [hln]; exact hge, grownCap_le_maxLen W (es.length + 9) cap _ (by unfold maxLen; omega), ?_, ?_⟩⟩
        · simp only [Array.size_append, size_zeroCells, List.size_toArray, hel]
          show es.length * 2 + 9 * 2 + (grownCap W (es.length + 9) cap _ - (es.length + 9)) * 2 = _
          omega
        · rw [Array.toList_append, Array.toList_append, nine_cells, hea, hln, show (es.length + 9) * 2 = (edAll es ++ edAll nineL).length by rw [List.length_append, hel, h18]; omega]
          exact List.take_left
      · simp only [Value.ownBlock, Option.some.injEq] at hb
        subst hb
        exact .inr (Nat.le_refl _)
end Go.Proofs.Ythjkgjkiikomdaa

/- colloquylaw03: texts: three texts, of three hundred bytes at most, and noughts behind the first one. -/
import Derived.Test.YtjjfofifooailaaDoorSecT
import Derived.Laws.MakeOwn
namespace Go.Proofs.YtjjfofifooailaaDoor
open Go.RowKit

/-- n noughts: as cells, as a text. -/
def zcells (n : Nat) : Array Value := madeCells #[.int .u8 0] n
def zs (n : Nat) : ByteArray := ⟨(List.replicate n 0).toArray⟩
theorem zs_size (n : Nat) : (zs n).size = n := by simp [zs, ByteArray.size]
theorem make_zeros (n : Nat) (hn : n ≤ 70000) (w : World) :
    (Instr.makeSlice 49 (.int .i64 (n : Int)) (.int .i64 (n : Int))).run Tryd.prog w = .ok (.slice (some ⟨w.heap.size, 0, none⟩) n n) (w.alloc (.cells (zcells n) 5)) := by
  obtain ⟨i0, hi, hz0, hz1, hz2⟩ := info_parts u8_info
  have := run_make w 49 5 i0 (.int .u8 0) Tryd.underlying49 hi hz0 .i64 .i64 (n : Int) (n : Int) (by omega) (by omega) (by rw [hz2]; omega) (by omega)
  rw [hz1, Nat.mul_one, Int.toNat_natCast] at this
  exact this
theorem zcells_byts {w : World} {b n : Nat} (h : Blk w b 5 (zcells n)) : Byts w b 0 (List.replicate n 0) := by
  refine ⟨_, _, h, fun j u hj => ?_⟩
  rw [List.getElem?_replicate] at hj
  split at hj
  · rename_i hlt
    injection hj with hj
    subst hj
    rw [Nat.zero_add]
    unfold zcells madeCells
    simp [hlt, Nat.mod_one]
  · cases hj
theorem zeros_string {w : World} {b n : Nat} (h : Blk w b 5 (zcells n)) : (convert 49 9 (.slice (some ⟨b, 0, none⟩) n n)).run Tryd.prog w = .ok (.string (zs n)) w :=
  byts_string (zcells_byts h) n n (by simp)

/-- What stands where texts are cut. -/
structure TB (w : World) (u : Nat → ByteArray) (W : World) : Prop where
  grow : w.grownBy W none
  b0 : Blk W w.heap.size 22 #[.string (u 0), .string (u 1), .string (u 2)]
  b1 : Blk W (w.heap.size + 1) 22 #[.string ⟨#[]⟩, .string ⟨#[]⟩, .string ⟨#[]⟩]

theorem tb_set {w wr : World} {u : Nat → ByteArray} (h : TB w u wr) {k : Nat} (hu : ∀ i, i < k → (u i).size ≤ 300) {v : ByteArray} (hk : k < 3) (hv : v.size ≤ 300) :
    (∀ i, i < k + 1 → (if i = k then v else u i).size ≤ 300) ∧ TB w (fun i => if i = k then v else u i) (wr.setCell ⟨w.heap.size, k, none⟩ (.string v)).drew := by
  refine ⟨fun i hi => ?_, only_drew (only_setNew h.grow (Nat.le_refl _) _), ?_, (h.b1.far (p := ⟨w.heap.size, k, none⟩) (by show w.heap.size + 1 ≠ w.heap.size; omega) _).drew⟩
  · split
    · exact hv
    · exact hu i (by omega)
  · have := (h.b0.set_ k (.string v)).drew
    have hk' : k = 0 ∨ k = 1 ∨ k = 2 := by omega
    rcases hk' with rfl | rfl | rfl <;> exact this
theorem tb_end {w V : World} (hg : w.grownBy V none) (hb : Blk V (w.heap.size + 1) 22 #[.string ⟨#[]⟩, .string ⟨#[]⟩, .string ⟨#[]⟩]) (v1 v2 v3 : Value) :
    Blk (((V.setCell ⟨w.heap.size + 1, 0, none⟩ v1).setCell ⟨w.heap.size + 1, 1, none⟩ v2).setCell ⟨w.heap.size + 1, 2, none⟩ v3) (w.heap.size + 1) 22 #[v1, v2, v3] ∧ w.grownBy (((V.setCell ⟨w.heap.size + 1, 0, none⟩ v1).setCell ⟨w.heap.size + 1, 1, none⟩ v2).setCell ⟨w.heap.size + 1, 2, none⟩ v3) none :=
  ⟨((hb.set_ 0 v1).set_ 1 v2).set_ 2 v3, only_setNew (only_setNew (only_setNew hg (p := ⟨w.heap.size + 1, 0, none⟩) (by show w.heap.size ≤ w.heap.size + 1; omega) v1) (p := ⟨w.heap.size + 1, 1, none⟩) (by show w.heap.size ≤ w.heap.size + 1; omega) v2) (p := ⟨w.heap.size + 1, 2, none⟩) (by show w.heap.size ≤ w.heap.size + 1; omega) v3⟩
theorem str3_size : (Tryd.prog.info? 22).map (·.size) = some 3 := by kernel_rfl
theorem texts_results {tmps : Array Value} {W : World} {b : Nat} {v1 v2 v3 : Value} (hp : tmps.getD 4 undef = .pointer (some ⟨b, 0, none⟩)) (hb : Blk W b 22 #[v1, v2, v3]) :
    (results Tryd.f9 tmps).run Tryd.prog W = .ok (.agg #[v1, v2, v3]) W := by
  have hp' : tmps[4]?.getD undef = .pointer (some ⟨b, 0, none⟩) := by simpa using hp
  simp [results, Tryd.results9, hp', asAddr, run_loadVar_row W b _ 22 _ _ _ hb Tryd.underlying22 rfl str3_size]

set_option maxRecDepth 100000 in
set_option maxHeartbeats 4000000 in
theorem texts_any (s1 s2 s3 : ByteArray) (z : Int) (h0 : 0 ≤ z) (hz : z < 4294967296) (w : World) :
    Calls Tryd.prog 9 #[.agg #[.string s1, .string s2, .string s3], .int .u32 z] w fun e w' => ∃ u1 u2 u3 : ByteArray, e = .returned (.agg #[.string u1, .string u2, .string u3]) ∧ (u1.size : Int) ≤ 300 + z % 70000 ∧ u2.size ≤ 300 ∧ u3.size ≤ 300 ∧ w.grownBy w' none := by
  go_enter Tryd.func9, Tryd.ntmps9
  go_wp2_with fail
  have H0 : Hid (∃ u, TB w u ((w.alloc (.cells #[.string s1, .string s2, .string s3] 22)).alloc (.cells #[.string ⟨#[]⟩, .string ⟨#[]⟩, .string ⟨#[]⟩] 22))) :=
    ⟨fun i => if i = 0 then s1 else if i = 1 then s2 else s3, only_alloc (only_alloc (only_refl _ _) _) _, (Blk.new w _ _).alloc _, Blk.new' (by simp) _ _⟩
  go_loopw [5] (fun v wr => ∃ (k : Nat) (u : Nat → ByteArray), v = .int .i64 (k : Int) ∧ k ≤ 3 ∧ (∀ i, i < k → (u i).size ≤ 300) ∧ TB w u wr) (fun v _ => (3 - intOf v).toNat)
  case atStart =>
    obtain ⟨u, hu⟩ := H0.out
    exact ⟨0, u, rfl, by omega, fun i hi => by omega, hu⟩
  case round =>
    obtain ⟨k, u, rfl, hk, hu, hB⟩ := hrel
    have hB' := Lib.hid hB
    by_cases h3 : k = 3
    · subst h3
      have c0 := hB.b0.cell 0
      have f0 := hB.b0.frozen 0
      obtain ⟨n, hn, hnz⟩ : ∃ n : Nat, n ≤ 70000 ∧ (n : Int) = z % 70000 := ⟨(z % 70000).toNat, by omega, by omega⟩
      have hm : (Instr.makeSlice 49 (.int .i64 (n : Int)) (.int .i64 (n : Int))).run Tryd.prog wr.drew = .ok (.slice (some ⟨wr.heap.size, 0, none⟩) n n) (wr.drew.alloc (.cells (zcells n) 5)) := make_zeros n hn wr.drew
      have hcv : (convert 49 9 (.slice (some ⟨wr.heap.size, 0, none⟩) n n)).run Tryd.prog (wr.alloc (.cells (zcells n) 5)).drew = .ok (.string (zs n)) (wr.alloc (.cells (zcells n) 5)).drew := zeros_string (Blk.new wr _ _).drew
      have hr : (IntKind.i64.wrap z).tmod 70000 = (n : Int) := by
        rw [hnz, IntKind.wrap_i64]
        rw [Int.tmod_eq_emod_of_nonneg (by omega)]
        omega
      have hz0 := hB.b0.lt
      have k0 := (hB.b0.alloc (.cells (zcells n) 5)).drew.cell 0
      have q0 := (hB.b0.alloc (.cells (zcells n) 5)).drew.frozen 0
      have h00 := hu 0 (by omega)
      have hzs := zs_size n
      have hsum : ¬ ((u 0).size + (zs n).size > 9223372036854775807) := by omega
      have c1 := ((hB.b0.set_ 0 (.string (u 0 ++ zs n))).alloc (.cells (zcells n) 5)).drew.cell 0
      have c2 := ((hB.b0.set_ 0 (.string (u 0 ++ zs n))).alloc (.cells (zcells n) 5)).drew.cell 1
      have c3 := ((hB.b0.set_ 0 (.string (u 0 ++ zs n))).alloc (.cells (zcells n) 5)).drew.cell 2
      have B0 := (hB.b1.far (p := ⟨w.heap.size, 0, none⟩) (by show w.heap.size + 1 ≠ w.heap.size; omega) (.string (u 0 ++ zs n))).alloc (.cells (zcells n) 5)
      have B1 := B0.drew
      have x0 := B0.cell 0
      have x1 := B0.cell 1
      have x2 := B0.cell 2
      have y0 := B0.frozen 0
      have y1 := B0.frozen 1
      have y2 := B0.frozen 2
      have d0 := B1.cell 0
      have d1 := B1.cell 1
      have d2 := B1.cell 2
      have e0 := B1.frozen 0
      have e1 := B1.frozen 1
      have e2 := B1.frozen 2
      have g1 : w.grownBy ((wr.setCell ⟨w.heap.size, 0, none⟩ (.string (u 0 ++ zs n))).alloc (.cells (zcells n) 5)).drew none := only_drew (only_alloc (only_setNew hB.grow (Nat.le_refl _) _) _)
      have HE := Lib.hid (tb_end g1 B1 (.string (u 0 ++ zs n)) (.string (u 1)) (.string (u 2)))
      clear B0 B1 g1
      have HNZ := Lib.hid hnz
      have HU := Lib.hid hu
      clear hB hu hnz
      go_wp2_with fail
      go_region_with fail
      all_goals
        go_wp2_with fail
        exact bodyPost_ret (texts_results rfl HE.out.1) rfl ⟨_, _, _, rfl, by rw [ByteArray.size_append, hzs]; have := HNZ.out; omega, HU.out 1 (by omega), HU.out 2 (by omega), HE.out.2⟩
    · have hk' : k = 0 ∨ k = 1 ∨ k = 2 := by omega
      rcases hk' with rfl | rfl | rfl
      · have c0 := hB.b0.cell 0
        have f0 := hB.b0.frozen 0
        have HT := Lib.hid (fun v hv => tb_set hB hu (k := 0) (v := v) (by omega) hv)
        clear hB hu h3 hk
        rcases Int.lt_or_le 300 ((u 0).size : Int) with d | d
        · go_wp2_with fail
          go_region_with fail
          all_goals
            go_wp2_with fail
            go_roundw
            case rel => exact ⟨1, _, rfl, by omega, HT.out _ (by rw [ByteArray.size_extract]; omega)⟩
            case measure => simp [intOf]
        · go_wp2_with fail
          go_region_with fail
          all_goals
            go_wp2_with fail
            go_roundw
            case rel => exact ⟨1, _, rfl, by omega, HT.out _ (by first | omega | (rw [ByteArray.size_extract]; omega))⟩
            case measure => simp [intOf]
      · have c0 := hB.b0.cell 1
        have f0 := hB.b0.frozen 1
        have HT := Lib.hid (fun v hv => tb_set hB hu (k := 1) (v := v) (by omega) hv)
        clear hB hu h3 hk
        rcases Int.lt_or_le 300 ((u 1).size : Int) with d | d
        · go_wp2_with fail
          go_region_with fail
          all_goals
            go_wp2_with fail
            go_roundw
            case rel => exact ⟨2, _, rfl, by omega, HT.out _ (by rw [ByteArray.size_extract]; omega)⟩
            case measure => simp [intOf]
        · go_wp2_with fail
          go_region_with fail
          all_goals
            go_wp2_with fail
            go_roundw
            case rel => exact ⟨2, _, rfl, by omega, HT.out _ (by first | omega | (rw [ByteArray.size_extract]; omega))⟩
            case measure => simp [intOf]
      · have c0 := hB.b0.cell 2
        have f0 := hB.b0.frozen 2
        have HT := Lib.hid (fun v hv => tb_set hB hu (k := 2) (v := v) (by omega) hv)
        clear hB hu h3 hk
        rcases Int.lt_or_le 300 ((u 2).size : Int) with d | d
        · go_wp2_with fail
          go_region_with fail
          all_goals
            go_wp2_with fail
            go_roundw
            case rel => exact ⟨3, _, rfl, by omega, HT.out _ (by rw [ByteArray.size_extract]; omega)⟩
            case measure => simp [intOf]
        · go_wp2_with fail
          go_region_with fail
          all_goals
            go_wp2_with fail
            go_roundw
            case rel => exact ⟨3, _, rfl, by omega, HT.out _ (by first | omega | (rw [ByteArray.size_extract]; omega))⟩
            case measure => simp [intOf]
end Go.Proofs.YtjjfofifooailaaDoor

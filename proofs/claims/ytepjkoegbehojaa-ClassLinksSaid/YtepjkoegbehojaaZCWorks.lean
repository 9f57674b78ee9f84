/- The statements' own works of layer 7 from OfC: the last region has 68 guarded operations and three calls and draws its order: go_region_held3. -/
import Derived.Test.YtepjkoegbehojaaZMgAT
import Derived.Deep.RegionHeld3
namespace Go.Proofs.Ytepjkoegbehojaa
open Go.RowKit Go.Shelf

theorem cs_keep {U W : World} (hg : U.grownBy W none) {a0 a1 a2 a3 a4 a5 a6 a7 a8 a9 a10 a11 a12 a13 a14 a15 a16 : Addr} {v0 v1 v2 v3 v4 v5 v6 v7 v8 v9 v10 v11 v12 v13 v14 v15 v16 : Value} (h : U.cell? a0 = some v0 ∧ U.cell? a1 = some v1 ∧ U.cell? a2 = some v2 ∧ U.cell? a3 = some v3 ∧ U.cell? a4 = some v4 ∧ U.cell? a5 = some v5 ∧ U.cell? a6 = some v6 ∧ U.cell? a7 = some v7 ∧ U.cell? a8 = some v8 ∧ U.cell? a9 = some v9 ∧ U.cell? a10 = some v10 ∧ U.cell? a11 = some v11 ∧ U.cell? a12 = some v12 ∧ U.cell? a13 = some v13 ∧ U.cell? a14 = some v14 ∧ U.cell? a15 = some v15 ∧ U.cell? a16 = some v16) : W.cell? a0 = some v0 ∧ W.cell? a1 = some v1 ∧ W.cell? a2 = some v2 ∧ W.cell? a3 = some v3 ∧ W.cell? a4 = some v4 ∧ W.cell? a5 = some v5 ∧ W.cell? a6 = some v6 ∧ W.cell? a7 = some v7 ∧ W.cell? a8 = some v8 ∧ W.cell? a9 = some v9 ∧ W.cell? a10 = some v10 ∧ W.cell? a11 = some v11 ∧ W.cell? a12 = some v12 ∧ W.cell? a13 = some v13 ∧ W.cell? a14 = some v14 ∧ W.cell? a15 = some v15 ∧ W.cell? a16 = some v16 :=
  ⟨Keeps.grown hg _ _ h.1, Keeps.grown hg _ _ h.2.1, Keeps.grown hg _ _ h.2.2.1, Keeps.grown hg _ _ h.2.2.2.1, Keeps.grown hg _ _ h.2.2.2.2.1, Keeps.grown hg _ _ h.2.2.2.2.2.1, Keeps.grown hg _ _ h.2.2.2.2.2.2.1, Keeps.grown hg _ _ h.2.2.2.2.2.2.2.1, Keeps.grown hg _ _ h.2.2.2.2.2.2.2.2.1, Keeps.grown hg _ _ h.2.2.2.2.2.2.2.2.2.1, Keeps.grown hg _ _ h.2.2.2.2.2.2.2.2.2.2.1, Keeps.grown hg _ _ h.2.2.2.2.2.2.2.2.2.2.2.1, Keeps.grown hg _ _ h.2.2.2.2.2.2.2.2.2.2.2.2.1, Keeps.grown hg _ _ h.2.2.2.2.2.2.2.2.2.2.2.2.2.1, Keeps.grown hg _ _ h.2.2.2.2.2.2.2.2.2.2.2.2.2.2.1, Keeps.grown hg _ _ h.2.2.2.2.2.2.2.2.2.2.2.2.2.2.2.1, Keeps.grown hg _ _ h.2.2.2.2.2.2.2.2.2.2.2.2.2.2.2.2⟩
theorem is_at1D {U0 U : World} {vc vo vp : Value} (h0 : U0.grownBy U none) (hO : Ints U0 vo [0, 1, 2, 1]) : Calls Try.prog 35 #[.agg #[vc, vo, vp], .slice (some ⟨U.heap.size, 0, none⟩) 4 4] ((U.alloc (.cells #[.int .i64 0, .int .i64 1, .int .i64 2, .int .i64 1] 3)).drew) fun e w' => e = .returned (.bool true) ∧ U.grownBy w' none := by
  have hg : U.grownBy ((U.alloc (.cells #[.int .i64 0, .int .i64 1, .int .i64 2, .int .i64 1] 3)).drew) none := only_drew (only_alloc (only_refl _ _) _)
  have hb : Blk ((U.alloc (.cells #[.int .i64 0, .int .i64 1, .int .i64 2, .int .i64 1] 3)).drew) U.heap.size 3 (inAll [0, 1, 2, 1]).toArray := (Blk.new _ _ _).drew
  refine (cis_any [0, 1, 2, 1] vc vo vp _ _ (hO.keep (.grown (only_trans h0 hg))) (ints_rows hb (by decide))).mono ?_
  rintro e w' ⟨rfl, h⟩
  exact ⟨rfl, only_trans hg h⟩
theorem is_at1P {U0 U : World} {vc vo vp : Value} (h0 : U0.grownBy U none) (hO : Ints U0 vo [0, 1, 2, 1]) : Calls Try.prog 35 #[.agg #[vc, vo, vp], .slice (some ⟨U.heap.size, 0, none⟩) 4 4] (U.alloc (.cells #[.int .i64 0, .int .i64 1, .int .i64 2, .int .i64 1] 3)) fun e w' => e = .returned (.bool true) ∧ U.grownBy w' none := by
  have hg : U.grownBy (U.alloc (.cells #[.int .i64 0, .int .i64 1, .int .i64 2, .int .i64 1] 3)) none := only_alloc (only_refl _ _) _
  have hb : Blk (U.alloc (.cells #[.int .i64 0, .int .i64 1, .int .i64 2, .int .i64 1] 3)) U.heap.size 3 (inAll [0, 1, 2, 1]).toArray := Blk.new _ _ _
  refine (cis_any [0, 1, 2, 1] vc vo vp _ _ (hO.keep (.grown (only_trans h0 hg))) (ints_rows hb (by decide))).mono ?_
  rintro e w' ⟨rfl, h⟩
  exact ⟨rfl, only_trans hg h⟩
theorem is_at2D {U0 U : World} {vc vo vp : Value} (h0 : U0.grownBy U none) (hO : Ints U0 vo [0, 1, 0, 1, 2, 3, 2, 3]) : Calls Try.prog 35 #[.agg #[vc, vo, vp], .slice (some ⟨U.heap.size, 0, none⟩) 8 8] ((U.alloc (.cells #[.int .i64 0, .int .i64 1, .int .i64 0, .int .i64 1, .int .i64 2, .int .i64 3, .int .i64 2, .int .i64 3] 3)).drew) fun e w' => e = .returned (.bool true) ∧ U.grownBy w' none := by
  have hg : U.grownBy ((U.alloc (.cells #[.int .i64 0, .int .i64 1, .int .i64 0, .int .i64 1, .int .i64 2, .int .i64 3, .int .i64 2, .int .i64 3] 3)).drew) none := only_drew (only_alloc (only_refl _ _) _)
  have hb : Blk ((U.alloc (.cells #[.int .i64 0, .int .i64 1, .int .i64 0, .int .i64 1, .int .i64 2, .int .i64 3, .int .i64 2, .int .i64 3] 3)).drew) U.heap.size 3 (inAll [0, 1, 0, 1, 2, 3, 2, 3]).toArray := (Blk.new _ _ _).drew
  refine (cis_any [0, 1, 0, 1, 2, 3, 2, 3] vc vo vp _ _ (hO.keep (.grown (only_trans h0 hg))) (ints_rows hb (by decide))).mono ?_
  rintro e w' ⟨rfl, h⟩
  exact ⟨rfl, only_trans hg h⟩
theorem is_at2P {U0 U : World} {vc vo vp : Value} (h0 : U0.grownBy U none) (hO : Ints U0 vo [0, 1, 0, 1, 2, 3, 2, 3]) : Calls Try.prog 35 #[.agg #[vc, vo, vp], .slice (some ⟨U.heap.size, 0, none⟩) 8 8] (U.alloc (.cells #[.int .i64 0, .int .i64 1, .int .i64 0, .int .i64 1, .int .i64 2, .int .i64 3, .int .i64 2, .int .i64 3] 3)) fun e w' => e = .returned (.bool true) ∧ U.grownBy w' none := by
  have hg : U.grownBy (U.alloc (.cells #[.int .i64 0, .int .i64 1, .int .i64 0, .int .i64 1, .int .i64 2, .int .i64 3, .int .i64 2, .int .i64 3] 3)) none := only_alloc (only_refl _ _) _
  have hb : Blk (U.alloc (.cells #[.int .i64 0, .int .i64 1, .int .i64 0, .int .i64 1, .int .i64 2, .int .i64 3, .int .i64 2, .int .i64 3] 3)) U.heap.size 3 (inAll [0, 1, 0, 1, 2, 3, 2, 3]).toArray := Blk.new _ _ _
  refine (cis_any [0, 1, 0, 1, 2, 3, 2, 3] vc vo vp _ _ (hO.keep (.grown (only_trans h0 hg))) (ints_rows hb (by decide))).mono ?_
  rintro e w' ⟨rfl, h⟩
  exact ⟨rfl, only_trans hg h⟩
theorem is_at3D {U0 U : World} {vc vo vp : Value} (h0 : U0.grownBy U none) (hO : Ints U0 vo [0, 1, 1, 0]) : Calls Try.prog 35 #[.agg #[vc, vo, vp], .slice (some ⟨U.heap.size, 0, none⟩) 4 4] ((U.alloc (.cells #[.int .i64 0, .int .i64 1, .int .i64 1, .int .i64 0] 3)).drew) fun e w' => e = .returned (.bool true) ∧ U.grownBy w' none := by
  have hg : U.grownBy ((U.alloc (.cells #[.int .i64 0, .int .i64 1, .int .i64 1, .int .i64 0] 3)).drew) none := only_drew (only_alloc (only_refl _ _) _)
  have hb : Blk ((U.alloc (.cells #[.int .i64 0, .int .i64 1, .int .i64 1, .int .i64 0] 3)).drew) U.heap.size 3 (inAll [0, 1, 1, 0]).toArray := (Blk.new _ _ _).drew
  refine (cis_any [0, 1, 1, 0] vc vo vp _ _ (hO.keep (.grown (only_trans h0 hg))) (ints_rows hb (by decide))).mono ?_
  rintro e w' ⟨rfl, h⟩
  exact ⟨rfl, only_trans hg h⟩
theorem is_at3P {U0 U : World} {vc vo vp : Value} (h0 : U0.grownBy U none) (hO : Ints U0 vo [0, 1, 1, 0]) : Calls Try.prog 35 #[.agg #[vc, vo, vp], .slice (some ⟨U.heap.size, 0, none⟩) 4 4] (U.alloc (.cells #[.int .i64 0, .int .i64 1, .int .i64 1, .int .i64 0] 3)) fun e w' => e = .returned (.bool true) ∧ U.grownBy w' none := by
  have hg : U.grownBy (U.alloc (.cells #[.int .i64 0, .int .i64 1, .int .i64 1, .int .i64 0] 3)) none := only_alloc (only_refl _ _) _
  have hb : Blk (U.alloc (.cells #[.int .i64 0, .int .i64 1, .int .i64 1, .int .i64 0] 3)) U.heap.size 3 (inAll [0, 1, 1, 0]).toArray := Blk.new _ _ _
  refine (cis_any [0, 1, 1, 0] vc vo vp _ _ (hO.keep (.grown (only_trans h0 hg))) (ints_rows hb (by decide))).mono ?_
  rintro e w' ⟨rfl, h⟩
  exact ⟨rfl, only_trans hg h⟩
set_option maxRecDepth 100000 in
set_option maxHeartbeats 2000000 in
theorem cworks_of (hC : OfC) (w : World) : Calls Try.prog 12 #[] w fun e w' => e = .returned (.bool true) ∧ w.grownBy w' none := by
  have HC := Lib.hid hC
  clear hC
  go_enter Try.func12, Try.ntmps12
  go_upto_region 2 with (first | (go_at_call 23; refine (word_is _ _ _ _ _).mono ?_; rintro e W11 ⟨g11, rfl, he, hg⟩; have HW11 : Hid (w.grownBy W11 none ∧ Edges W11 (.slice (some ⟨g11, 0, none⟩) 1 1) [(1, 0)]) := Lib.hid ⟨hg, he⟩; clear he hg) | (go_at_call 9; go_must (refine (HC.out exA _ _ (tbl_rows (ns := [(wd 1 0 1 0, .slice (some ⟨g11, 0, none⟩) 1 1), (endN, .slice none 0 0)]) (Blk.new _ _ _) (eds2 (HW11.out.2.keep (.grown (only_alloc (only_refl _ _) _))) (Edges.nil_ _))) (by decide)).mono ?_; rw [ord_a]; rintro e V1 ⟨⟨tv, rfl, ht⟩, hg⟩; have HT1 := Lib.hid ht; have HV1 : Hid (w.grownBy V1 none) := Lib.hid (only_trans (only_alloc HW11.out.1 _) hg); obtain ⟨vc1, dc1, vo1, do1, vp1, dp1, rfl⟩ := tab_open ht len_a.1 len_a.2.1 len_a.2.2; clear hg HW11)))
  have hz : w.grownBy (V1.alloc (.cells #[.slice vc1 3 dc1, .slice vo1 4 do1, .slice vp1 4 dp1] 27)) none ∧ Blk (V1.alloc (.cells #[.slice vc1 3 dc1, .slice vo1 4 do1, .slice vp1 4 dp1] 27)) V1.heap.size 27 #[.slice vc1 3 dc1, .slice vo1 4 do1, .slice vp1 4 dp1] ∧ TabV (V1.alloc (.cells #[.slice vc1 3 dc1, .slice vo1 4 do1, .slice vp1 4 dp1] 27)) (.agg #[.slice vc1 3 dc1, .slice vo1 4 do1, .slice vp1 4 dp1]) (clsT exA) := ⟨only_alloc HV1.out _, Blk.new _ _ _, HT1.out.keep (.grown (only_alloc (only_refl _ _) _))⟩
  revert hz
  generalize V1.alloc _ = U1
  generalize V1.heap.size = B1
  intro hz
  have HZ1 := Lib.hid hz
  clear hz HT1 HV1
  go_upto_region 3 with (first | (go_at_call 23; refine (word_is _ _ _ _ _).mono ?_; rintro e W24 ⟨g24, rfl, he, hg⟩; have HW24 : Hid (U1.grownBy W24 none ∧ Edges W24 (.slice (some ⟨g21, 0, none⟩) 1 1) [(1, 0)] ∧ Edges W24 (.slice (some ⟨g22, 0, none⟩) 1 1) [(0, 3)] ∧ Edges W24 (.slice (some ⟨g23, 0, none⟩) 1 1) [(3, 0)] ∧ Edges W24 (.slice (some ⟨g24, 0, none⟩) 1 1) [(2, 3)]) := Lib.hid ⟨only_trans HW23.out.1 hg, HW23.out.2.1.keep (.grown hg), HW23.out.2.2.1.keep (.grown hg), HW23.out.2.2.2.keep (.grown hg), he⟩; clear he hg HW23) | (go_at_call 23; refine (word_is _ _ _ _ _).mono ?_; rintro e W23 ⟨g23, rfl, he, hg⟩; have HW23 : Hid (U1.grownBy W23 none ∧ Edges W23 (.slice (some ⟨g21, 0, none⟩) 1 1) [(1, 0)] ∧ Edges W23 (.slice (some ⟨g22, 0, none⟩) 1 1) [(0, 3)] ∧ Edges W23 (.slice (some ⟨g23, 0, none⟩) 1 1) [(3, 0)]) := Lib.hid ⟨only_trans HW22.out.1 hg, HW22.out.2.1.keep (.grown hg), HW22.out.2.2.keep (.grown hg), he⟩; clear he hg HW22) | (go_at_call 23; refine (word_is _ _ _ _ _).mono ?_; rintro e W22 ⟨g22, rfl, he, hg⟩; have HW22 : Hid (U1.grownBy W22 none ∧ Edges W22 (.slice (some ⟨g21, 0, none⟩) 1 1) [(1, 0)] ∧ Edges W22 (.slice (some ⟨g22, 0, none⟩) 1 1) [(0, 3)]) := Lib.hid ⟨only_trans HW21.out.1 hg, HW21.out.2.keep (.grown hg), he⟩; clear he hg HW21) | (go_at_call 23; refine (word_is _ _ _ _ _).mono ?_; rintro e W21 ⟨g21, rfl, he, hg⟩; have HW21 : Hid (U1.grownBy W21 none ∧ Edges W21 (.slice (some ⟨g21, 0, none⟩) 1 1) [(1, 0)]) := Lib.hid ⟨hg, he⟩; clear he hg) | (go_at_call 9; go_must (refine (HC.out exB _ _ (tbl_rows (ns := [(wd 1 0 1 0, .slice (some ⟨g21, 0, none⟩) 1 1), (wd 2 1 0 3, .slice (some ⟨g22, 0, none⟩) 1 1), (wd 1 5 3 0, .slice (some ⟨g23, 0, none⟩) 1 1), (wd 2 6 2 3, .slice (some ⟨g24, 0, none⟩) 1 1)]) (Blk.new _ _ _) (eds4 (HW24.out.2.1.keep (.grown (only_alloc (only_refl _ _) _))) (HW24.out.2.2.1.keep (.grown (only_alloc (only_refl _ _) _))) (HW24.out.2.2.2.1.keep (.grown (only_alloc (only_refl _ _) _))) (HW24.out.2.2.2.2.keep (.grown (only_alloc (only_refl _ _) _))))) (by decide)).mono ?_; rw [ord_b]; rintro e V2 ⟨⟨tv, rfl, ht⟩, hg⟩; have HT2 := Lib.hid ht; have HV2 : Hid (U1.grownBy V2 none) := Lib.hid (only_trans (only_alloc HW24.out.1 _) hg); obtain ⟨vc2, dc2, vo2, do2, vp2, dp2, rfl⟩ := tab_open ht len_b.1 len_b.2.1 len_b.2.2; clear hg HW24)))
  have hz : w.grownBy (V2.alloc (.cells #[.slice vc2 4 dc2, .slice vo2 8 do2, .slice vp2 8 dp2] 27)) none ∧ Blk (V2.alloc (.cells #[.slice vc2 4 dc2, .slice vo2 8 do2, .slice vp2 8 dp2] 27)) V2.heap.size 27 #[.slice vc2 4 dc2, .slice vo2 8 do2, .slice vp2 8 dp2] ∧ TabV (V2.alloc (.cells #[.slice vc2 4 dc2, .slice vo2 8 do2, .slice vp2 8 dp2] 27)) (.agg #[.slice vc2 4 dc2, .slice vo2 8 do2, .slice vp2 8 dp2]) (clsT exB) ∧ Blk (V2.alloc (.cells #[.slice vc2 4 dc2, .slice vo2 8 do2, .slice vp2 8 dp2] 27)) B1 27 #[.slice vc1 3 dc1, .slice vo1 4 do1, .slice vp1 4 dp1] ∧ TabV (V2.alloc (.cells #[.slice vc2 4 dc2, .slice vo2 8 do2, .slice vp2 8 dp2] 27)) (.agg #[.slice vc1 3 dc1, .slice vo1 4 do1, .slice vp1 4 dp1]) (clsT exA) := ⟨only_alloc (only_trans HZ1.out.1 HV2.out) _, Blk.new _ _ _, HT2.out.keep (.grown (only_alloc (only_refl _ _) _)), (HZ1.out.2.1).kept (only_alloc HV2.out _), (HZ1.out.2.2).keep (.grown (only_alloc HV2.out _))⟩
  revert hz
  generalize V2.alloc _ = U2
  generalize V2.heap.size = B2
  intro hz
  have HZ2 := Lib.hid hz
  clear hz HT2 HV2 HZ1
  go_upto_region 4 with (first | (go_at_call 23; refine (word_is _ _ _ _ _).mono ?_; rintro e W32 ⟨g32, rfl, he, hg⟩; have HW32 : Hid (U2.grownBy W32 none ∧ Edges W32 (.slice (some ⟨g31, 0, none⟩) 1 1) [(1, 0)] ∧ Edges W32 (.slice (some ⟨g32, 0, none⟩) 1 1) [(0, 2)]) := Lib.hid ⟨only_trans HW31.out.1 hg, HW31.out.2.keep (.grown hg), he⟩; clear he hg HW31) | (go_at_call 23; refine (word_is _ _ _ _ _).mono ?_; rintro e W31 ⟨g31, rfl, he, hg⟩; have HW31 : Hid (U2.grownBy W31 none ∧ Edges W31 (.slice (some ⟨g31, 0, none⟩) 1 1) [(1, 0)]) := Lib.hid ⟨hg, he⟩; clear he hg) | (go_at_call 9; go_must (refine (HC.out exD _ _ (tbl_rows (ns := [(wd 1 0 1 0, .slice (some ⟨g31, 0, none⟩) 1 1), (wd 2 1 0 2, .slice (some ⟨g32, 0, none⟩) 1 1)]) (Blk.new _ _ _) (eds2 (HW32.out.2.1.keep (.grown (only_alloc (only_refl _ _) _))) (HW32.out.2.2.keep (.grown (only_alloc (only_refl _ _) _))))) (by decide)).mono ?_; rw [ord_d]; rintro e V3 ⟨⟨tv, rfl, ht⟩, hg⟩; have HT3 := Lib.hid ht; have HV3 : Hid (U2.grownBy V3 none) := Lib.hid (only_trans (only_alloc HW32.out.1 _) hg); obtain ⟨vc3, dc3, vo3, do3, vp3, dp3, rfl⟩ := tab_open ht len_d.1 len_d.2.1 len_d.2.2; clear hg HW32)))
  have hz : w.grownBy (V3.alloc (.cells #[.slice vc3 2 dc3, .slice vo3 4 do3, .slice vp3 4 dp3] 27)) none ∧ Blk (V3.alloc (.cells #[.slice vc3 2 dc3, .slice vo3 4 do3, .slice vp3 4 dp3] 27)) V3.heap.size 27 #[.slice vc3 2 dc3, .slice vo3 4 do3, .slice vp3 4 dp3] ∧ TabV (V3.alloc (.cells #[.slice vc3 2 dc3, .slice vo3 4 do3, .slice vp3 4 dp3] 27)) (.agg #[.slice vc3 2 dc3, .slice vo3 4 do3, .slice vp3 4 dp3]) (clsT exD) ∧ Blk (V3.alloc (.cells #[.slice vc3 2 dc3, .slice vo3 4 do3, .slice vp3 4 dp3] 27)) B2 27 #[.slice vc2 4 dc2, .slice vo2 8 do2, .slice vp2 8 dp2] ∧ TabV (V3.alloc (.cells #[.slice vc3 2 dc3, .slice vo3 4 do3, .slice vp3 4 dp3] 27)) (.agg #[.slice vc2 4 dc2, .slice vo2 8 do2, .slice vp2 8 dp2]) (clsT exB) ∧ Blk (V3.alloc (.cells #[.slice vc3 2 dc3, .slice vo3 4 do3, .slice vp3 4 dp3] 27)) B1 27 #[.slice vc1 3 dc1, .slice vo1 4 do1, .slice vp1 4 dp1] ∧ TabV (V3.alloc (.cells #[.slice vc3 2 dc3, .slice vo3 4 do3, .slice vp3 4 dp3] 27)) (.agg #[.slice vc1 3 dc1, .slice vo1 4 do1, .slice vp1 4 dp1]) (clsT exA) := ⟨only_alloc (only_trans HZ2.out.1 HV3.out) _, Blk.new _ _ _, HT3.out.keep (.grown (only_alloc (only_refl _ _) _)), (HZ2.out.2.1).kept (only_alloc HV3.out _), (HZ2.out.2.2.1).keep (.grown (only_alloc HV3.out _)), (HZ2.out.2.2.2.1).kept (only_alloc HV3.out _), (HZ2.out.2.2.2.2).keep (.grown (only_alloc HV3.out _))⟩
  revert hz
  generalize V3.alloc _ = U3
  generalize V3.heap.size = B3
  intro hz
  have HZ3 := Lib.hid hz
  clear hz HT3 HV3 HZ2
  go_upto_region 5 with (first | (go_at_call 23; refine (word_is _ _ _ _ _).mono ?_; rintro e W42 ⟨g42, rfl, he, hg⟩; have HW42 : Hid (U3.grownBy W42 none ∧ Edges W42 (.slice (some ⟨g41, 0, none⟩) 1 1) [(0, 1)] ∧ Edges W42 (.slice (some ⟨g42, 0, none⟩) 1 1) [(0, 2)]) := Lib.hid ⟨only_trans HW41.out.1 hg, HW41.out.2.keep (.grown hg), he⟩; clear he hg HW41) | (go_at_call 23; refine (word_is _ _ _ _ _).mono ?_; rintro e W41 ⟨g41, rfl, he, hg⟩; have HW41 : Hid (U3.grownBy W41 none ∧ Edges W41 (.slice (some ⟨g41, 0, none⟩) 1 1) [(0, 1)]) := Lib.hid ⟨hg, he⟩; clear he hg) | (go_at_call 9; go_must (refine (HC.out exC _ _ (tbl_rows (ns := [(wd 1 0 0 1, .slice (some ⟨g41, 0, none⟩) 1 1), (wd 1 0 0 2, .slice (some ⟨g42, 0, none⟩) 1 1), (endN, .slice none 0 0)]) (Blk.new _ _ _) (eds3 (HW42.out.2.1.keep (.grown (only_alloc (only_refl _ _) _))) (HW42.out.2.2.keep (.grown (only_alloc (only_refl _ _) _))) (Edges.nil_ _))) (by decide)).mono ?_; rw [ord_c]; rintro e V4 ⟨⟨tv, rfl, ht⟩, hg⟩; have HT4 := Lib.hid ht; have HV4 : Hid (U3.grownBy V4 none) := Lib.hid (only_trans (only_alloc HW42.out.1 _) hg); obtain ⟨vc4, dc4, vo4, do4, vp4, dp4, rfl⟩ := tab_open ht len_c.1 len_c.2.1 len_c.2.2; clear hg HW42)))
  have hz : w.grownBy (V4.alloc (.cells #[.slice vc4 5 dc4, .slice vo4 6 do4, .slice vp4 6 dp4] 27)) none ∧ Blk (V4.alloc (.cells #[.slice vc4 5 dc4, .slice vo4 6 do4, .slice vp4 6 dp4] 27)) V4.heap.size 27 #[.slice vc4 5 dc4, .slice vo4 6 do4, .slice vp4 6 dp4] ∧ TabV (V4.alloc (.cells #[.slice vc4 5 dc4, .slice vo4 6 do4, .slice vp4 6 dp4] 27)) (.agg #[.slice vc4 5 dc4, .slice vo4 6 do4, .slice vp4 6 dp4]) (clsT exC) ∧ Blk (V4.alloc (.cells #[.slice vc4 5 dc4, .slice vo4 6 do4, .slice vp4 6 dp4] 27)) B3 27 #[.slice vc3 2 dc3, .slice vo3 4 do3, .slice vp3 4 dp3] ∧ TabV (V4.alloc (.cells #[.slice vc4 5 dc4, .slice vo4 6 do4, .slice vp4 6 dp4] 27)) (.agg #[.slice vc3 2 dc3, .slice vo3 4 do3, .slice vp3 4 dp3]) (clsT exD) ∧ Blk (V4.alloc (.cells #[.slice vc4 5 dc4, .slice vo4 6 do4, .slice vp4 6 dp4] 27)) B2 27 #[.slice vc2 4 dc2, .slice vo2 8 do2, .slice vp2 8 dp2] ∧ TabV (V4.alloc (.cells #[.slice vc4 5 dc4, .slice vo4 6 do4, .slice vp4 6 dp4] 27)) (.agg #[.slice vc2 4 dc2, .slice vo2 8 do2, .slice vp2 8 dp2]) (clsT exB) ∧ Blk (V4.alloc (.cells #[.slice vc4 5 dc4, .slice vo4 6 do4, .slice vp4 6 dp4] 27)) B1 27 #[.slice vc1 3 dc1, .slice vo1 4 do1, .slice vp1 4 dp1] ∧ TabV (V4.alloc (.cells #[.slice vc4 5 dc4, .slice vo4 6 do4, .slice vp4 6 dp4] 27)) (.agg #[.slice vc1 3 dc1, .slice vo1 4 do1, .slice vp1 4 dp1]) (clsT exA) := ⟨only_alloc (only_trans HZ3.out.1 HV4.out) _, Blk.new _ _ _, HT4.out.keep (.grown (only_alloc (only_refl _ _) _)), (HZ3.out.2.1).kept (only_alloc HV4.out _), (HZ3.out.2.2.1).keep (.grown (only_alloc HV4.out _)), (HZ3.out.2.2.2.1).kept (only_alloc HV4.out _), (HZ3.out.2.2.2.2.1).keep (.grown (only_alloc HV4.out _)), (HZ3.out.2.2.2.2.2.1).kept (only_alloc HV4.out _), (HZ3.out.2.2.2.2.2.2).keep (.grown (only_alloc HV4.out _))⟩
  revert hz
  generalize V4.alloc _ = U4
  generalize V4.heap.size = B4
  intro hz
  have HZ4 := Lib.hid hz
  clear hz HT4 HV4 HZ3
  obtain ⟨gr, k4, t4, k3, t3, k2, t2, k1, t1⟩ := HZ4.out
  obtain ⟨hC1, hO1, _⟩ := tab_parts t1
  obtain ⟨_, hO2, hP2⟩ := tab_parts t2
  obtain ⟨_, hO3, _⟩ := tab_parts t3
  obtain ⟨_, hO4, _⟩ := tab_parts t4
  rw [cl_a] at hC1
  rw [ex_a] at hO1
  rw [ex_b] at hO2
  rw [ex_b2] at hP2
  rw [ex_d] at hO3
  rw [ex_c] at hO4
  obtain ⟨bk, ok, _, _, rfl, _, q0, _⟩ := cls_at (xs := [⟨1, 2, false, (0, 0), [(1, 0)]⟩, ⟨0, 1, false, (0, 0), []⟩, ⟨2, 0, false, (0, 0), [(1, 0)]⟩]) (k := 0) hC1 rfl
  obtain ⟨bk', ok', _, _, he1, _, q1, _⟩ := cls_at (xs := [⟨1, 2, false, (0, 0), [(1, 0)]⟩, ⟨0, 1, false, (0, 0), []⟩, ⟨2, 0, false, (0, 0), [(1, 0)]⟩]) (k := 1) hC1 rfl
  obtain ⟨bk2, ok2, _, _, he2, _, q2, _⟩ := cls_at (xs := [⟨1, 2, false, (0, 0), [(1, 0)]⟩, ⟨0, 1, false, (0, 0), []⟩, ⟨2, 0, false, (0, 0), [(1, 0)]⟩]) (k := 2) hC1 rfl
  simp only [Option.some.injEq, Addr.mk.injEq, and_true] at he1 he2
  obtain ⟨rfl, rfl⟩ := he1
  obtain ⟨rfl, rfl⟩ := he2
  obtain ⟨bp, op, rfl, p0⟩ := ints_at (zs := [0, 1, 5, 6, 0, 1, 5, 6]) (k := 0) hP2 rfl
  obtain ⟨bp', op', he3, p2⟩ := ints_at (zs := [0, 1, 5, 6, 0, 1, 5, 6]) (k := 2) hP2 rfl
  simp only [Option.some.injEq, Addr.mk.injEq, and_true] at he3
  obtain ⟨rfl, rfl⟩ := he3
  obtain ⟨bo, oo, rfl, o0⟩ := ints_at (zs := [0, 1, 2, 3, 4, 2]) (k := 0) hO4 rfl
  obtain ⟨bo', oo', he4, o1⟩ := ints_at (zs := [0, 1, 2, 3, 4, 2]) (k := 1) hO4 rfl
  simp only [Option.some.injEq, Addr.mk.injEq, and_true] at he4
  obtain ⟨rfl, rfl⟩ := he4
  have hf : U4.cell? ⟨B1, 0, none⟩ = some (.slice (some ⟨bk, ok, none⟩) 3 dc1) ∧ U4.cell? ⟨B1, 1, none⟩ = some (.slice vo1 4 do1) ∧ U4.cell? ⟨B1, 2, none⟩ = some (.slice vp1 4 dp1) ∧ U4.cell? ⟨B2, 0, none⟩ = some (.slice vc2 4 dc2) ∧ U4.cell? ⟨B2, 1, none⟩ = some (.slice vo2 8 do2) ∧ U4.cell? ⟨B2, 2, none⟩ = some (.slice (some ⟨bp, op, none⟩) 8 dp2) ∧ U4.cell? ⟨B3, 0, none⟩ = some (.slice vc3 2 dc3) ∧ U4.cell? ⟨B3, 1, none⟩ = some (.slice vo3 4 do3) ∧ U4.cell? ⟨B3, 2, none⟩ = some (.slice vp3 4 dp3) ∧ U4.cell? ⟨B4, 1, none⟩ = some (.slice (some ⟨bo, oo, none⟩) 6 do4) ∧ U4.cell? ⟨bk, ok, none⟩ = some (.int .i64 1) ∧ U4.cell? ⟨bk, ok + 6, none⟩ = some (.int .i64 0) ∧ U4.cell? ⟨bk, ok + 12, none⟩ = some (.int .i64 2) ∧ U4.cell? ⟨bp, op, none⟩ = some (.int .i64 0) ∧ U4.cell? ⟨bp, op + 2, none⟩ = some (.int .i64 5) ∧ U4.cell? ⟨bo, oo, none⟩ = some (.int .i64 0) ∧ U4.cell? ⟨bo, oo + 1, none⟩ = some (.int .i64 1) := ⟨k1.cell 0, k1.cell 1, k1.cell 2, k2.cell 0, k2.cell 1, k2.cell 2, k3.cell 0, k3.cell 1, k3.cell 2, k4.cell 1, q0, q1, q2, p0, p2, o0, o1⟩
  have HO : Hid (Ints U4 (.slice vo1 4 do1) [0, 1, 2, 1] ∧ Ints U4 (.slice vo2 8 do2) [0, 1, 0, 1, 2, 3, 2, 3] ∧ Ints U4 (.slice vo3 4 do3) [0, 1, 1, 0]) := Lib.hid ⟨hO1, hO2, hO3⟩
  have HG := Lib.hid gr
  clear gr k4 t4 k3 t3 k2 t2 k1 t1 hC1 hO1 hO2 hP2 hO3 hO4 q0 q1 q2 p0 p2 o0 o1 HZ4
  have HF := Lib.hid hf
  obtain ⟨c10, c11, c12, c20, c21, c22, c30, c31, c32, c41, q0, q1, q2, p0, p2, o0, o1⟩ := hf
  go_wp2_with fail
  have hf := HF.out
  clear c10 c11 c12 c20 c21 c22 c30 c31 c32 c41 q0 q1 q2 p0 p2 o0 o1
  go_region_held3 (fun w' => w'.cell? ⟨B1, 0, none⟩ = some (.slice (some ⟨bk, ok, none⟩) 3 dc1) ∧ w'.cell? ⟨B1, 1, none⟩ = some (.slice vo1 4 do1) ∧ w'.cell? ⟨B1, 2, none⟩ = some (.slice vp1 4 dp1) ∧ w'.cell? ⟨B2, 0, none⟩ = some (.slice vc2 4 dc2) ∧ w'.cell? ⟨B2, 1, none⟩ = some (.slice vo2 8 do2) ∧ w'.cell? ⟨B2, 2, none⟩ = some (.slice (some ⟨bp, op, none⟩) 8 dp2) ∧ w'.cell? ⟨B3, 0, none⟩ = some (.slice vc3 2 dc3) ∧ w'.cell? ⟨B3, 1, none⟩ = some (.slice vo3 4 do3) ∧ w'.cell? ⟨B3, 2, none⟩ = some (.slice vp3 4 dp3) ∧ w'.cell? ⟨B4, 1, none⟩ = some (.slice (some ⟨bo, oo, none⟩) 6 do4) ∧ w'.cell? ⟨bk, ok, none⟩ = some (.int .i64 1) ∧ w'.cell? ⟨bk, ok + 6, none⟩ = some (.int .i64 0) ∧ w'.cell? ⟨bk, ok + 12, none⟩ = some (.int .i64 2) ∧ w'.cell? ⟨bp, op, none⟩ = some (.int .i64 0) ∧ w'.cell? ⟨bp, op + 2, none⟩ = some (.int .i64 5) ∧ w'.cell? ⟨bo, oo, none⟩ = some (.int .i64 0) ∧ w'.cell? ⟨bo, oo + 1, none⟩ = some (.int .i64 1)) (first | exact hf | exact cs_keep (only_drew (only_refl _ _)) hf | exact cs_keep (only_alloc (only_refl _ _) _) hf | exact cs_keep (only_drew (only_alloc (only_refl _ _) _)) hf | exact cs_keep (only_alloc (only_drew (only_refl _ _)) _) hf) (first | (go_at_call 35; with_reducible refine Calls.mono (is_at3P HX2.out HO.out.2.2) ?_; rintro e X3 ⟨rfl, hg⟩; have HX3 := Lib.hid (only_trans HX2.out hg); replace hf := cs_keep hg hf; clear hg) | (go_at_call 35; with_reducible refine Calls.mono (is_at3D HX2.out HO.out.2.2) ?_; rintro e X3 ⟨rfl, hg⟩; have HX3 := Lib.hid (only_trans HX2.out hg); replace hf := cs_keep hg hf; clear hg) | (go_at_call 35; with_reducible refine Calls.mono (is_at2P HX1.out HO.out.2.1) ?_; rintro e X2 ⟨rfl, hg⟩; have HX2 := Lib.hid (only_trans HX1.out hg); replace hf := cs_keep hg hf; clear hg) | (go_at_call 35; with_reducible refine Calls.mono (is_at2D HX1.out HO.out.2.1) ?_; rintro e X2 ⟨rfl, hg⟩; have HX2 := Lib.hid (only_trans HX1.out hg); replace hf := cs_keep hg hf; clear hg) | (go_at_call 35; with_reducible refine Calls.mono (is_at1P (only_refl _ _) HO.out.1) ?_; rintro e X1 ⟨rfl, hg⟩; have HX1 := Lib.hid (hg); replace hf := cs_keep hg hf; clear hg) | (go_at_call 35; with_reducible refine Calls.mono (is_at1D (only_refl _ _) HO.out.1) ?_; rintro e X1 ⟨rfl, hg⟩; have HX1 := Lib.hid (hg); replace hf := cs_keep hg hf; clear hg) | fail)
  all_goals (try go_wp2)
  all_goals (go_ret; exact ⟨rfl, only_trans HG.out HX3.out⟩)
end Go.Proofs.Ytepjkoegbehojaa

/- BlocksKnown. -/
import Derived.Test.YtnejikkibneegaaBKnO
import Derived.Deep.CutRange
namespace Go.Proofs.Ytnejikkibneegaa
open Go.RowKit Rg

set_option maxRecDepth 100000 in
set_option maxHeartbeats 8000000 in
theorem bknown_any (w : World) : Calls Try.prog 8 #[] w fun e w' => e = .returned (.bool true) ∧ w.grownBy w' none := by
  have HB1 : Hid (K3 w w.heap.size (((w.alloc (.cells (insC 24) 40)).alloc (.cells (insC 0) 40)).alloc (.cells (insC 15) 40))) := Lib.hid ⟨only_alloc (only_alloc (only_alloc (only_refl _ _) _) _) _, ((Blk.new _ _ _).alloc _).alloc _, (blk_atB (by simp) _ _).alloc _, blk_atB (by simp) _ _⟩
  go_enter Try.func8, Try.ntmps8
  go_upto_region 2 with fail
  unfold insC at HB1
  generalize (World.alloc _ _) = w1 at *
  generalize w.heap.size = B at *
  obtain ⟨n0, n1, n2, n3, n4, n5⟩ := cells6 HB1.out.n
  obtain ⟨r0, r1, r2, r3, r4, r5⟩ := cells6 HB1.out.r
  have hct := cut_at (W := aX (aI w1 [0]) [(0, sg0), (15, sg0), (11, sgL w1.heap.size 1 [0])]) (b := w1.heap.size + 1) (n := 3) [(0, []), (15, []), (11, [0])] (blk_atB (by simp) _ _) rfl (by simp) (by
    intro y hy
    simp only [List.mem_cons, List.not_mem_nil, or_false] at hy
    rcases hy with rfl | rfl | rfl
    · exact ints_none _ _
    · exact ints_none _ _
    · exact ints_blk ((Blk.new _ _ _).alloc _) rfl rfl) rfl (by decide)
  unfold CutR at hct
  rw [cut_k1] at hct
  have HG2 : Hid (w1.grownBy (aX (aI w1 [0]) [(0, sg0), (15, sg0), (11, sgL w1.heap.size 1 [0])]) none) := only_alloc (only_alloc (only_refl _ _) _) _
  go_wp2_with fail
  refine hct.mono ?_
  rintro e w2 ⟨fv, rfl, ⟨sv, nv, rfl, hs, hnx⟩, hg2⟩
  have hs0 : IB w2 sv [0] := hs
  have hnx0 : NX w2 nv [[0]] := hnx
  clear hs hnx
  obtain ⟨A1, c1, rfl, hs⟩ := hs0.slice (n := 1) rfl
  obtain ⟨A2, c2, rfl, hnx⟩ := hnx0.slice (n := 1) rfl
  have hg3 : w2.grownBy (w2.alloc (.cells #[.slice A1 1 c1, .slice A2 1 c2] 27)) none := only_alloc (only_refl _ _) _
  have HB3 := Lib.hid (HB1.out.kept (only_trans (only_trans HG2.out hg2) hg3))
  have HF3 : Hid (Blk (w2.alloc (.cells #[.slice A1 1 c1, .slice A2 1 c2] 27)) w2.heap.size 27 #[.slice A1 1 c1, .slice A2 1 c2]) := Lib.hid (Blk.new _ _ _)
  have HS3 := Lib.hid (hs.kept hg3)
  have HN3 := Lib.hid (hnx.kept hg3)
  clear hct HG2 hg2 hg3 hs hnx hs0 hnx0 HB1 n0 n1 n2 n3 n4 n5 r0 r1 r2 r3 r4 r5
  go_upto_region 3 with fail
  generalize (w2.alloc (.cells #[.slice A1 1 c1, .slice A2 1 c2] 27)) = w3 at *
  generalize w2.heap.size = Bf at *
  have d0 : w3.cell? ⟨Bf, 0, none⟩ = some (.slice A1 1 c1) := HF3.out.cell 0
  have hi1 := ints_new HS3.out (by decide)
  have hbl := HF3.out.lt
  go_wp2_with fail
  refine hi1.mono ?_
  rintro e w4 ⟨rfl, hg4⟩
  have HB4 := Lib.hid (HB3.out.kept hg4)
  obtain ⟨b2, o2, rfl, hat⟩ := (HN3.out.kept hg4).ats (by simp)
  obtain ⟨A5, c5, k0, hib⟩ := hat 0 [0] rfl
  replace k0 : w4.cell? ⟨b2, o2, none⟩ = some (.slice A5 1 c5) := k0
  have d1 : w4.cell? ⟨Bf, 1, none⟩ = some (.slice (some ⟨b2, o2, none⟩) 1 c2) := (HF3.out.kept hg4).cell 1
  have hi2 := ints_new hib (by decide)
  have hb2 := cell_ltB k0
  have hb3 := cell_ltB d1
  clear hi1 hg4 HB3 hat hib d0 HS3 HN3 HF3 hbl
  go_wp2_with fail
  refine hi2.mono ?_
  rintro e w5 ⟨rfl, hg5⟩
  have HB5 := Lib.hid (HB4.out.kept hg5)
  clear hi2 hg5 HB4 k0 d1 hb2 hb3
  go_upto_region 5 with fail
  obtain ⟨h0, h1, h2, h3, h4, h5⟩ := cells6 HB5.out.h
  obtain ⟨n0, n1, n2, n3, n4, n5⟩ := cells6 HB5.out.n
  obtain ⟨r0, r1, r2, r3, r4, r5⟩ := cells6 HB5.out.r
  have l0 := HB5.out.h.lt
  have l1 := HB5.out.n.lt
  have l2 := HB5.out.r.lt
  have hct := cut_at (W := aX (aI (aI w5 [2, 1, 2]) [1]) [(19, sgL w5.heap.size 3 [2, 1, 2]), (0, sg0), (15, sg0), (12, sgL (w5.heap.size + 1) 1 [1]), (24, sg0)]) (b := w5.heap.size + 1 + 1) (n := 5) [(19, [2, 1, 2]), (0, []), (15, []), (12, [1]), (24, [])] (blk_atB (by simp) _ _) rfl (by simp) (by
    intro y hy
    simp only [List.mem_cons, List.not_mem_nil, or_false] at hy
    rcases hy with rfl | rfl | rfl | rfl | rfl
    · exact ints_blk (((Blk.new _ _ _).alloc _).alloc _) rfl rfl
    · exact ints_none _ _
    · exact ints_none _ _
    · exact ints_blk ((blk_atB (by simp) _ _).alloc _) rfl rfl
    · exact ints_none _ _) rfl (by decide)
  unfold CutR at hct
  rw [cut_k2] at hct
  have HG2 : Hid (w5.grownBy (aX (aI (aI w5 [2, 1, 2]) [1]) [(19, sgL w5.heap.size 3 [2, 1, 2]), (0, sg0), (15, sg0), (12, sgL (w5.heap.size + 1) 1 [1]), (24, sg0)]) none) := only_alloc (only_alloc (only_alloc (only_refl _ _) _) _) _
  go_wp2_with fail
  refine hct.mono ?_
  rintro e w6 ⟨fv, rfl, ⟨sv, nv, rfl, hs, hnx⟩, hg2⟩
  have hs0 : IB w6 sv [0, 1, 2, 4] := hs
  have hnx0 : NX w6 nv [[2, 1, 2], [2], [1, 3], []] := hnx
  clear hs hnx
  obtain ⟨A1, c1, rfl, hs⟩ := hs0.slice (n := 4) rfl
  obtain ⟨A2, c2, rfl, hnx⟩ := hnx0.slice (n := 4) rfl
  have hg3 : w6.grownBy (w6.alloc (.cells #[.slice A1 4 c1, .slice A2 4 c2] 27)) none := only_alloc (only_refl _ _) _
  have HB6 := Lib.hid (HB5.out.kept (only_trans (only_trans HG2.out hg2) hg3))
  have HF6 : Hid (Blk (w6.alloc (.cells #[.slice A1 4 c1, .slice A2 4 c2] 27)) w6.heap.size 27 #[.slice A1 4 c1, .slice A2 4 c2]) := Lib.hid (Blk.new _ _ _)
  have HS6 := Lib.hid (hs.kept hg3)
  have HN6 := Lib.hid (hnx.kept hg3)
  clear hct HG2 hg2 hg3 hs hnx hs0 hnx0 HB5 n0 n1 n2 n3 n4 n5 r0 r1 r2 r3 r4 r5 h0 h1 h2 h3 h4 h5 l0 l1 l2
  go_upto_region 6 with fail
  generalize (w6.alloc (.cells #[.slice A1 4 c1, .slice A2 4 c2] 27)) = w7 at *
  generalize w6.heap.size = Bg at *
  have d0 : w7.cell? ⟨Bg, 0, none⟩ = some (.slice A1 4 c1) := HF6.out.cell 0
  have hi1 := ints_new HS6.out (by decide)
  have hbl := HF6.out.lt
  go_wp2_with fail
  refine hi1.mono ?_
  rintro e w8 ⟨rfl, g⟩
  have HB8 := Lib.hid (HB6.out.kept g)
  have HF8 := Lib.hid (HF6.out.kept g)
  have HN8 := Lib.hid (HN6.out.kept g)
  obtain ⟨b2, o2, rfl, hat⟩ := HN8.out.ats (by simp)
  obtain ⟨A5, c5, k0, hib⟩ := hat 0 [2, 1, 2] rfl
  replace k0 : w8.cell? ⟨b2, o2, none⟩ = some (.slice A5 3 c5) := k0
  have d1 : w8.cell? ⟨Bg, 1, none⟩ = some (.slice (some ⟨b2, o2, none⟩) 4 c2) := HF8.out.cell 1
  have hi2 := ints_new hib (by decide)
  have hb2 := cell_ltB k0
  have hb3 := cell_ltB d1
  clear hi1 g HB6 hat hib d0 HS6 HN6 HF6 hbl
  go_wp2_with fail
  refine hi2.mono ?_
  rintro e w9 ⟨rfl, g⟩
  have HB9 := Lib.hid (HB8.out.kept g)
  have HF9 := Lib.hid (HF8.out.kept g)
  have HN9 := Lib.hid (HN8.out.kept g)
  obtain ⟨b3, o3, e3, hat⟩ := HN9.out.ats (by simp)
  injection e3 with e3
  injection e3 with e3 e4
  subst e3
  subst e4
  obtain ⟨A6, c6, k1, hib⟩ := hat 1 [2] rfl
  replace k1 : w9.cell? ⟨b2, o2 + 1, none⟩ = some (.slice A6 1 c6) := k1
  have d1 : w9.cell? ⟨Bg, 1, none⟩ = some (.slice (some ⟨b2, o2, none⟩) 4 c2) := HF9.out.cell 1
  have hi3 := ints_new hib (by decide)
  have hb2 := cell_ltB k1
  have hb3 := cell_ltB d1
  clear hi2 g HB8 hat hib HN8 HF8 k0
  go_wp2_with fail
  refine hi3.mono ?_
  rintro e wA ⟨rfl, g⟩
  have HBA := Lib.hid (HB9.out.kept g)
  have HFA := Lib.hid (HF9.out.kept g)
  have HNA := Lib.hid (HN9.out.kept g)
  obtain ⟨b3, o3, e3, hat⟩ := HNA.out.ats (by simp)
  injection e3 with e3
  injection e3 with e3 e4
  subst e3
  subst e4
  obtain ⟨A7, c7, k2, hib⟩ := hat 2 [1, 3] rfl
  replace k2 : wA.cell? ⟨b2, o2 + 2, none⟩ = some (.slice A7 2 c7) := k2
  have d1 : wA.cell? ⟨Bg, 1, none⟩ = some (.slice (some ⟨b2, o2, none⟩) 4 c2) := HFA.out.cell 1
  have hi4 := ints_new hib (by decide)
  have hb2 := cell_ltB k2
  have hb3 := cell_ltB d1
  clear hi3 g HB9 hat hib HN9 HF9 k1
  go_wp2_with fail
  refine hi4.mono ?_
  rintro e wC ⟨rfl, g⟩
  have HBC := Lib.hid (HBA.out.kept g)
  obtain ⟨b3, o3, e3, hat⟩ := (HNA.out.kept g).ats (by simp)
  injection e3 with e3
  injection e3 with e3 e4
  subst e3
  subst e4
  obtain ⟨A8, c8, k3, -⟩ := hat 3 [] rfl
  replace k3 : wC.cell? ⟨b2, o2 + 3, none⟩ = some (.slice A8 0 c8) := k3
  have d1 : wC.cell? ⟨Bg, 1, none⟩ = some (.slice (some ⟨b2, o2, none⟩) 4 c2) := (HFA.out.kept g).cell 1
  clear hi4 g HBA hat HNA HFA k2
  go_upto_region 8 with fail
  have hmk := make_129
  have hgL : wC.grownBy (wC.alloc (.cells longZ 40)) none := only_alloc (only_refl _ _) _
  have HBD := Lib.hid (HBC.out.kept hgL)
  have HL : Hid (Blk (wC.alloc (.cells longZ 40)) wC.heap.size 40 longZ) := Lib.hid (Blk.new _ _ _)
  have l0 := HBC.out.h.lt
  have l1 := HBC.out.n.lt
  have l2 := HBC.out.r.lt
  have hwL : w.heap.size ≤ wC.heap.size := HBC.out.g.size
  clear hgL HBC k3 d1
  go_upto_region 9 with fail
  generalize wC.alloc (.cells longZ 40) = wD at *
  generalize wC.heap.size = L at *
  have hL := HL.out
  obtain ⟨h0, h1, h2, h3, h4, h5⟩ := cells6 HBD.out.h
  have e0 : wD.cell? ⟨L, 768, none⟩ = some (.int .i64 0) := (hL.cell _).trans (longZ_at (i := 128) (j := 0) (by decide) rfl)
  have e1 : wD.cell? ⟨L, 769, none⟩ = some (.int .i64 0) := (hL.cell _).trans (longZ_at (i := 128) (j := 1) (by decide) rfl)
  have e2 : wD.cell? ⟨L, 770, none⟩ = some (.int .i64 0) := (hL.cell _).trans (longZ_at (i := 128) (j := 2) (by decide) rfl)
  have e3 : wD.cell? ⟨L, 771, none⟩ = some (.int .i64 0) := (hL.cell _).trans (longZ_at (i := 128) (j := 3) (by decide) rfl)
  have e4 : wD.cell? ⟨L, 772, none⟩ = some (.int .i64 0) := (hL.cell _).trans (longZ_at (i := 128) (j := 4) (by decide) rfl)
  have e5 : wD.cell? ⟨L, 773, none⟩ = some (.slice none 0 0) := (hL.cell _).trans (longZ_at (i := 128) (j := 5) (by decide) rfl)
  have f0 := hL.frozen 768
  have f1 := hL.frozen 769
  have f2 := hL.frozen 770
  have f3 := hL.frozen 771
  have f4 := hL.frozen 772
  have f5 := hL.frozen 773
  have hlL := hL.lt
  have q0 : B ≠ L := by omega
  have q1 : B + 1 ≠ L := by omega
  have q2 : B + 1 + 1 ≠ L := by omega
  have q3 : L ≠ B := by omega
  have q4 : L ≠ B + 1 := by omega
  have q5 : L ≠ B + 1 + 1 := by omega
  obtain ⟨n0, n1, n2, n3, n4, n5⟩ := cells6 HBD.out.n
  obtain ⟨r0, r1, r2, r3, r4, r5⟩ := cells6 HBD.out.r
  have m0 := HBD.out.h.lt
  have m1 := HBD.out.n.lt
  have m2 := HBD.out.r.lt
  have hy : Blk ((((((wD.setCell ⟨L, 768, none⟩ (.int .i64 24)).setCell ⟨L, 769, none⟩ (.int .i64 0)).setCell ⟨L, 770, none⟩ (.int .i64 0)).setCell ⟨L, 771, none⟩ (.int .i64 0)).setCell ⟨L, 772, none⟩ (.int .i64 0)).setCell ⟨L, 773, none⟩ (.slice none 0 0)) L 40 longY := (((((hL.set_ 768 _).set_ 769 _).set_ 770 _).set_ 771 _).set_ 772 _).set_ 773 _
  have hk : K3 w B ((((((wD.setCell ⟨L, 768, none⟩ (.int .i64 24)).setCell ⟨L, 769, none⟩ (.int .i64 0)).setCell ⟨L, 770, none⟩ (.int .i64 0)).setCell ⟨L, 771, none⟩ (.int .i64 0)).setCell ⟨L, 772, none⟩ (.int .i64 0)).setCell ⟨L, 773, none⟩ (.slice none 0 0)) :=
    ⟨only_setNew (only_setNew (only_setNew (only_setNew (only_setNew (only_setNew HBD.out.g hwL _) hwL _) hwL _) hwL _) hwL _) hwL _,
      (((((HBD.out.h.far q0 _).far q0 _).far q0 _).far q0 _).far q0 _).far q0 _, (((((HBD.out.n.far q1 _).far q1 _).far q1 _).far q1 _).far q1 _).far q1 _, (((((HBD.out.r.far q2 _).far q2 _).far q2 _).far q2 _).far q2 _).far q2 _⟩
  have HY := Lib.hid hy
  have HK := Lib.hid hk
  clear hmk hL hy hk
  go_upto_region 10 with fail
  generalize (World.setCell _ ⟨L, 773, none⟩ _) = wE at *
  clear HL HBD e0 e1 e2 e3 e4 e5 f0 f1 f2 f3 f4 f5 q0 q1 q2 q3 q4 q5 h0 h1 h2 h3 h4 h5 n0 n1 n2 n3 n4 n5 r0 r1 r2 r3 r4 r5 l0 l1 l2 m0 m1 m2 hlL
  obtain ⟨h0, h1, h2, h3, h4, h5⟩ := cells6 HK.out.h
  obtain ⟨n0, n1, n2, n3, n4, n5⟩ := cells6 HK.out.n
  obtain ⟨r0, r1, r2, r3, r4, r5⟩ := cells6 HK.out.r
  have m0 := HK.out.h.lt
  have m1 := HK.out.n.lt
  have m2 := HK.out.r.lt
  simp only [List.append_eq, List.cons_append, List.nil_append]
  go_cut [179, 180, 181] from 113 to 181 (fun u v x wx => TabP u wx ∧ v = .int .i64 16 ∧ x = .int .i64 0 ∧ wE.grownBy wx none)
  case first =>
    clear h0 h1 h2 h3 h4 h5 n0 n1 n2 n3 n4 n5 r0 r1 r2 r3 r4 r5 m0 m1 m2
    refine region_both (by kernel_rfl) [(116, .slice (some ⟨L, 0, none⟩) 129 129), (180, .int .i64 16), (181, .int .i64 0)] [(1, .pointer (some ⟨B, 0, none⟩)), (2, .pointer (some ⟨B + 1, 0, none⟩)), (3, .pointer (some ⟨B + 1 + 1, 0, none⟩)), (9, .slice (some ⟨L, 0, none⟩) 129 129)]
      [(113, RowP ([], -1, 2)), (114, CodP (nopsL 128)), (115, RowP (nopsL 128, -1, 2)), (117, CodP (nopsL 127)), (118, RowP (nopsL 127, -1, 0)), (119, InsP 0 []), (120, CodP [(0, [])]), (121, RowP ([(0, [])], 0, 12)), (122, InsP 0 []), (123, IntP [0]), (124, InsP 11 [0]), (125, CodP [(0, []), (11, [0])]), (126, RowP ([(0, []), (11, [0])], 0, 14)), (127, IntP [2]), (128, InsP 11 [2]), (129, InsP 0 []), (130, InsP 24 []), (131, CodP [(11, [2]), (0, []), (24, [])]), (132, RowP ([(11, [2]), (0, []), (24, [])], 1, 13)), (133, IntP [1, 1]), (134, InsP 11 [1, 1]), (135, InsP 24 []), (136, CodP [(11, [1, 1]), (24, [])]), (137, RowP ([(11, [1, 1]), (24, [])], 0, 12)), (138, InsP 11 []), (139, InsP 24 []), (140, CodP [(11, []), (24, [])]), (141, RowP ([(11, []), (24, [])], 0, 12)), (142, InsP 19 []), (143, InsP 24 []), (144, CodP [(19, []), (24, [])]), (145, RowP ([(19, []), (24, [])], 0, 12)), (146, InsP 0 []), (147, IntP [3]), (148, InsP 12 [3]), (149, InsP 24 []), (150, CodP [(0, []), (12, [3]), (24, [])]), (151, RowP ([(0, []), (12, [3]), (24, [])], 1, 12)), (152, InsP 0 []), (153, IntP [0]), (154, InsP 12 [0]), (155, CodP [(0, []), (12, [0])]), (156, RowP ([(0, []), (12, [0])], 1, 12)), (157, InsP 24 []), (158, InsP 24 []), (159, CodP [(24, []), (24, [])]), (160, RowP ([(24, []), (24, [])], 1, 13)), (161, InsP 15 []), (162, IntP [1]), (163, InsP 11 [1]), (164, CodP [(15, []), (11, [1])]), (165, RowP ([(15, []), (11, [1])], 1, 14)), (166, IntP [0]), (167, InsP 19 [0]), (168, CodP [(19, [0])]), (169, RowP ([(19, [0])], -1, 0)), (170, IntP [9]), (171, InsP 14 [9]), (172, InsP 24 []), (173, CodP [(14, [9]), (24, [])]), (174, RowP ([(14, [9]), (24, [])], -1, 0)), (175, InsP 99 []), (176, InsP 24 []), (177, CodP [(99, []), (24, [])]), (178, RowP ([(99, []), (24, [])], -1, 0)), (179, TabP)]
      ⟨rowP_keeps (t := 113), codP_keeps (t := 114), rowP_keeps (t := 115), codP_keeps (t := 117), rowP_keeps (t := 118), insP_keeps (t := 119), codP_keeps (t := 120), rowP_keeps (t := 121), insP_keeps (t := 122), intP_keeps (t := 123), insP_keeps (t := 124), codP_keeps (t := 125), rowP_keeps (t := 126), intP_keeps (t := 127), insP_keeps (t := 128), insP_keeps (t := 129), insP_keeps (t := 130), codP_keeps (t := 131), rowP_keeps (t := 132), intP_keeps (t := 133), insP_keeps (t := 134), insP_keeps (t := 135), codP_keeps (t := 136), rowP_keeps (t := 137), insP_keeps (t := 138), insP_keeps (t := 139), codP_keeps (t := 140), rowP_keeps (t := 141), insP_keeps (t := 142), insP_keeps (t := 143), codP_keeps (t := 144), rowP_keeps (t := 145), insP_keeps (t := 146), intP_keeps (t := 147), insP_keeps (t := 148), insP_keeps (t := 149), codP_keeps (t := 150), rowP_keeps (t := 151), insP_keeps (t := 152), intP_keeps (t := 153), insP_keeps (t := 154), codP_keeps (t := 155), rowP_keeps (t := 156), insP_keeps (t := 157), insP_keeps (t := 158), codP_keeps (t := 159), rowP_keeps (t := 160), insP_keeps (t := 161), intP_keeps (t := 162), insP_keeps (t := 163), codP_keeps (t := 164), rowP_keeps (t := 165), intP_keeps (t := 166), insP_keeps (t := 167), codP_keeps (t := 168), rowP_keeps (t := 169), intP_keeps (t := 170), insP_keeps (t := 171), insP_keeps (t := 172), codP_keeps (t := 173), rowP_keeps (t := 174), insP_keeps (t := 175), insP_keeps (t := 176), codP_keeps (t := 177), rowP_keeps (t := 178), tabP_keeps (t := 179), trivial⟩ (by kernel_rfl) [113, 114, 115, 116, 117, 118, 119, 120, 121, 122, 123, 124, 125, 126, 127, 128, 129, 130, 131, 132, 133, 134, 135, 136, 137, 138, 139, 140, 141, 142, 143, 144, 145, 146, 147, 148, 149, 150, 151, 152, 153, 154, 155, 156, 157, 158, 159, 160, 161, 162, 163, 164, 165, 166, 167, 168, 169, 170, 171, 172, 173, 174, 175, 176, 177, 178, 179, 180, 181] (by kernel_rfl) (by kernel_rfl) (by decide) (by kernel_rfl) (by kernel_rfl) ⟨rfl, rfl, rfl, rfl, trivial⟩ ?hops ?hQ
    case hops =>
      exact ⟨obx (t := 113) rfl rfl rfl (ox_r0 rfl),
        obx (t := 114) rfl rfl rfl (ox_mv rfl rfl HY.out),
        obx (t := 115) rfl rfl rfl (ox_r rfl rfl),
        obv (t := 116) rfl rfl rfl (ow_move rfl rfl),
        obx (t := 117) rfl rfl rfl (ox_sl rfl rfl HY.out),
        obx (t := 118) rfl rfl rfl (ox_r rfl rfl),
        obx (t := 119) rfl rfl rfl (ox_ld rfl rfl HK.out.n),
        obx (t := 120) rfl rfl rfl (ox_c1 rfl rfl),
        obx (t := 121) rfl rfl rfl (ox_r rfl rfl),
        obx (t := 122) rfl rfl rfl (ox_ld rfl rfl HK.out.n),
        obx (t := 123) rfl rfl rfl (ox_i1 rfl),
        obx (t := 124) rfl rfl rfl (ox_b5 rfl rfl),
        obx (t := 125) rfl rfl rfl (ox_c2 rfl rfl rfl),
        obx (t := 126) rfl rfl rfl (ox_r rfl rfl),
        obx (t := 127) rfl rfl rfl (ox_i1 rfl),
        obx (t := 128) rfl rfl rfl (ox_b5 rfl rfl),
        obx (t := 129) rfl rfl rfl (ox_ld rfl rfl HK.out.n),
        obx (t := 130) rfl rfl rfl (ox_ld rfl rfl HK.out.h),
        obx (t := 131) rfl rfl rfl (ox_c3 rfl rfl rfl rfl),
        obx (t := 132) rfl rfl rfl (ox_r rfl rfl),
        obx (t := 133) rfl rfl rfl (ox_i2 rfl),
        obx (t := 134) rfl rfl rfl (ox_b5 rfl rfl),
        obx (t := 135) rfl rfl rfl (ox_ld rfl rfl HK.out.h),
        obx (t := 136) rfl rfl rfl (ox_c2 rfl rfl rfl),
        obx (t := 137) rfl rfl rfl (ox_r rfl rfl),
        obx (t := 138) rfl rfl rfl (ox_b0 rfl),
        obx (t := 139) rfl rfl rfl (ox_ld rfl rfl HK.out.h),
        obx (t := 140) rfl rfl rfl (ox_c2 rfl rfl rfl),
        obx (t := 141) rfl rfl rfl (ox_r rfl rfl),
        obx (t := 142) rfl rfl rfl (ox_b0 rfl),
        obx (t := 143) rfl rfl rfl (ox_ld rfl rfl HK.out.h),
        obx (t := 144) rfl rfl rfl (ox_c2 rfl rfl rfl),
        obx (t := 145) rfl rfl rfl (ox_r rfl rfl),
        obx (t := 146) rfl rfl rfl (ox_ld rfl rfl HK.out.n),
        obx (t := 147) rfl rfl rfl (ox_i1 rfl),
        obx (t := 148) rfl rfl rfl (ox_b5 rfl rfl),
        obx (t := 149) rfl rfl rfl (ox_ld rfl rfl HK.out.h),
        obx (t := 150) rfl rfl rfl (ox_c3 rfl rfl rfl rfl),
        obx (t := 151) rfl rfl rfl (ox_r rfl rfl),
        obx (t := 152) rfl rfl rfl (ox_ld rfl rfl HK.out.n),
        obx (t := 153) rfl rfl rfl (ox_i1 rfl),
        obx (t := 154) rfl rfl rfl (ox_b5 rfl rfl),
        obx (t := 155) rfl rfl rfl (ox_c2 rfl rfl rfl),
        obx (t := 156) rfl rfl rfl (ox_r rfl rfl),
        obx (t := 157) rfl rfl rfl (ox_ld rfl rfl HK.out.h),
        obx (t := 158) rfl rfl rfl (ox_ld rfl rfl HK.out.h),
        obx (t := 159) rfl rfl rfl (ox_c2 rfl rfl rfl),
        obx (t := 160) rfl rfl rfl (ox_r rfl rfl),
        obx (t := 161) rfl rfl rfl (ox_ld rfl rfl HK.out.r),
        obx (t := 162) rfl rfl rfl (ox_i1 rfl),
        obx (t := 163) rfl rfl rfl (ox_b5 rfl rfl),
        obx (t := 164) rfl rfl rfl (ox_c2 rfl rfl rfl),
        obx (t := 165) rfl rfl rfl (ox_r rfl rfl),
        obx (t := 166) rfl rfl rfl (ox_i1 rfl),
        obx (t := 167) rfl rfl rfl (ox_b5 rfl rfl),
        obx (t := 168) rfl rfl rfl (ox_c1 rfl rfl),
        obx (t := 169) rfl rfl rfl (ox_r rfl rfl),
        obx (t := 170) rfl rfl rfl (ox_i1 rfl),
        obx (t := 171) rfl rfl rfl (ox_b5 rfl rfl),
        obx (t := 172) rfl rfl rfl (ox_ld rfl rfl HK.out.h),
        obx (t := 173) rfl rfl rfl (ox_c2 rfl rfl rfl),
        obx (t := 174) rfl rfl rfl (ox_r rfl rfl),
        obx (t := 175) rfl rfl rfl (ox_b0 rfl),
        obx (t := 176) rfl rfl rfl (ox_ld rfl rfl HK.out.h),
        obx (t := 177) rfl rfl rfl (ox_c2 rfl rfl rfl),
        obx (t := 178) rfl rfl rfl (ox_r rfl rfl),
        obx (t := 179) rfl rfl rfl (ox_tab rfl rfl rfl rfl rfl rfl rfl rfl rfl rfl rfl rfl rfl rfl rfl rfl rfl),
        obp (t := 180) rfl rfl rfl (op_len rfl rfl),
        obv (t := 181) rfl rfl rfl (ow_move_c rfl), trivial⟩
    case hQ =>
      intro vs W hg hv hx
      have HZ : Hid (TabP (vs 179) W ∧ vs 180 = .int .i64 16 ∧ vs 181 = .int .i64 0 ∧ wE.grownBy W none) := Lib.hid ⟨hx 179 _ rfl, hv 180 _ rfl (by decide), hv 181 _ rfl (by decide), hg⟩
      clear hv hg hx
      simp only [List.foldl_cons, List.foldl_nil, List.setIfInBounds_toArray, List.set_cons_zero, List.set_cons_succ]
      go_wp2_with fail
      go_meet
      exact HZ.out
  case rest =>
    obtain ⟨hT, rfl, rfl, hg⟩ := hcut
    have HK2 := Lib.hid (HK.out.kept hg)
    obtain ⟨g, rfl, hrows⟩ := id hT
    have HT := Lib.hid hT
    clear hg hT hrows HK HY h0 h1 h2 h3 h4 h5 n0 n1 n2 n3 n4 n5 r0 r1 r2 r3 r4 r5 m0 m1 m2
    generalize wc = wF at *
    go_wp2_with fail
    go_loopw [181] (fun z wr => ∃ k : Nat, k ≤ 16 ∧ z = .int .i64 (k : Int) ∧ K3 w B wr ∧ TabP (.slice (some ⟨g, 0, none⟩) 16 16) wr) (fun z _ => 16 - (intOf z).toNat)
    case atStart => exact ⟨0, Nat.zero_le _, rfl, HK2.out, HT.out⟩
    case round =>
      obtain ⟨k, hk, rfl, hK, hT⟩ := hrel
      have HK3 := Lib.hid hK
      have HT3 := Lib.hid hT
      have hk0 : (0 : Int) ≤ (k : Int) := by omega
      clear hK hT
      by_cases hk16 : k < 16
      · have hkI : (k : Int) < 16 := by omega
        obtain ⟨p, hp⟩ : ∃ p, kR[k]? = some p := ⟨_, List.getElem?_eq_getElem (by simpa [kR] using hk16)⟩
        obtain ⟨g', eg, hrows⟩ := HT3.out
        injection eg with eg
        injection eg with eg
        injection eg with eg
        subst eg
        obtain ⟨A, c, t0, t1, t2, hC⟩ := hrows k p hp
        have hcc := kR_cut p (List.mem_of_getElem? hp)
        have hll := kR_len p (List.mem_of_getElem? hp)
        obtain ⟨cs, at_, er⟩ := p
        dsimp only at t0 t1 t2 hC hcc hll
        have HCC := Lib.hid hcc
        have HLL := Lib.hid hll
        obtain ⟨m, hm⟩ : ∃ m, cs.length = m := ⟨_, rfl⟩
        rw [hm] at t0 hC
        have hg1 : wr.grownBy (wr.alloc (.cells #[.slice A m c, .int .i64 at_, .int .i64 er] 48)) none := only_alloc (only_refl _ _) _
        have HC := Lib.hid (hC.kept hg1)
        have HX : Hid (Blk (wr.alloc (.cells #[.slice A m c, .int .i64 at_, .int .i64 er] 48)) wr.heap.size 48 #[.slice A m c, .int .i64 at_, .int .i64 er]) := Lib.hid (Blk.new _ _ _)
        have HK4 := Lib.hid (HK3.out.kept hg1)
        have HT4 := Lib.hid (tabP_keeps (t := 0) _ _ _ HT3.out hg1)
        clear hp hrows hcc hll hm hC hg1
        go_upto_region 13 with fail
        clear t0 t1 t2
        generalize (wr.alloc (.cells #[.slice A m c, .int .i64 at_, .int .i64 er] 48)) = w1' at *
        generalize wr.heap.size = X at *
        have x0 : w1'.cell? ⟨X, 0, none⟩ = some (.slice A m c) := HX.out.cell 0
        have hct := blCut_any cs _ _ HC.out HLL.out
        unfold CutR at hct
        rw [HCC.out] at hct
        dsimp only at hct
        go_wp2_with fail
        refine hct.mono ?_
        rintro e w2' ⟨fv, rfl, hF, hg2⟩
        obtain ⟨A1, n1, c1, A2, n2, c2, rfl, -, -, -, -⟩ := flow_slices hF
        have hg3 : w1'.grownBy (w2'.alloc (.cells #[.slice A1 n1 c1, .slice A2 n2 c2] 27)) none := only_alloc hg2 _
        have x1 : (w2'.alloc (.cells #[.slice A1 n1 c1, .slice A2 n2 c2] 27)).cell? ⟨X, 1, none⟩ = some (.int .i64 at_) := (HX.out.kept hg3).cell 1
        have x2 : (w2'.alloc (.cells #[.slice A1 n1 c1, .slice A2 n2 c2] 27)).cell? ⟨X, 2, none⟩ = some (.int .i64 er) := (HX.out.kept hg3).cell 2
        have HK5 := Lib.hid (HK4.out.kept hg3)
        have HT5 := Lib.hid (tabP_keeps (t := 0) _ _ _ HT4.out hg3)
        clear hct hF hg2 hg3 x0 HK4 HT4 HK3 HT3 HC HX
        go_upto_region 14 with fail
        generalize (w2'.alloc (.cells #[.slice A1 n1 c1, .slice A2 n2 c2] 27)) = w3' at *
        go_wp2_with fail
        go_roundw
        case rel => exact ⟨k + 1, by omega, by go_num, HK5.out, HT5.out⟩
        case measure => simp [intOf]; omega
      · have hge : (16 : Int) ≤ (k : Int) := by omega
        go_upto_region 17 with fail
        clear HT3 HK2 HT hk hk16 hge hk0
        have ht : Calls Try.prog 21 #[.agg #[.int .i64 21, .int .i64 0, .int .i64 0, .int .i64 0, .int .i64 0, .slice (some ⟨wr.heap.size, 0, none⟩) 1 1]] (aI wr [1]) fun e w' => ∃ v, e = .returned v ∧ BOwn (aI wr [1]).heap.size w' v [] ∧ (aI wr [1]).grownBy w' none := blTargets_any 21 (sgL wr.heap.size 1 [1]) (aI wr [1]) (ints_blk (Blk.new _ _ _) rfl rfl) (show 1 ≤ 1048576 by decide)
        have HGa : Hid (wr.grownBy (aI wr [1]) none) := Lib.hid (only_alloc (only_refl _ _) _)
        go_wp2_with fail
        refine ht.mono ?_
        rintro e wa ⟨v1, rfl, o1, g1⟩
        have HKa := Lib.hid (HK3.out.kept (only_trans HGa.out g1))
        have hi1 := bints_any [] [] v1 (.slice none 0 0) _ _ wa o1.reads (ints_none (fun _ => True) _) (by decide)
        rw [show decide (([] : List Int) = []) = true from rfl] at hi1
        clear ht HGa g1 o1 HK3
        go_wp2_with fail
        refine hi1.mono ?_
        rintro e wb ⟨rfl, g1⟩
        have HKb := Lib.hid (HKa.out.kept g1)
        obtain ⟨n0, n1, n2, n3, n4, n5⟩ := cells6 HKb.out.n
        have hgo1 : Calls Try.prog 19 #[.slice (some ⟨wb.heap.size, 0, none⟩) 1 1, .int .i64 0] (aX wb [(0, sg0)]) fun e w' => ∃ v', e = .returned v' ∧ BOwn (aX wb [(0, sg0)]).heap.size w' v' [1] ∧ (aX wb [(0, sg0)]).grownBy w' none :=
          blGoes_any [(0, [])] (.slice (some ⟨wb.heap.size, 0, none⟩) 1 1) 0 (aX wb [(0, sg0)]) (codeA_blk (xs := [(0, sg0)]) (Blk.new _ _ _) rfl rfl (by simp) (by
            intro y hy
            simp only [List.mem_cons, List.not_mem_nil, or_false] at hy
            subst hy
            exact ints_none _ _)) (by decide) (by decide)
        have HGa : Hid (wb.grownBy (aX wb [(0, sg0)]) none) := Lib.hid (only_alloc (only_refl _ _) _)
        clear hi1 g1 HKa
        go_wp2_with fail
        refine hgo1.mono ?_
        rintro e wc ⟨v2, rfl, o2, g1⟩
        have HKc := Lib.hid (HKb.out.kept (only_trans HGa.out g1))
        obtain ⟨Aq, cq, rfl, -⟩ := id o2.reads
        have hi2 := ints_new o2.ib (by decide)
        clear hgo1 HGa g1 o2 HKb n0 n1 n2 n3 n4 n5
        go_wp2_with fail
        refine hi2.mono ?_
        rintro e wd ⟨rfl, g1⟩
        have HKd := Lib.hid (HKc.out.kept g1)
        obtain ⟨n0, n1, n2, n3, n4, n5⟩ := cells6 HKd.out.n
        have hgo2 : Calls Try.prog 19 #[.slice (some ⟨wd.heap.size, 0, none⟩) 1 1, .int .i64 1] (aX wd [(0, sg0)]) fun e w' => ∃ v', e = .returned v' ∧ BOwn (aX wd [(0, sg0)]).heap.size w' v' [] ∧ (aX wd [(0, sg0)]).grownBy w' none :=
          blGoes_any [(0, [])] (.slice (some ⟨wd.heap.size, 0, none⟩) 1 1) 1 (aX wd [(0, sg0)]) (codeA_blk (xs := [(0, sg0)]) (Blk.new _ _ _) rfl rfl (by simp) (by
            intro y hy
            simp only [List.mem_cons, List.not_mem_nil, or_false] at hy
            subst hy
            exact ints_none _ _)) (by decide) (by decide)
        have HGa : Hid (wd.grownBy (aX wd [(0, sg0)]) none) := Lib.hid (only_alloc (only_refl _ _) _)
        clear hi2 g1 HKc
        go_wp2_with fail
        refine hgo2.mono ?_
        rintro e we ⟨v3, rfl, o3, g1⟩
        have HKe := Lib.hid (HKd.out.kept (only_trans HGa.out g1))
        obtain ⟨Ar, cr, rfl, -⟩ := id o3.reads
        have hgo3 : Calls Try.prog 19 #[.slice none 0 0, .int .i64 (-1)] we fun e w' => ∃ v', e = .returned v' ∧ BOwn we.heap.size w' v' [] ∧ we.grownBy w' none :=
          blGoes_any [] (.slice none 0 0) (-1) we ⟨none, 0, rfl, by simp, fun h => absurd rfl h⟩ (by decide) (by decide)
        clear hgo2 HGa g1 o3 HKd n0 n1 n2 n3 n4 n5
        go_wp2_with fail
        refine hgo3.mono ?_
        rintro e wf ⟨v4, rfl, o4, g1⟩
        have HKf := Lib.hid (HKe.out.kept g1)
        obtain ⟨As, cs', rfl, -⟩ := id o4.reads
        clear hgo3 g1 o4 HKe
        go_wp2_with fail
        refine (works_any _).mono ?_
        rintro e wg ⟨rfl, g1⟩
        have HZ := Lib.hid (only_trans HKf.out.g g1)
        clear g1 HKf
        go_wp2_with fail
        go_ret
        exact ⟨rfl, HZ.out⟩
end Go.Proofs.Ytnejikkibneegaa

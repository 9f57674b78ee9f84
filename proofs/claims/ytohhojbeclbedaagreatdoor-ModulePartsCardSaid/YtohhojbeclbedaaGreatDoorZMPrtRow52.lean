/- Texts joined for the claim's sake: MWks, MPrt. -/
import Derived.Test.YtohhojbeclbedaaGreatDoorZMPrtRow51
import Derived.Test.YtohhojbeclbedaaGreatDoorZMPrtRow50
import Derived.Test.YtohhojbeclbedaaGreatDoorZMPrtRow3
import Derived.Deep.RegionHeld3
namespace Go.Proofs.YtohhojbeclbedaaGreatDoor
open Go.RowKit

set_option maxRecDepth 100000 in
set_option maxHeartbeats 4000000 in
theorem mworks_any (w : World) (hE : ErrType w) : Calls Tryz.prog 11 #[] w fun e w' => e = .returned (.bool true) ∧ w.grownBy w' none := by
  have HE := Lib.hid hE
  have HB := Lib.hid hE
  clear hE
  go_enter Tryz.func11, Tryz.ntmps11
  go_wp2_with fail
  refine (least_any _).mono ?_
  rintro e w1 ⟨a, b, c, rfl, g1, hm1⟩
  have HG1 := Lib.hid g1
  have HM1 := Lib.hid hm1
  clear g1 hm1
  go_wp2_with fail
  refine (mput_any leastP _ _ _ _ _ _ _ _ _ _ _ _ _ _ _ _ _ _ _ _ _ _ _ _ w1 HM1.out fit_least).mono ?_
  intro e w2 hp
  obtain ⟨rfl, g2⟩ := put_is hp put_least
  have HG2 := Lib.hid (only_trans HG1.out g2)
  clear hp g2
  go_wp2_with fail
  refine (mread_any ⟨#[67, 76, 81, 89, 1, 1, 2, 1, 0, 2, 4, 1, 0, 1, 24, 3, 4, 0, 1, 0, 0]⟩ (by decide) w2 (HE.out.kept HG2.out (fun _ e => by cases e))).mono ?_
  intro e w3 hr
  obtain ⟨g3, cs, rfl, hm⟩ := readP_ok (x := partsOf [1, 0] [1, 0, 1, 24] [0, 1, 0, 0]) (m := leastM) hr (split_l 0 24).1 (by rw [(split_l 0 24).2 readT]; exact read_least)
  obtain ⟨b4, o4, b5, o5, b7, o7, b1, o1, bc, oc, ba, oa, c4, c5, c7, c1, cc, ca, A0, A2, A3, A6, q0, q2, q3, q6, L⟩ := mod_one hm
  have hcs := L.cells
  subst hcs
  have HL1 := Lib.hid L
  have HG3 := Lib.hid (only_trans HG2.out g3)
  clear hr g3 hm L
  go_upto_region 4 with fail
  have hga : w3.grownBy (w3.alloc (.cells #[.slice A0 1 q0, .slice (some ⟨b1, o1, none⟩) 1 c1, .slice A2 0 q2, .slice A3 1 q3, .slice (some ⟨b4, o4, none⟩) 1 c4, .slice (some ⟨b5, o5, none⟩) 1 c5, .slice A6 0 q6, .slice (some ⟨b7, o7, none⟩) 1 c7] 28)) none := only_alloc (only_refl _ _) _
  have HG4 := Lib.hid (only_trans HG3.out hga)
  have HL4 := Lib.hid (HL1.out.kept hga)
  have HM4 := Lib.hid (Blk.new w3 28 #[.slice A0 1 q0, .slice (some ⟨b1, o1, none⟩) 1 c1, .slice A2 0 q2, .slice A3 1 q3, .slice (some ⟨b4, o4, none⟩) 1 c4, .slice (some ⟨b5, o5, none⟩) 1 c5, .slice A6 0 q6, .slice (some ⟨b7, o7, none⟩) 1 c7])
  generalize (w3.alloc (.cells #[.slice A0 1 q0, .slice (some ⟨b1, o1, none⟩) 1 c1, .slice A2 0 q2, .slice A3 1 q3, .slice (some ⟨b4, o4, none⟩) 1 c4, .slice (some ⟨b5, o5, none⟩) 1 c5, .slice A6 0 q6, .slice (some ⟨b7, o7, none⟩) 1 c7] 28)) = w4 at *
  generalize w3.heap.size = bm at *
  clear hga HL1 HM1
  go_wp2_with fail
  refine (mput_any emptyP _ _ _ _ _ _ _ _ _ _ _ _ _ _ _ _ _ _ _ _ _ _ _ _ w4 (nil_empty w4) fit_empty).mono ?_
  intro e w5 hp
  obtain ⟨rfl, g5⟩ := put_is hp put_empty
  have HG5 := Lib.hid (only_trans HG4.out g5)
  have HL5 := Lib.hid (HL4.out.kept g5)
  have HM5 := Lib.hid (HM4.out.kept g5)
  clear hp g5 HL4 HM4
  go_wp2_with fail
  have hga : w5.grownBy (w5.alloc (.cells #[.slice none 0 0, .slice none 0 0, .slice none 0 0] 50)) none := only_alloc (only_refl _ _) _
  refine (mput_any onetP _ _ _ _ _ _ _ _ _ _ _ _ _ _ _ _ _ _ _ _ _ _ _ _ (w5.alloc (.cells #[.slice none 0 0, .slice none 0 0, .slice none 0 0] 50)) (nil_onet (Blk.new w5 50 _)) fit_onet).mono ?_
  intro e w6 hp
  obtain ⟨rfl, g6⟩ := put_is hp put_onet
  have HG6 := Lib.hid (only_trans (only_trans HG5.out hga) g6)
  have HL6 := Lib.hid ((HL5.out.kept hga).kept g6)
  have HM6 := Lib.hid ((HM5.out.kept hga).kept g6)
  clear hp g6 HL5 HM5 hga
  go_upto_region 6 with fail
  have k1 := HM6.out.cell 1
  have k4 := HM6.out.cell 4
  have k5 := HM6.out.cell 5
  have k7 := HM6.out.cell 7
  have k8 := HL6.out.tc
  have k9 := HL6.out.ta
  go_upto_region 8 with fail
  clear k1 k4 k5 k7 k8 k9
  go_wp2_with fail
  refine (mread_any ⟨#[67, 76, 81, 89, 1, 1, 2, 1, 0, 2, 4, 1, 0, 1, 6, 3, 4, 0, 1, 0, 0]⟩ (by decide) w6 (HE.out.kept HG6.out (fun _ e => by cases e))).mono ?_
  intro e w7 hr
  obtain ⟨g7, cs, rfl, hm⟩ := readP_ok (x := partsOf [1, 0] [1, 0, 1, 6] [0, 1, 0, 0]) hr (split_l 0 6).1 (by rw [(split_l 0 6).2 readT]; exact read_mul)
  obtain ⟨b4', o4', b5', o5', b7', o7', b1', o1', bc', oc', ba', oa', c4', c5', c7', c1', cc', ca', A0', A2', A3', A6', q0', q2', q3', q6', L⟩ := mod_one hm
  have hcs := L.cells
  subst hcs
  have HK7 := Lib.hid L
  have HG7 := Lib.hid (only_trans HG6.out g7)
  have HL7 := Lib.hid (HL6.out.kept g7)
  have HM7 := Lib.hid (HM6.out.kept g7)
  clear hr g7 hm L HL6 HM6
  go_upto_region 9 with fail
  have hga : w7.grownBy (w7.alloc (.cells #[.slice A0' 1 q0', .slice (some ⟨b1', o1', none⟩) 1 c1', .slice A2' 0 q2', .slice A3' 1 q3', .slice (some ⟨b4', o4', none⟩) 1 c4', .slice (some ⟨b5', o5', none⟩) 1 c5', .slice A6' 0 q6', .slice (some ⟨b7', o7', none⟩) 1 c7'] 28)) none := only_alloc (only_refl _ _) _
  have HG8 := Lib.hid (only_trans HG7.out hga)
  have HL8 := Lib.hid (HL7.out.kept hga)
  have HM8 := Lib.hid (HM7.out.kept hga)
  have HK8 := Lib.hid (HK7.out.kept hga)
  have HN8 := Lib.hid (Blk.new w7 28 #[.slice A0' 1 q0', .slice (some ⟨b1', o1', none⟩) 1 c1', .slice A2' 0 q2', .slice A3' 1 q3', .slice (some ⟨b4', o4', none⟩) 1 c4', .slice (some ⟨b5', o5', none⟩) 1 c5', .slice A6' 0 q6', .slice (some ⟨b7', o7', none⟩) 1 c7'])
  generalize (w7.alloc (.cells #[.slice A0' 1 q0', .slice (some ⟨b1', o1', none⟩) 1 c1', .slice A2' 0 q2', .slice A3' 1 q3', .slice (some ⟨b4', o4', none⟩) 1 c4', .slice (some ⟨b5', o5', none⟩) 1 c5', .slice A6' 0 q6', .slice (some ⟨b7', o7', none⟩) 1 c7'] 28)) = w8 at *
  generalize w7.heap.size = bn at *
  clear hga HL7 HM7 HK7
  have n1 := HN8.out.cell 1
  have n2 := HK8.out.tc
  have n3 := HK8.out.hc
  have k1 := HM8.out.cell 1
  have k4 := HM8.out.cell 4
  have k5 := HM8.out.cell 5
  have k7 := HM8.out.cell 7
  have k8 := HL8.out.tc
  have k9 := HL8.out.ta
  have k10 := HL8.out.h4
  have k11 := HL8.out.h5
  have k12 := HL8.out.h7
  have k13 := HL8.out.hc
  have k14 := HL8.out.ha
  go_wp2_with fail
  clear n1 n2 n3 k1 k4 k5 k7 k8 k9 k10 k11 k12 k13 k14
  refine (mfails_any ⟨#[67, 76, 81, 89, 1, 1, 2, 1, 0, 2, 4, 1, 0, 1, 25, 3, 4, 0, 1, 0, 0]⟩ rfl (by decide) (x := partsOf [1, 0] [1, 0, 1, 25] [0, 1, 0, 0]) (c := 11) (y := 14) (split_l 0 25).1 (by rw [(split_l 0 25).2 readT]; exact read_25) rfl _ (HE.out.kept HG8.out (fun _ e => by cases e))).mono ?_
  rintro e w9 ⟨rfl, g9⟩
  have HG9 := Lib.hid (only_trans HG8.out g9)
  go_wp2_with fail
  refine (mfails_any ⟨#[67, 76, 81, 89, 1, 1, 2, 1, 3, 2, 4, 1, 0, 1, 24, 3, 4, 0, 1, 0, 0]⟩ rfl (by decide) (x := partsOf [1, 3] [1, 0, 1, 24] [0, 1, 0, 0]) (c := 3) (y := 9) (split_l 3 24).1 (by rw [(split_l 3 24).2 readT]; exact read_3) rfl _ (HE.out.kept HG9.out (fun _ e => by cases e))).mono ?_
  rintro e w10 ⟨rfl, g10⟩
  have HG10 := Lib.hid (only_trans HG9.out g10)
  go_wp2_with fail
  go_ret
  exact ⟨rfl, HG10.out⟩
end Go.Proofs.YtohhojbeclbedaaGreatDoor

namespace Go.Proofs.YtohhojbeclbedaaGreatDoor
open Go.RowKit

theorem ModR.more {S S' : Nat → Prop} {W : World} {m : Mo} {A0 A1 A2 A3 : Option Addr} {n0 q0 n1 q1 n2 q2 n3 q3 : Nat} (h : ModR S W m A0 A1 A2 A3 n0 q0 n1 q1 n2 q2 n3 q3) (hS : ∀ b, S b → b < W.heap.size → S' b) : ModR S' W m A0 A1 A2 A3 n0 q0 n1 q1 n2 q2 n3 q3 :=
  ⟨h.l0.more nod_ok (by omega) hS, h.l1.more tpl_ok (by omega) hS, h.l2.more edg_ok (by omega) hS, h.l3.more sta_ok (by omega) hS⟩
theorem left_all {w : World} {g bg : Nat} {bs : List UInt8} (h : Rdr w g bs 0 bg) :
    Calls Tryz.prog 18 #[.pointer (some ⟨g, 0, none⟩)] w fun e w' => e = .returned (.int .i64 (bs.length : Int)) ∧ w.grownBy w' none :=
  (left_step h).mono fun _ _ ⟨h1, h2⟩ => ⟨by rw [h1]; simp, h2⟩
theorem take_all {w : World} {g bg : Nat} {bs : List UInt8} (h : Rdr w g bs 0 bg) :
    Calls Tryz.prog 17 #[.pointer (some ⟨g, 0, none⟩), .int .i64 (bs.length : Int)] w fun e w' => e = .returned (.tuple #[.string ⟨bs.toArray⟩, .nilIface]) ∧ w.grownBy w' (some g) ∧ Rdr w' g bs bs.length bg :=
  (take_ok h bs.length (by omega)).mono fun _ _ ⟨h1, h2, h3⟩ => ⟨by rw [h1, List.drop_zero, List.take_length], h2, by simpa using h3⟩
/-- Some readers of those that stand. -/
theorem St.pick {w0 w : World} {rs rs' : List RD} {fs : List FD} (h : St w0 w rs fs) (hm : ∀ r ∈ rs', r ∈ rs) (hn : (rs'.map RD.g).Nodup) : St w0 w rs' fs :=
  ⟨h.err, h.err0, h.step, fun r hr => h.rdr r (hm r hr), hn, h.flt⟩
theorem pick_nodup {a1 a2 a3 c1 c2 c3 d1 d2 d3 : Nat} (h : [d1, d2, d3, c1, c2, c3, a1, a2, a3].Nodup) : [a1, d1, c2, d2].Nodup := by
  simp only [List.nodup_cons, List.mem_cons, List.not_mem_nil, or_false, not_or, List.nodup_nil, and_true, not_false_eq_true] at h ⊢
  obtain ⟨⟨h1, _, _, h4, _, h6, _, _⟩, ⟨_, _, k3, _, k5, _, _⟩, _, _, ⟨_, m2, _, _⟩, _⟩ := h
  exact ⟨⟨fun e => h6 e.symm, fun e => m2 e.symm, fun e => k5 e.symm⟩, ⟨h4, h1⟩, fun e => k3 e.symm⟩
/-- The readers, in their arrays. -/
structure MP (w : World) (b1 b2 b3 a1 a2 a3 c1 c2 c3 d1 d2 d3 : Nat) (rs : List RD) (W : World) : Prop where
  st : St w W rs []
  x : Blk W b1 55 #[.pointer (some ⟨a1, 0, none⟩), .pointer (some ⟨a2, 0, none⟩), .pointer (some ⟨a3, 0, none⟩)]
  y : Blk W b2 55 #[.pointer (some ⟨c1, 0, none⟩), .pointer (some ⟨c2, 0, none⟩), .pointer (some ⟨c3, 0, none⟩)]
  z : Blk W b3 55 #[.pointer (some ⟨d1, 0, none⟩), .pointer (some ⟨d2, 0, none⟩), .pointer (some ⟨d3, 0, none⟩)]
section
variable {w W W' : World} {b1 b2 b3 a1 a2 a3 c1 c2 c3 d1 d2 d3 : Nat} {rs : List RD}
theorem MP.none_ (h : MP w b1 b2 b3 a1 a2 a3 c1 c2 c3 d1 d2 d3 rs W) (hg : W.grownBy W' none) : MP w b1 b2 b3 a1 a2 a3 c1 c2 c3 d1 d2 d3 rs W' := ⟨h.st.none_ hg, h.x.kept hg, h.y.kept hg, h.z.kept hg⟩
theorem MP.take {g at' bg : Nat} {bs : List UInt8} (h : MP w b1 b2 b3 a1 a2 a3 c1 c2 c3 d1 d2 d3 (⟨g, bs, 0, bg⟩ :: rs) W) (hg : W.grownBy W' (some g)) (hr : Rdr W' g bs at' bg) : MP w b1 b2 b3 a1 a2 a3 c1 c2 c3 d1 d2 d3 (⟨g, bs, at', bg⟩ :: rs) W' := by
  obtain ⟨cs, hb⟩ := h.st.head.blk
  exact ⟨h.st.move hg hr, h.x.grown hg (fun e => Blk.ne_ h.x hb (by decide) (by injection e)), h.y.grown hg (fun e => Blk.ne_ h.y hb (by decide) (by injection e)), h.z.grown hg (fun e => Blk.ne_ h.z hb (by decide) (by injection e))⟩
theorem MP.tail {r : RD} (h : MP w b1 b2 b3 a1 a2 a3 c1 c2 c3 d1 d2 d3 (r :: rs) W) : MP w b1 b2 b3 a1 a2 a3 c1 c2 c3 d1 d2 d3 rs W := ⟨h.st.tail, h.x, h.y, h.z⟩
end

set_option maxRecDepth 100000 in
set_option maxHeartbeats 4000000 in
theorem mparts_any (m o : Mo) (v u : Value) (w : World) (hE : ErrType w) (hm : ModA w.heap.size w v m) (ho : ModA w.heap.size w u o) :
    Calls Tryz.prog 6 #[v, u] w fun e w' => e = .returned (.bool true) ∧ w.grownBy w' none := by
  have HM := Lib.hid hm
  have HO := Lib.hid ho
  obtain ⟨v0, v1, v2, v3, v4, v5, v6, v7, rfl, -⟩ := hm.is
  obtain ⟨u0, u1, u2, u3, u4, u5, u6, u7, rfl, -⟩ := ho.is
  have HE := Lib.hid hE
  have HF1 := Lib.hid (fit_few hm.code hm.args)
  have HF2 := Lib.hid (fit_few ho.code ho.args)
  clear hE hm ho
  go_enter Tryz.func6, Tryz.ntmps6
  go_upto_region 1 with fail
  obtain ⟨w2, hw2⟩ : ∃ w2, ((w.alloc (.cells #[v0, v1, v2, v3, v4, v5, v6, v7] 28)).alloc (.cells #[u0, u1, u2, u3, u4, u5, u6, u7] 28)) = w2 := ⟨_, rfl⟩
  have HG2 : Hid (w.grownBy w2 none) := Lib.hid (by rw [← hw2]; exact only_alloc (only_alloc (only_refl _ _) _) _)
  have HX2 : Hid (Blk w2 w.heap.size 28 #[v0, v1, v2, v3, v4, v5, v6, v7]) := Lib.hid (by rw [← hw2]; exact (Blk.new _ _ _).alloc _)
  have HY2 : Hid (Blk w2 (w.heap.size + 1) 28 #[u0, u1, u2, u3, u4, u5, u6, u7]) := Lib.hid (by rw [← hw2]; exact blk_new_at (by simp) _ _)
  rw [hw2]
  clear hw2
  generalize hB : w.heap.size = B at *
  have HB := Lib.hid hB
  clear hB
  go_wp2_with fail
  refine (mworks_any _ (HE.out.kept HG2.out (fun _ e => by cases e))).mono ?_
  rintro e w3 ⟨rfl, g3⟩
  have HG3 := Lib.hid (only_trans HG2.out g3)
  have HX3 := Lib.hid (HX2.out.kept g3)
  have HY3 := Lib.hid (HY2.out.kept g3)
  clear g3 HX2 HY2
  go_upto_region 3 with fail
  refine wp_region_lit ?_
  refine wpList_load_row rfl 28 (.tmp 2) rfl B rfl 28 #[v0, v1, v2, v3, v4, v5, v6, v7] _ _ HX3.out Tryz.underlying28 rfl (by kernel_rfl) ?_
  simp only [Act.put, List.setIfInBounds_toArray, List.set_cons_zero, List.set_cons_succ]
  refine wpList_splitM 1 _ _ rfl rfl fun Q2 hQ2 => ?_
  have HQ2 := Lib.hid hQ2
  clear hQ2
  go_wp2_with fail
  refine (few_any m _ B w3 (by have := HG3.out.size; have := HB.out; omega) (HM.out.kept HG3.out)).mono ?_
  rintro e w4 ⟨⟨A0, A1, A2, A3, n0, q0, n1, q1, n2, q2, n3, q3, rfl, hr⟩, g4⟩
  have HG4 := Lib.hid (only_trans HG3.out g4)
  have HX4 := Lib.hid (HX3.out.kept g4)
  have HY4 := Lib.hid (HY3.out.kept g4)
  have HL3 : Hid (B + 2 ≤ w3.heap.size) := Lib.hid (by have := HY3.out.lt; show _ ≤ _; omega)
  have HR4 := Lib.hid hr
  clear hr g4 HX3 HY3
  go_wp2_with fail
  refine HQ2.out _ _ ?_
  clear HQ2
  refine wpList_store_row rfl 28 (.tmp 2) (.tmp 29) rfl B #[.slice A0 n0 q0, .slice A1 n1 q1, .slice A2 n2 q2, .slice A3 n3 q3, .slice none 0 0, .slice none 0 0, .slice none 0 0, .slice none 0 0] rfl rfl 28 _ HX4.out (by kernel_rfl) rfl (by simp [Value.oneCell']) ?_
  simp only [Act.put]
  have hgk : w4.grownBy (w4.setRow B #[.slice A0 n0 q0, .slice A1 n1 q1, .slice A2 n2 q2, .slice A3 n3 q3, .slice none 0 0, .slice none 0 0, .slice none 0 0, .slice none 0 0]) (some B) := only_rowM _ _ _
  have HX5 := Lib.hid (HX4.out.rowM #[.slice A0 n0 q0, .slice A1 n1 q1, .slice A2 n2 q2, .slice A3 n3 q3, .slice none 0 0, .slice none 0 0, .slice none 0 0, .slice none 0 0])
  have HY5 := Lib.hid (HY4.out.grown hgk (fun e => by injection e with e; omega))
  have HG5 : Hid (w.grownBy (w4.setRow B #[.slice A0 n0 q0, .slice A1 n1 q1, .slice A2 n2 q2, .slice A3 n3 q3, .slice none 0 0, .slice none 0 0, .slice none 0 0, .slice none 0 0]) none) := Lib.hid (only_new HG4.out hgk (by have := HB.out; omega))
  have HR5 := Lib.hid ((HR4.out.kept (KeptS.grown hgk (fun b hb e => by have h1 := HL3.out; injection e with e; rcases hb with hb | hb <;> omega))).more (S' := fun k => k < B ∨ B + 2 ≤ k) (fun b hb _ => by have h1 := HL3.out; rcases hb with hb | hb; exact .inl hb; exact .inr (by omega)))
  have HO5 := Lib.hid ((HO.out.kept HG4.out).keptS (KeptS.grown hgk (fun b hb e => by have hb' : b < B := hb; injection e with e; omega)))
  clear hgk HX4 HY4 HG4 HR4 HL3 HG3 HO HM
  generalize (w4.setRow B _) = w5 at *
  go_upto_region 4 with fail
  refine wp_region_lit ?_
  refine wpList_load_row rfl 28 (.tmp 3) rfl (B + 1) rfl 28 #[u0, u1, u2, u3, u4, u5, u6, u7] _ _ HY5.out Tryz.underlying28 rfl (by kernel_rfl) ?_
  simp only [Act.put, List.setIfInBounds_toArray, List.set_cons_zero, List.set_cons_succ]
  refine wpList_splitM 1 _ _ rfl rfl fun Q2 hQ2 => ?_
  have HQ2 := Lib.hid hQ2
  clear hQ2
  go_wp2_with fail
  refine (few_any o _ B w5 (by have := HG5.out.size; have := HB.out; omega) HO5.out).mono ?_
  rintro e w6 ⟨⟨D0, D1, D2, D3, k0, r0, k1, r1, k2, r2, k3, r3, rfl, hr⟩, g6⟩
  have HG6 := Lib.hid (only_trans HG5.out g6)
  have HX6 := Lib.hid (HX5.out.kept g6)
  have HY6 := Lib.hid (HY5.out.kept g6)
  have HL5 : Hid (B + 2 ≤ w5.heap.size) := Lib.hid (by have := HY5.out.lt; show _ ≤ _; omega)
  have HR6 := Lib.hid (HR5.out.kept (KeptS.none_ g6))
  have HS6 := Lib.hid hr
  clear hr g6 HX5 HY5 HR5
  go_wp2_with fail
  refine HQ2.out _ _ ?_
  clear HQ2
  refine wpList_store_row rfl 28 (.tmp 3) (.tmp 31) rfl (B + 1) #[.slice D0 k0 r0, .slice D1 k1 r1, .slice D2 k2 r2, .slice D3 k3 r3, .slice none 0 0, .slice none 0 0, .slice none 0 0, .slice none 0 0] rfl rfl 28 _ HY6.out (by kernel_rfl) rfl (by simp [Value.oneCell']) ?_
  simp only [Act.put]
  have hgk : w6.grownBy (w6.setRow (B + 1) #[.slice D0 k0 r0, .slice D1 k1 r1, .slice D2 k2 r2, .slice D3 k3 r3, .slice none 0 0, .slice none 0 0, .slice none 0 0, .slice none 0 0]) (some (B + 1)) := only_rowM _ _ _
  have HY7 := Lib.hid (HY6.out.rowM #[.slice D0 k0 r0, .slice D1 k1 r1, .slice D2 k2 r2, .slice D3 k3 r3, .slice none 0 0, .slice none 0 0, .slice none 0 0, .slice none 0 0])
  have HX7 := Lib.hid (HX6.out.grown hgk (fun e => by injection e with e; omega))
  have HG7 : Hid (w.grownBy (w6.setRow (B + 1) #[.slice D0 k0 r0, .slice D1 k1 r1, .slice D2 k2 r2, .slice D3 k3 r3, .slice none 0 0, .slice none 0 0, .slice none 0 0, .slice none 0 0]) none) := Lib.hid (only_new HG6.out hgk (by have := HB.out; omega))
  have HR7 := Lib.hid (HR6.out.kept (KeptS.grown hgk (fun b hb e => by injection e with e; rcases hb with hb | hb <;> omega)))
  have HS7 := Lib.hid ((HS6.out.kept (KeptS.grown hgk (fun b hb e => by have h1 := HL5.out; injection e with e; rcases hb with hb | hb <;> omega))).more (S' := fun k => k < B ∨ B + 2 ≤ k) (fun b hb _ => by have h1 := HL5.out; rcases hb with hb | hb; exact .inl hb; exact .inr (by omega)))
  clear hgk HX6 HY6 HG6 HR6 HS6 HL5 HG5 HO5
  generalize (w6.setRow (B + 1) _) = w7 at *
  go_upto_region 5 with fail
  refine wp_region_lit ?_
  refine wpList_load_row rfl 28 (.tmp 2) rfl B rfl 28 #[.slice A0 n0 q0, .slice A1 n1 q1, .slice A2 n2 q2, .slice A3 n3 q3, .slice none 0 0, .slice none 0 0, .slice none 0 0, .slice none 0 0] _ _ HX7.out Tryz.underlying28 rfl (by kernel_rfl) ?_
  simp only [Act.put, List.setIfInBounds_toArray, List.set_cons_zero, List.set_cons_succ]
  go_wp2_with fail
  obtain ⟨⟨x1, c1⟩, hp1⟩ : ∃ p, putP (fewM m) = p := ⟨_, rfl⟩
  obtain ⟨⟨x2, c2⟩, hp2⟩ : ∃ p, putP (fewM o) = p := ⟨_, rfl⟩
  obtain ⟨⟨x3, c3⟩, hp3⟩ : ∃ p, putP (mixM (fewM m) (fewM o)) = p := ⟨_, rfl⟩
  have HV1 : Hid (putV (fewM m) = .tuple #[.string ⟨x1.toArray⟩, .int .i64 c1]) := Lib.hid (by unfold putV; rw [hp1])
  have HV2 : Hid (putV (fewM o) = .tuple #[.string ⟨x2.toArray⟩, .int .i64 c2]) := Lib.hid (by unfold putV; rw [hp2])
  have HV3 : Hid (putV (mixM (fewM m) (fewM o)) = .tuple #[.string ⟨x3.toArray⟩, .int .i64 c3]) := Lib.hid (by unfold putV; rw [hp3])
  have HP1 := Lib.hid hp1
  have HP2 := Lib.hid hp2
  have HP3 := Lib.hid hp3
  clear hp1 hp2 hp3
  refine (mput_any (fewM m) _ _ _ _ _ _ _ _ _ _ _ _ _ _ _ _ _ _ _ _ _ _ _ _ w7 (HR7.out.more (fun _ _ h => h)) HF1.out).mono ?_
  rintro e w8 ⟨he, g8⟩
  rw [HV1.out] at he
  subst he
  have HG8 := Lib.hid (only_trans HG7.out g8)
  have HX8 := Lib.hid (HX7.out.kept g8)
  have HY8 := Lib.hid (HY7.out.kept g8)
  have HR8 := Lib.hid (HR7.out.kept (KeptS.none_ g8))
  have HS8 := Lib.hid (HS7.out.kept (KeptS.none_ g8))
  clear g8 HG7 HX7 HY7 HR7 HS7
  go_upto_region 6 with fail
  refine wp_region_lit ?_
  refine wpList_load_row rfl 28 (.tmp 3) rfl (B + 1) rfl 28 #[.slice D0 k0 r0, .slice D1 k1 r1, .slice D2 k2 r2, .slice D3 k3 r3, .slice none 0 0, .slice none 0 0, .slice none 0 0, .slice none 0 0] _ _ HY8.out Tryz.underlying28 rfl (by kernel_rfl) ?_
  simp only [Act.put, List.setIfInBounds_toArray, List.set_cons_zero, List.set_cons_succ]
  go_wp2_with fail
  refine (mput_any (fewM o) _ _ _ _ _ _ _ _ _ _ _ _ _ _ _ _ _ _ _ _ _ _ _ _ w8 (HS8.out.more (fun _ _ h => h)) HF2.out).mono ?_
  rintro e w9 ⟨he, g9⟩
  rw [HV2.out] at he
  subst he
  have HG9 := Lib.hid (only_trans HG8.out g9)
  have HX9 := Lib.hid (HX8.out.kept g9)
  have HY9 := Lib.hid (HY8.out.kept g9)
  have HR9 := Lib.hid (HR8.out.kept (KeptS.none_ g9))
  have HS9 := Lib.hid (HS8.out.kept (KeptS.none_ g9))
  clear g9 HG8 HX8 HY8 HR8 HS8
  have p0 := HX9.out.cell 0
  have p1 := HY9.out.cell 1
  have p2 := HX9.out.cell 2
  have p3 := HY9.out.cell 3
  go_upto_region 8 with fail
  generalize hw : World.alloc w9 _ = w10
  have hga : w9.grownBy w10 none := by rw [← hw]; exact only_alloc (only_refl _ _) _
  have HX10 : Hid (Blk w10 w9.heap.size 28 #[.slice A0 n0 q0, .slice D1 k1 r1, .slice A2 n2 q2, .slice D3 k3 r3, .slice none 0 0, .slice none 0 0, .slice none 0 0, .slice none 0 0]) := Lib.hid (by rw [← hw]; exact Blk.new _ _ _)
  have HG10 := Lib.hid (only_trans HG9.out hga)
  have HM10 : Hid (ModR (fun k => k < w10.heap.size) w10 (mixM (fewM m) (fewM o)) A0 D1 A2 D3 n0 q0 k1 r1 n2 q2 k3 r3) := Lib.hid (by
    have h1 := (HR9.out.kept (KeptS.none_ hga)).more (S' := fun k => k < w10.heap.size) (fun _ _ h => h)
    have h2 := (HS9.out.kept (KeptS.none_ hga)).more (S' := fun k => k < w10.heap.size) (fun _ _ h => h)
    exact ⟨h1.l0, h2.l1, h1.l2, h2.l3⟩)
  clear hw hga p0 p1 p2 p3 HR9 HS9 HX9 HY9 HG9
  generalize w9.heap.size = bm at *
  refine wp_region_lit ?_
  refine wpList_load_row rfl 28 (.tmp 9) rfl bm rfl 28 #[.slice A0 n0 q0, .slice D1 k1 r1, .slice A2 n2 q2, .slice D3 k3 r3, .slice none 0 0, .slice none 0 0, .slice none 0 0, .slice none 0 0] _ _ HX10.out Tryz.underlying28 rfl (by kernel_rfl) ?_
  simp only [Act.put, List.setIfInBounds_toArray, List.set_cons_zero, List.set_cons_succ]
  go_wp2_with fail
  refine (mput_any (mixM (fewM m) (fewM o)) _ _ _ _ _ _ _ _ _ _ _ _ _ _ _ _ _ _ _ _ _ _ _ _ w10 HM10.out (fit_mix HF2.out)).mono ?_
  rintro e w11 ⟨he, g11⟩
  rw [HV3.out] at he
  subst he
  have HG11 := Lib.hid (only_trans HG10.out g11)
  clear g11 HX10 HG10 HM10
  by_cases hc1 : c1 = 0
  · by_cases hc2 : c2 = 0
    · subst hc1 hc2
      obtain ⟨a, b, c, a', b', c', e1, e2, ⟨c'', e3, l3⟩, la, lb, lc, la', lb', lc'⟩ := mix_put HF2.out (by rw [HP1.out]) (by rw [HP2.out])
      rw [HP1.out] at e1
      rw [HP2.out] at e2
      rw [HP3.out] at e3
      simp only [Prod.mk.injEq] at e1 e2 e3
      obtain ⟨e3, rfl⟩ := e3
      have HJ := Lib.hid (And.intro e1 (And.intro e2 e3))
      have HLn := Lib.hid (And.intro la (And.intro lb (And.intro lc (And.intro la' (And.intro lb' (And.intro lc' l3))))))
      clear e1 e2 e3 la lb lc la' lb' lc' l3
      have HST : Hid (St w11 w11 [] []) := Lib.hid (St.start (HE.out.kept HG11.out (fun _ e => by cases e)))
      go_wp2_with fail
      refine (split_joined ⟨a.toArray⟩ ⟨b.toArray⟩ ⟨c.toArray⟩ ⟨x1.toArray⟩ (by show a.toArray.size ≤ _; simpa using HLn.out.1) (by show b.toArray.size ≤ _; simpa using HLn.out.2.1) (by show c.toArray.size ≤ _; simpa using HLn.out.2.2.1) (by show x1 = _; exact HJ.out.1) w11 (HST.out.err)).mono ?_
      rintro e w12 ⟨qa1, qa2, qa3, rfl, hst⟩
      have HST1 := Lib.hid (HST.out.join hst)
      have hkt : w11.grownBy w12 none := hst.step
      clear hst
      clear hkt
      go_upto_region 12 with fail
      generalize hw : World.alloc w12 _ = w13
      have hga : w12.grownBy w13 none := by rw [← hw]; exact only_alloc (only_refl _ _) _
      have HX13 : Hid (Blk w13 w12.heap.size 55 #[.pointer (some ⟨qa1, 0, none⟩), .pointer (some ⟨qa2, 0, none⟩), .pointer (some ⟨qa3, 0, none⟩)]) := Lib.hid (by rw [← hw]; exact Blk.new _ _ _)
      have HST2 := Lib.hid (HST1.out.none_ hga)
      clear hw hga HST HST1
      generalize w12.heap.size = bx at *
      go_wp2_with fail
      refine (split_joined ⟨a'.toArray⟩ ⟨b'.toArray⟩ ⟨c'.toArray⟩ ⟨x2.toArray⟩ (by show a'.toArray.size ≤ _; simpa using HLn.out.2.2.2.1) (by show b'.toArray.size ≤ _; simpa using HLn.out.2.2.2.2.1) (by show c'.toArray.size ≤ _; simpa using HLn.out.2.2.2.2.2.1) (by show x2 = _; exact HJ.out.2.1) w13 (HST2.out.err)).mono ?_
      rintro e w14 ⟨qc1, qc2, qc3, rfl, hst⟩
      have HSX1 := Lib.hid (HST2.out.join hst)
      have hkt : w13.grownBy w14 none := hst.step
      clear hst
      have HX14 := Lib.hid (HX13.out.kept hkt)
      clear hkt HX13
      go_upto_region 13 with fail
      generalize hw : World.alloc w14 _ = w15
      have hga : w14.grownBy w15 none := by rw [← hw]; exact only_alloc (only_refl _ _) _
      have HY15 : Hid (Blk w15 w14.heap.size 55 #[.pointer (some ⟨qc1, 0, none⟩), .pointer (some ⟨qc2, 0, none⟩), .pointer (some ⟨qc3, 0, none⟩)]) := Lib.hid (by rw [← hw]; exact Blk.new _ _ _)
      have HX15 := Lib.hid (HX14.out.kept hga)
      have HSX2 := Lib.hid (HSX1.out.none_ hga)
      clear hw hga HST2 HSX1 HX14
      generalize w14.heap.size = by_ at *
      go_wp2_with fail
      refine (split_joined ⟨a.toArray⟩ ⟨b'.toArray⟩ ⟨c''.toArray⟩ ⟨x3.toArray⟩ (by show a.toArray.size ≤ _; simpa using HLn.out.1) (by show b'.toArray.size ≤ _; simpa using HLn.out.2.2.2.2.1) (by show c''.toArray.size ≤ _; simpa using HLn.out.2.2.2.2.2.2) (by show x3 = _; exact HJ.out.2.2) w15 (HSX2.out.err)).mono ?_
      rintro e w16 ⟨qd1, qd2, qd3, rfl, hst⟩
      have HSY1 := Lib.hid (HSX2.out.join hst)
      have hkt : w15.grownBy w16 none := hst.step
      clear hst
      have HX16 := Lib.hid (HX15.out.kept hkt)
      have HY16 := Lib.hid (HY15.out.kept hkt)
      clear hkt HX15 HY15
      go_upto_region 14 with fail
      generalize hw : World.alloc w16 _ = w17
      have hga : w16.grownBy w17 none := by rw [← hw]; exact only_alloc (only_refl _ _) _
      have HZ17 : Hid (Blk w17 w16.heap.size 55 #[.pointer (some ⟨qd1, 0, none⟩), .pointer (some ⟨qd2, 0, none⟩), .pointer (some ⟨qd3, 0, none⟩)]) := Lib.hid (by rw [← hw]; exact Blk.new _ _ _)
      have HP : Hid (MP w11 bx by_ w16.heap.size qa1 qa2 qa3 qc1 qc2 qc3 qd1 qd2 qd3 _ w17) := Lib.hid ⟨HSY1.out.none_ hga, HX16.out.kept hga, HY16.out.kept hga, HZ17.out⟩
      clear hw hga HSX2 HSY1 HX16 HY16 HZ17
      generalize w16.heap.size = bz at *
      have x0 := HP.out.x.cell 0
      have y1 := HP.out.y.cell 1
      have z0 := HP.out.z.cell 0
      have z1 := HP.out.z.cell 1
      go_upto_region 16 with fail
      clear x0 y1 z0 z1
      have HQ : Hid (MP w11 bx by_ bz qa1 qa2 qa3 qc1 qc2 qc3 qd1 qd2 qd3 [⟨qa1, a, 0, (partsOf a b c).p1⟩, ⟨qd1, a, 0, (partsOf a b' c'').p1⟩, ⟨qc2, b', 0, (partsOf a' b' c').p2⟩, ⟨qd2, b', 0, (partsOf a b' c'').p2⟩] w17) := Lib.hid
        ⟨HP.out.st.pick (by intro r hr; simp at hr ⊢; rcases hr with rfl | rfl | rfl | rfl <;> simp) (pick_nodup HP.out.st.apart), HP.out.x, HP.out.y, HP.out.z⟩
      clear HP
      go_cut [18] from 117 to 125 (fun u W => u = .string ⟨a.toArray⟩ ∧ MP w11 bx by_ bz qa1 qa2 qa3 qc1 qc2 qc3 qd1 qd2 qd3 [⟨qd1, a, 0, (partsOf a b' c'').p1⟩, ⟨qc2, b', 0, (partsOf a' b' c').p2⟩, ⟨qd2, b', 0, (partsOf a b' c'').p2⟩] W)
      case first =>
        have s := HQ.out.none_ (only_drew (only_refl w17 none))
        clear HQ
        go_region_held3 (fun w' => w'.cell? ⟨bx, 0, none⟩ = some (.pointer (some ⟨qa1, 0, none⟩))) (exact s.x.cell 0) (first | (go_at_call 18; with_reducible refine Calls.mono (left_all s.st.head) ?_; rintro e W8 ⟨rfl, hs⟩; replace s := s.none_ hs; clear hs) | (go_at_call 17; with_reducible refine Calls.mono (take_all s.st.head) ?_; rintro e W8 ⟨rfl, hs, hr⟩; replace s := s.take hs hr; clear hs hr) | fail)
        all_goals
          have HZ := Lib.hid s.tail
          clear s
          go_wp2_with fail
          go_meet
          exact ⟨rfl, HZ.out⟩
      case rest =>
        obtain ⟨rfl, hq⟩ := hcut
        have HQ := Lib.hid hq
        clear hq
        generalize wc = y1 at *
        go_upto_region 17 with fail
        go_cut [20] from 126 to 134 (fun u W => u = .string ⟨a.toArray⟩ ∧ MP w11 bx by_ bz qa1 qa2 qa3 qc1 qc2 qc3 qd1 qd2 qd3 [⟨qc2, b', 0, (partsOf a' b' c').p2⟩, ⟨qd2, b', 0, (partsOf a b' c'').p2⟩] W)
        case first =>
          have s := HQ.out.none_ (only_drew (only_refl y1 none))
          clear HQ
          go_region_held3 (fun w' => w'.cell? ⟨bz, 0, none⟩ = some (.pointer (some ⟨qd1, 0, none⟩))) (exact s.z.cell 0) (first | (go_at_call 18; with_reducible refine Calls.mono (left_all s.st.head) ?_; rintro e W8 ⟨rfl, hs⟩; replace s := s.none_ hs; clear hs) | (go_at_call 17; with_reducible refine Calls.mono (take_all s.st.head) ?_; rintro e W8 ⟨rfl, hs, hr⟩; replace s := s.take hs hr; clear hs hr) | fail)
          all_goals
            have HZ := Lib.hid s.tail
            clear s
            go_wp2_with fail
            go_meet
            exact ⟨rfl, HZ.out⟩
        case rest =>
          obtain ⟨rfl, hq⟩ := hcut
          have HQ := Lib.hid hq
          clear hq
          generalize wc = y2 at *
          go_upto_region 18 with fail
          go_cut [22] from 135 to 143 (fun u W => u = .string ⟨b'.toArray⟩ ∧ MP w11 bx by_ bz qa1 qa2 qa3 qc1 qc2 qc3 qd1 qd2 qd3 [⟨qd2, b', 0, (partsOf a b' c'').p2⟩] W)
          case first =>
            have s := HQ.out.none_ (only_drew (only_refl y2 none))
            clear HQ
            go_region_held3 (fun w' => w'.cell? ⟨by_, 1, none⟩ = some (.pointer (some ⟨qc2, 0, none⟩))) (exact s.y.cell 1) (first | (go_at_call 18; with_reducible refine Calls.mono (left_all s.st.head) ?_; rintro e W8 ⟨rfl, hs⟩; replace s := s.none_ hs; clear hs) | (go_at_call 17; with_reducible refine Calls.mono (take_all s.st.head) ?_; rintro e W8 ⟨rfl, hs, hr⟩; replace s := s.take hs hr; clear hs hr) | fail)
            all_goals
              have HZ := Lib.hid s.tail
              clear s
              go_wp2_with fail
              go_meet
              exact ⟨rfl, HZ.out⟩
          case rest =>
            obtain ⟨rfl, hq⟩ := hcut
            have HQ := Lib.hid hq
            clear hq
            generalize wc = y3 at *
            go_upto_region 19 with fail
            go_cut [24] from 144 to 152 (fun u W => u = .string ⟨b'.toArray⟩ ∧ MP w11 bx by_ bz qa1 qa2 qa3 qc1 qc2 qc3 qd1 qd2 qd3 [] W)
            case first =>
              have s := HQ.out.none_ (only_drew (only_refl y3 none))
              clear HQ
              go_region_held3 (fun w' => w'.cell? ⟨bz, 1, none⟩ = some (.pointer (some ⟨qd2, 0, none⟩))) (exact s.z.cell 1) (first | (go_at_call 18; with_reducible refine Calls.mono (left_all s.st.head) ?_; rintro e W8 ⟨rfl, hs⟩; replace s := s.none_ hs; clear hs) | (go_at_call 17; with_reducible refine Calls.mono (take_all s.st.head) ?_; rintro e W8 ⟨rfl, hs, hr⟩; replace s := s.take hs hr; clear hs hr) | fail)
              all_goals
                have HZ := Lib.hid s.tail
                clear s
                go_wp2_with fail
                go_meet
                exact ⟨rfl, HZ.out⟩
            case rest =>
              obtain ⟨rfl, hq⟩ := hcut
              have HQ := Lib.hid hq
              clear hq
              generalize wc = y4 at *
              go_wp2_with fail
              go_ret
              exact ⟨rfl, only_trans HG11.out HQ.out.st.step⟩
    · have HX : Hid (c1 = 0) := Lib.hid hc1
      subst hc1
      go_wp2_with fail
      go_ret
      exact ⟨rfl, HG11.out⟩
  · have hx1 : x1 = [] := by
      have h := put_none (m := fewM m) (by rw [HP1.out]; exact hc1)
      rw [HP1.out] at h
      exact h
    subst hx1
    go_wp2_with fail
    go_ret
    exact ⟨rfl, HG11.out⟩
end Go.Proofs.YtohhojbeclbedaaGreatDoor

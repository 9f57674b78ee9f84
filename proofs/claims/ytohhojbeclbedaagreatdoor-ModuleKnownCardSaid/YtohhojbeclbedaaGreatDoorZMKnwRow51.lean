/- Texts joined for the claim's sake: MWks. -/
import Derived.Test.YtohhojbeclbedaaGreatDoorZMKnwRow50
namespace Go.Proofs.YtohhojbeclbedaaGreatDoor
open Go.RowKit

set_option maxRecDepth 100000 in
set_option maxHeartbeats 4000000 in
theorem mworks_any (w : World) (hE : ErrType w) : Calls Tryz.prog 11 #[] w fun e w' => e = .returned (.bool true) ∧ w.grownBy w' none := by
  have HE := Lib.hid hE
  have HB := Lib.hid hE
  clear hE
  go_enter Tryz.func11, Tryz.ntmps11
  go_wp2_with fail
  refine (least_any _).mono ?_
  rintro e w1 ⟨a, b, c, rfl, g1, hm1⟩
  have HG1 := Lib.hid g1
  have HM1 := Lib.hid hm1
  clear g1 hm1
  go_wp2_with fail
  refine (mput_any leastP _ _ _ _ _ _ _ _ _ _ _ _ _ _ _ _ _ _ _ _ _ _ _ _ w1 HM1.out fit_least).mono ?_
  intro e w2 hp
  obtain ⟨rfl, g2⟩ := put_is hp put_least
  have HG2 := Lib.hid (only_trans HG1.out g2)
  clear hp g2
  go_wp2_with fail
  refine (mread_any ⟨#[67, 76, 81, 89, 1, 1, 2, 1, 0, 2, 4, 1, 0, 1, 24, 3, 4, 0, 1, 0, 0]⟩ (by decide) w2 (HE.out.kept HG2.out (fun _ e => by cases e))).mono ?_
  intro e w3 hr
  obtain ⟨g3, cs, rfl, hm⟩ := readP_ok (x := partsOf [1, 0] [1, 0, 1, 24] [0, 1, 0, 0]) (m := leastM) hr (split_l 0 24).1 (by rw [(split_l 0 24).2 readT]; exact read_least)
  obtain ⟨b4, o4, b5, o5, b7, o7, b1, o1, bc, oc, ba, oa, c4, c5, c7, c1, cc, ca, A0, A2, A3, A6, q0, q2, q3, q6, L⟩ := mod_one hm
  have hcs := L.cells
  subst hcs
  have HL1 := Lib.hid L
  have HG3 := Lib.hid (only_trans HG2.out g3)
  clear hr g3 hm L
  go_upto_region 4 with fail
  have hga : w3.grownBy (w3.alloc (.cells #[.slice A0 1 q0, .slice (some ⟨b1, o1, none⟩) 1 c1, .slice A2 0 q2, .slice A3 1 q3, .slice (some ⟨b4, o4, none⟩) 1 c4, .slice (some ⟨b5, o5, none⟩) 1 c5, .slice A6 0 q6, .slice (some ⟨b7, o7, none⟩) 1 c7] 28)) none := only_alloc (only_refl _ _) _
  have HG4 := Lib.hid (only_trans HG3.out hga)
  have HL4 := Lib.hid (HL1.out.kept hga)
  have HM4 := Lib.hid (Blk.new w3 28 #[.slice A0 1 q0, .slice (some ⟨b1, o1, none⟩) 1 c1, .slice A2 0 q2, .slice A3 1 q3, .slice (some ⟨b4, o4, none⟩) 1 c4, .slice (some ⟨b5, o5, none⟩) 1 c5, .slice A6 0 q6, .slice (some ⟨b7, o7, none⟩) 1 c7])
  generalize (w3.alloc (.cells #[.slice A0 1 q0, .slice (some ⟨b1, o1, none⟩) 1 c1, .slice A2 0 q2, .slice A3 1 q3, .slice (some ⟨b4, o4, none⟩) 1 c4, .slice (some ⟨b5, o5, none⟩) 1 c5, .slice A6 0 q6, .slice (some ⟨b7, o7, none⟩) 1 c7] 28)) = w4 at *
  generalize w3.heap.size = bm at *
  clear hga HL1 HM1
  go_wp2_with fail
  refine (mput_any emptyP _ _ _ _ _ _ _ _ _ _ _ _ _ _ _ _ _ _ _ _ _ _ _ _ w4 (nil_empty w4) fit_empty).mono ?_
  intro e w5 hp
  obtain ⟨rfl, g5⟩ := put_is hp put_empty
  have HG5 := Lib.hid (only_trans HG4.out g5)
  have HL5 := Lib.hid (HL4.out.kept g5)
  have HM5 := Lib.hid (HM4.out.kept g5)
  clear hp g5 HL4 HM4
  go_wp2_with fail
  have hga : w5.grownBy (w5.alloc (.cells #[.slice none 0 0, .slice none 0 0, .slice none 0 0] 50)) none := only_alloc (only_refl _ _) _
  refine (mput_any onetP _ _ _ _ _ _ _ _ _ _ _ _ _ _ _ _ _ _ _ _ _ _ _ _ (w5.alloc (.cells #[.slice none 0 0, .slice none 0 0, .slice none 0 0] 50)) (nil_onet (Blk.new w5 50 _)) fit_onet).mono ?_
  intro e w6 hp
  obtain ⟨rfl, g6⟩ := put_is hp put_onet
  have HG6 := Lib.hid (only_trans (only_trans HG5.out hga) g6)
  have HL6 := Lib.hid ((HL5.out.kept hga).kept g6)
  have HM6 := Lib.hid ((HM5.out.kept hga).kept g6)
  clear hp g6 HL5 HM5 hga
  go_upto_region 6 with fail
  have k1 := HM6.out.cell 1
  have k4 := HM6.out.cell 4
  have k5 := HM6.out.cell 5
  have k7 := HM6.out.cell 7
  have k8 := HL6.out.tc
  have k9 := HL6.out.ta
  go_upto_region 8 with fail
  clear k1 k4 k5 k7 k8 k9
  go_wp2_with fail
  refine (mread_any ⟨#[67, 76, 81, 89, 1, 1, 2, 1, 0, 2, 4, 1, 0, 1, 6, 3, 4, 0, 1, 0, 0]⟩ (by decide) w6 (HE.out.kept HG6.out (fun _ e => by cases e))).mono ?_
  intro e w7 hr
  obtain ⟨g7, cs, rfl, hm⟩ := readP_ok (x := partsOf [1, 0] [1, 0, 1, 6] [0, 1, 0, 0]) hr (split_l 0 6).1 (by rw [(split_l 0 6).2 readT]; exact read_mul)
  obtain ⟨b4', o4', b5', o5', b7', o7', b1', o1', bc', oc', ba', oa', c4', c5', c7', c1', cc', ca', A0', A2', A3', A6', q0', q2', q3', q6', L⟩ := mod_one hm
  have hcs := L.cells
  subst hcs
  have HK7 := Lib.hid L
  have HG7 := Lib.hid (only_trans HG6.out g7)
  have HL7 := Lib.hid (HL6.out.kept g7)
  have HM7 := Lib.hid (HM6.out.kept g7)
  clear hr g7 hm L HL6 HM6
  go_upto_region 9 with fail
  have hga : w7.grownBy (w7.alloc (.cells #[.slice A0' 1 q0', .slice (some ⟨b1', o1', none⟩) 1 c1', .slice A2' 0 q2', .slice A3' 1 q3', .slice (some ⟨b4', o4', none⟩) 1 c4', .slice (some ⟨b5', o5', none⟩) 1 c5', .slice A6' 0 q6', .slice (some ⟨b7', o7', none⟩) 1 c7'] 28)) none := only_alloc (only_refl _ _) _
  have HG8 := Lib.hid (only_trans HG7.out hga)
  have HL8 := Lib.hid (HL7.out.kept hga)
  have HM8 := Lib.hid (HM7.out.kept hga)
  have HK8 := Lib.hid (HK7.out.kept hga)
  have HN8 := Lib.hid (Blk.new w7 28 #[.slice A0' 1 q0', .slice (some ⟨b1', o1', none⟩) 1 c1', .slice A2' 0 q2', .slice A3' 1 q3', .slice (some ⟨b4', o4', none⟩) 1 c4', .slice (some ⟨b5', o5', none⟩) 1 c5', .slice A6' 0 q6', .slice (some ⟨b7', o7', none⟩) 1 c7'])
  generalize (w7.alloc (.cells #[.slice A0' 1 q0', .slice (some ⟨b1', o1', none⟩) 1 c1', .slice A2' 0 q2', .slice A3' 1 q3', .slice (some ⟨b4', o4', none⟩) 1 c4', .slice (some ⟨b5', o5', none⟩) 1 c5', .slice A6' 0 q6', .slice (some ⟨b7', o7', none⟩) 1 c7'] 28)) = w8 at *
  generalize w7.heap.size = bn at *
  clear hga HL7 HM7 HK7
  have n1 := HN8.out.cell 1
  have n2 := HK8.out.tc
  have n3 := HK8.out.hc
  have k1 := HM8.out.cell 1
  have k4 := HM8.out.cell 4
  have k5 := HM8.out.cell 5
  have k7 := HM8.out.cell 7
  have k8 := HL8.out.tc
  have k9 := HL8.out.ta
  have k10 := HL8.out.h4
  have k11 := HL8.out.h5
  have k12 := HL8.out.h7
  have k13 := HL8.out.hc
  have k14 := HL8.out.ha
  go_wp2_with fail
  clear n1 n2 n3 k1 k4 k5 k7 k8 k9 k10 k11 k12 k13 k14
  refine (mfails_any ⟨#[67, 76, 81, 89, 1, 1, 2, 1, 0, 2, 4, 1, 0, 1, 25, 3, 4, 0, 1, 0, 0]⟩ rfl (by decide) (x := partsOf [1, 0] [1, 0, 1, 25] [0, 1, 0, 0]) (c := 11) (y := 14) (split_l 0 25).1 (by rw [(split_l 0 25).2 readT]; exact read_25) rfl _ (HE.out.kept HG8.out (fun _ e => by cases e))).mono ?_
  rintro e w9 ⟨rfl, g9⟩
  have HG9 := Lib.hid (only_trans HG8.out g9)
  go_wp2_with fail
  refine (mfails_any ⟨#[67, 76, 81, 89, 1, 1, 2, 1, 3, 2, 4, 1, 0, 1, 24, 3, 4, 0, 1, 0, 0]⟩ rfl (by decide) (x := partsOf [1, 3] [1, 0, 1, 24] [0, 1, 0, 0]) (c := 3) (y := 9) (split_l 3 24).1 (by rw [(split_l 3 24).2 readT]; exact read_3) rfl _ (HE.out.kept HG9.out (fun _ e => by cases e))).mono ?_
  rintro e w10 ⟨rfl, g10⟩
  have HG10 := Lib.hid (only_trans HG9.out g10)
  go_wp2_with fail
  go_ret
  exact ⟨rfl, HG10.out⟩
end Go.Proofs.YtohhojbeclbedaaGreatDoor

/- ClassGoes: the walk, from the contracts. -/
import Derived.Test.YtepjkoegbehojaaZCTables
import Derived.Test.YtepjkoegbehojaaZMgRN
namespace Go.Proofs.Ytepjkoegbehojaa
open Go.RowKit Go.Shelf

/-- A type's class is a number. -/
theorem typeA_in {T : ClsT} (h : Wf T) (x : Ed) : -9223372036854775808 ≤ (typeA T x).1 ∧ (typeA T x).1 ≤ 9223372036854775807 := by
  have hs := h.small
  unfold typeA
  split
  · exact ⟨by decide, by decide⟩
  · rename_i hx
    have hlt : x.1.toNat < T.of_.length := by omega
    obtain ⟨c, hc⟩ : ∃ c, T.of_[x.1.toNat]? = some c := ⟨_, List.getElem?_eq_getElem hlt⟩
    have hb := h.of_ c (List.mem_of_getElem? hc)
    have e : T.of_.getD x.1.toNat 0 = c := by rw [List.getD_eq_getElem?_getD, hc]; rfl
    rw [e]
    split <;> dsimp only <;> omega
/-- What stands in the loop: the table's box, the box of what is asked. -/
structure GSt (w : World) (Bt Ba : Nat) (tc : Array Value) (p0 p1 z2 : Int) (W : World) : Prop where
  gr : w.grownBy W none
  hb : w.heap.size ≤ Ba
  bt : Blk W Bt 27 tc
  ba : Blk W Ba 36 #[.int .i64 p0, .int .i64 p1, .int .i64 z2]
  in_ : -9223372036854775808 ≤ p0 ∧ p0 ≤ 9223372036854775807
theorem GSt.kept {w W W' : World} {Bt Ba : Nat} {tc : Array Value} {p0 p1 z2 : Int} (h : GSt w Bt Ba tc p0 p1 z2 W) (hg : W.grownBy W' none) : GSt w Bt Ba tc p0 p1 z2 W' := ⟨only_trans h.gr hg, h.hb, h.bt.kept hg, h.ba.kept hg, h.in_⟩
theorem GSt.put {w W : World} {Bt Ba : Nat} {tc : Array Value} {p0 p1 z2 : Int} (h : GSt w Bt Ba tc p0 p1 z2 W) (q0 q1 : Int) (hq : -9223372036854775808 ≤ q0 ∧ q0 ≤ 9223372036854775807) : GSt w Bt Ba tc q0 q1 z2 ((W.setCell ⟨Ba, 0, none⟩ (.int .i64 q0)).setCell ⟨Ba, 1, none⟩ (.int .i64 q1)) := by
  have hne : Bt ≠ Ba := Blk.ne_ h.bt h.ba (by decide)
  exact ⟨only_setNew (only_setNew h.gr (p := ⟨Ba, 0, none⟩) h.hb _) (p := ⟨Ba, 1, none⟩) h.hb _, h.hb, (h.bt.far (p := ⟨Ba, 0, none⟩) hne _).far (p := ⟨Ba, 1, none⟩) hne _, (h.ba.set_ 0 _).set_ 1 _, hq⟩

set_option maxRecDepth 100000 in
set_option maxHeartbeats 4000000 in
theorem cgoes_of (hC : OfC) (hT : TypeC) (hN : NextC) (hP : PayC) (xs : List Nd) (A : Option Addr) (c : Nat) (x : Ed) (z0 z1 z2 : Int) (w : World) (hX : TblC w (.slice A xs.length c) xs) (x0 : -9223372036854775808 ≤ x.1) (x1 : x.1 ≤ 9223372036854775807)
    (b0 : -9223372036854775808 ≤ z0 ∧ z0 ≤ 9223372036854775807) (b2 : -9223372036854775808 ≤ z2 ∧ z2 ≤ 9223372036854775807) :
    Calls Try.prog 4 #[.slice A xs.length c, edV x, .agg #[.int .i64 z0, .int .i64 z1, .int .i64 z2]] w fun e w' => e = .returned (.bool true) ∧ w.grownBy w' none := by
  have HC := Lib.hid hC
  have HTC := Lib.hid hT
  have HNC := Lib.hid hN
  have HPC := Lib.hid hP
  have HT := Lib.hid hX
  have HB : Hid ((-9223372036854775808 ≤ x.1 ∧ x.1 ≤ 9223372036854775807) ∧ (-9223372036854775808 ≤ z0 ∧ z0 ≤ 9223372036854775807) ∧ (-9223372036854775808 ≤ z2 ∧ z2 ≤ 9223372036854775807)) := Lib.hid ⟨⟨x0, x1⟩, b0, b2⟩
  obtain ⟨zs, hzs⟩ : ∃ zs, fewL xs = zs := ⟨_, rfl⟩
  have hzl : zs.length ≤ 1000 := by rw [← hzs]; exact Nat.le_trans (fewC_len xs) (by decide)
  have HZS := Lib.hid hzs
  have HZL := Lib.hid hzl
  obtain ⟨oe, hoe⟩ : ∃ oe, (orderL zs).2 = oe := ⟨_, rfl⟩
  have HOE := Lib.hid hoe
  have HWF := Lib.hid (wf_clsT zs)
  obtain ⟨xa, xo⟩ := x
  clear hC hT hN hP hX hzs hzl hoe x0 x1 b0 b2
  go_enter Try.func4, Try.ntmps4
  have hbs : Blk ((w.alloc (.cells #[.int .i64 xa, .int .i64 xo] 35)).alloc (.cells #[.int .i64 z0, .int .i64 z1, .int .i64 z2] 36)) w.heap.size 35 #[.int .i64 xa, .int .i64 xo] := (Blk.new w _ _).alloc _
  have HBS := Lib.hid hbs
  have hbt : Blk ((w.alloc (.cells #[.int .i64 xa, .int .i64 xo] 35)).alloc (.cells #[.int .i64 z0, .int .i64 z1, .int .i64 z2] 36)) (w.heap.size + 1) 36 #[.int .i64 z0, .int .i64 z1, .int .i64 z2] := blk_at (by simp) _ _
  have HBT := Lib.hid hbt
  clear hbs hbt
  go_upto_region 2 with (first
    | (go_at_call 8; go_must (refine (few_any xs A c _ (HT.out.keep (.grown (only_alloc (only_alloc (only_refl _ _) _) _)))).mono ?_; rintro en W1 ⟨⟨v, ns, rfl, hot, hns⟩, hg1⟩; have htb := hot.tbl; rw [hns, HZS.out] at htb; have HT1 := Lib.hid htb; have HG1 := Lib.hid hg1; clear hot hns hg1 htb))
    | (go_at_call 10; go_must (refine (rOfO_any zs v _ HT1.out HZL.out).mono ?_; rw [HOE.out]; rintro en W3 ⟨⟨tu, rfl, hu⟩, hg3⟩; have HTU := Lib.hid hu; have HG3 := Lib.hid (only_trans HG1.out hg3); obtain ⟨B1, d1, B2, d2, B3, d3, rfl⟩ := tab_shape hu.tab; clear hu hg3))
    | fail)
  by_cases h0 : oe = 0
  · subst h0
    generalize clsT zs = T at *
    obtain ⟨⟨r1, r2⟩, hr⟩ : ∃ r, typeA T (xa, xo) = r := ⟨_, rfl⟩
    have HR := Lib.hid hr
    have HRB : Hid (-9223372036854775808 ≤ r1 ∧ r1 ≤ 9223372036854775807) := Lib.hid (by have := typeA_in HWF.out (xa, xo); rw [hr] at this; exact this)
    generalize hW4 : World.alloc _ _ = W4
    have hg34 : W3.grownBy W4 none := by rw [← hW4]; exact only_alloc (only_refl _ _) _
    have bt : Blk W4 W3.heap.size 27 #[.slice B1 T.cls.length d1, .slice B2 T.of_.length d2, .slice B3 T.prio.length d3] := by rw [← hW4]; exact Blk.new W3 _ _
    have bs := HBS.out.kept (only_trans HG3.out hg34)
    have ba := HBT.out.kept (only_trans HG3.out hg34)
    have hgw : w.grownBy W4 none := only_trans (only_alloc (only_alloc (only_refl _ _) _) _) (only_trans HG3.out hg34)
    have HTU4 := Lib.hid (HTU.out.kept hg34)
    have HGS : Hid (GSt w W3.heap.size (w.heap.size + 1) #[.slice B1 T.cls.length d1, .slice B2 T.of_.length d2, .slice B3 T.prio.length d3] z0 z1 z2 W4) := Lib.hid ⟨hgw, Nat.le_succ _, bt, ba, HB.out.2.1⟩
    have HBS4 := Lib.hid bs
    have t0 := bt.cell 0
    have t1 := bt.cell 1
    have t2 := bt.cell 2
    have s0 := bs.cell 0
    have s1 := bs.cell 1
    clear hr hW4 bt bs ba hgw hg34
    go_upto_region 6 with (first
      | (go_at_call 13; go_must (refine (HTC.out T _ (xa, xo) _ HWF.out HTU4.out.tab HB.out.1.1 HB.out.1.2).mono ?_; rw [HR.out]; rintro en W5 ⟨rfl, hg5⟩; have HGS5 := Lib.hid (HGS.out.kept hg5); have HTU5 := Lib.hid (HTU4.out.kept hg5); have hbs5 := HBS4.out.kept hg5; have t0' := HGS5.out.bt.cell 0; have t1' := HGS5.out.bt.cell 1; have t2' := HGS5.out.bt.cell 2; have s0' := hbs5.cell 0; have s1' := hbs5.cell 1; clear hg5 hbs5 t0 t1 t2 s0 s1))
      | (go_at_call 14; go_must (refine (rtype_any T HWF.out _ (xa, xo) _ HTU5.out.tab HB.out.1.1 HB.out.1.2).mono ?_; rw [HR.out]; rintro en W6 ⟨rfl, hg6⟩; have HGS6 := Lib.hid (HGS5.out.kept hg6); have HG46 := Lib.hid (HTU5.out.kept hg6); clear hg6 t0' t1' t2' s0' s1'))
      | fail)
    go_wp2_with fail
    go_loopw [13] (fun i W => ∃ (k : Nat) (p0 p1 : Int), k ≤ 2 ∧ i = .int .i64 (k : Int) ∧ GSt w W3.heap.size (w.heap.size + 1) #[.slice B1 T.cls.length d1, .slice B2 T.of_.length d2, .slice B3 T.prio.length d3] p0 p1 z2 W ∧ TabO W (.agg #[.slice B1 T.cls.length d1, .slice B2 T.of_.length d2, .slice B3 T.prio.length d3]) T) (fun i _ => 2 - (intOf i).toNat)
    case atStart => exact ⟨0, z0, z1, Nat.zero_le _, rfl, HGS6.out, HG46.out⟩
    case round =>
      obtain ⟨k, p0, p1, hk, rfl, hgs, hg4⟩ := hrel
      have HGK := Lib.hid hgs
      have HG4 := Lib.hid hg4
      clear hgs hg4
      by_cases hlt : k < 2
      · have hk0 : (0 : Int) ≤ (k : Int) := by omega
        have hk2 : (k : Int) < 2 := by omega
        obtain ⟨⟨n1, n2⟩, hn⟩ : ∃ z, nextA T p0 p1 z2 = z := ⟨_, rfl⟩
        obtain ⟨⟨y1, y2⟩, hy⟩ : ∃ z, payA T p0 p1 = z := ⟨_, rfl⟩
        have HNA := Lib.hid hn
        have HPA := Lib.hid hy
        have HIN := Lib.hid HGK.out.in_
        have t0 := HGK.out.bt.cell 0
        have t1 := HGK.out.bt.cell 1
        have t2 := HGK.out.bt.cell 2
        have s0 := HGK.out.ba.cell 0
        have s1 := HGK.out.ba.cell 1
        have s2 := HGK.out.ba.cell 2
        clear hn hy
        go_upto_region 15 with (first
          | (go_at_call 15; go_must (refine (HNC.out T _ p0 p1 z2 _ HWF.out HG4.out.tab HIN.out.1 HIN.out.2 HB.out.2.2.1 HB.out.2.2.2).mono ?_; rw [HNA.out]; rintro en V1 ⟨rfl, hg⟩; have HV1 := Lib.hid (HGK.out.kept hg); have HW1 := Lib.hid (HG4.out.kept hg); have t0' := HV1.out.bt.cell 0; have t1' := HV1.out.bt.cell 1; have t2' := HV1.out.bt.cell 2; have s0' := HV1.out.ba.cell 0; have s1' := HV1.out.ba.cell 1; have s2' := HV1.out.ba.cell 2; clear hg t0 t1 t2 s0 s1 s2))
          | (go_at_call 16; go_must (refine (rnext_any T HWF.out _ p0 p1 z2 _ HW1.out.tab HIN.out.1 HIN.out.2 HB.out.2.2.1 HB.out.2.2.2).mono ?_; rw [HNA.out]; rintro en V2 ⟨rfl, hg⟩; have HV2 := Lib.hid (HV1.out.kept hg); have HW2 := Lib.hid (HW1.out.kept hg); have t0'' := HV2.out.bt.cell 0; have t1'' := HV2.out.bt.cell 1; have t2'' := HV2.out.bt.cell 2; have s0'' := HV2.out.ba.cell 0; have s1'' := HV2.out.ba.cell 1; clear hg t0' t1' t2' s0' s1' s2'))
          | (go_at_call 17; go_must (refine (HPC.out T _ p0 p1 _ HWF.out HW2.out.tab HIN.out.1 HIN.out.2).mono ?_; rw [HPA.out]; rintro en V3 ⟨rfl, hg⟩; have HV3 := Lib.hid (HV2.out.kept hg); have HW3 := Lib.hid (HW2.out.kept hg); have q0 := HV3.out.bt.cell 0; have q1 := HV3.out.bt.cell 1; have q2 := HV3.out.bt.cell 2; have q3 := HV3.out.ba.cell 0; have q4 := HV3.out.ba.cell 1; clear hg t0'' t1'' t2'' s0'' s1''))
          | (go_at_call 18; go_must (refine (rpay_any T HWF.out _ p0 p1 _ HW3.out.tab HIN.out.1 HIN.out.2).mono ?_; rw [HPA.out]; rintro en V4 ⟨rfl, hg⟩; have HV4 := Lib.hid (HV3.out.kept hg); have HW4 := Lib.hid (HW3.out.kept hg); clear hg q0 q1 q2 q3 q4))
          | fail)
        have c0 := HV4.out.ba.cell 0
        have c1 := HV4.out.ba.cell 1
        have f0 := HV4.out.ba.frozen 0
        have f1 := HV4.out.ba.frozen 1
        go_wp2_with fail
        go_roundw
        case rel => exact ⟨k + 1, r1, r2, by omega, by go_num, HV4.out.put r1 r2 HRB.out, HW4.out.grown (only_setCell (only_setCell (only_refl _ (some (w.heap.size + 1))) (p := ⟨w.heap.size + 1, 0, none⟩) rfl _) (p := ⟨w.heap.size + 1, 1, none⟩) rfl _) (fun g e => by injection e with e; subst e; exact ⟨_, _, HV4.out.ba, by decide, by decide, by decide⟩)⟩
        case measure => simp [intOf]; omega
      · have hk2 : (2 : Int) ≤ (k : Int) := by omega
        go_wp2_with (go_at_call 12; go_must (refine (cworks_of HC.out _).mono ?_; rintro en V6 ⟨rfl, hg6⟩; have HG6 := Lib.hid hg6; clear hg6))
        go_ret
        exact ⟨rfl, only_trans HGK.out.gr HG6.out⟩
  · have he2 : (oe == 0) = false := by simp [h0]
    have he3 : (oe != 0) = true := by simp [h0]
    have he4 : decide (oe = 0) = false := decide_eq_false h0
    go_wp2_with (go_at_call 12; go_must (refine (cworks_of HC.out _).mono ?_; rintro en W6 ⟨rfl, hg6⟩; have HG6 := Lib.hid hg6; clear hg6))
    go_ret
    exact ⟨rfl, only_trans (only_trans (only_alloc (only_alloc (only_refl _ _) _) _) (only_alloc HG3.out _)) HG6.out⟩
end Go.Proofs.Ytepjkoegbehojaa

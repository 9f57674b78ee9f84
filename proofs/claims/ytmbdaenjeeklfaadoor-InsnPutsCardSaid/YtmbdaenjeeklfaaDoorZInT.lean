/- Texts joined for the claim's sake: IRfD, IPts. -/
import Derived.Test.YtmbdaenjeeklfaaDoorZInL
import Derived.Test.YtmbdaenjeeklfaaDoorZIRfB
import Derived.Test.YtmbdaenjeeklfaaDoorZInJ
import Derived.Deep.DeepCutAuto
import Derived.Deep.CutBlock
/- The document's answer for instructions (colloquyref09): Comm, Ends. -/
namespace Go.Proofs.YtmbdaenjeeklfaaDoor
open Go.RowKit

theorem commB_eq (op : Int) : commB op = (decide (14 ≤ op) && decide (op ≤ 19)) := by
  unfold commB
  rw [Bool.eq_iff_iff]
  simp
  omega
set_option maxRecDepth 100000 in
set_option maxHeartbeats 2000000 in
theorem rcomm_any (op : Int) (w : World) : Calls Tryd.prog 16 #[.int .i64 op] w fun e w' => e = .returned (.bool (commB op)) ∧ w.grownBy w' none := by
  rw [commB_eq]
  by_cases h : 14 ≤ op
  · have h1 : decide (14 ≤ op) = true := by simpa using h
    rw [h1]
    go_enter Tryd.func16, Tryd.ntmps16
    go_wp2_with fail
    go_ret
    exact ⟨by simp, only_refl _ _⟩
  · have h1 : decide (14 ≤ op) = false := by simpa using h
    rw [h1]
    have h2 : op < 14 := by omega
    go_enter Tryd.func16, Tryd.ntmps16
    go_wp2_with fail
    go_ret
    exact ⟨by simp, only_refl _ _⟩
set_option maxRecDepth 100000 in
set_option maxHeartbeats 2000000 in
theorem rends_any (op : Int) (w : World) : Calls Tryd.prog 18 #[.int .i64 op] w fun e w' => e = .returned (.bool (endsB op)) ∧ w.grownBy w' none := by
  by_cases h14 : op = 11
  · subst h14; go_enter Tryd.func18, Tryd.ntmps18; go_wp2_with fail; go_ret; exact ⟨rfl, only_refl _ _⟩
  by_cases h15 : op = 19
  · subst h15; go_enter Tryd.func18, Tryd.ntmps18; go_wp2_with fail; go_ret; exact ⟨rfl, only_refl _ _⟩
  by_cases h16 : op = 24
  · subst h16; go_enter Tryd.func18, Tryd.ntmps18; go_wp2_with fail; go_ret; exact ⟨rfl, only_refl _ _⟩
  have hb : endsB op = false := by unfold endsB; simp [*]
  have e1 : (op == 11) = false := by simpa using h14
  have e2 : (op == 19) = false := by simpa using h15
  have e3 : (op == 24) = false := by simpa using h16
  rw [hb]
  clear hb
  go_enter Tryd.func18, Tryd.ntmps18; go_wp2_with fail; go_ret; exact ⟨rfl, only_refl _ _⟩
end Go.Proofs.YtmbdaenjeeklfaaDoor

/- InsnPuts: whatever instruction, text ahead and op, the call returns true, and turns nothing that was there. -/
namespace Go.Proofs.YtmbdaenjeeklfaaDoor
open Go.RowKit

set_option maxRecDepth 100000 in
set_option maxHeartbeats 40000000 in
theorem iputs_any (op a b c d : Int) (A : Option Addr) (cp : Nat) (zs : List Int) (t : ByteArray) (op2 : Int) (w : World) (hE : ErrType w) (hl : IntsA (fun b => b < w.heap.size) w (.slice A zs.length cp) zs) (hcp : zs.length ≤ cp) (hc63 : cp ≤ 9223372036854775807) (ha : Whole a) :
    Calls Tryd.prog 3 #[.agg #[.int .i64 op, .int .i64 a, .int .i64 b, .int .i64 c, .int .i64 d, .slice A zs.length cp], .string t, .int .i64 op2] w fun e w' => e = .returned (.bool true) ∧ w.grownBy w' none := by
  obtain ⟨y, hy⟩ : ∃ y : Sg, y = ⟨a, b, c, d, .slice A (min zs.length 12) cp, zs.take (min zs.length 12)⟩ := ⟨_, rfl⟩
  have HY : Hid (IntsA (fun b => b < w.heap.size) w y.lv y.l ∧ Whole y.a ∧ y.l.length ≤ 12) := Lib.hid (by
    rw [hy]
    refine ⟨ints_take hl _ (Nat.min_le_left _ _), ha, ?_⟩
    simp only [List.length_take]
    omega)
  have hfew := fun W => few_any ⟨a, b, c, d, .slice A zs.length cp, zs⟩ op A cp W rfl hcp hc63
  have hyc : y.cells op = #[.int .i64 op, .int .i64 a, .int .i64 b, .int .i64 c, .int .i64 d, .slice A (min zs.length 12) cp] := by rw [hy]; rfl
  have hf2 : Sg.cells { (⟨a, b, c, d, .slice A zs.length cp, zs⟩ : Sg) with lv := .slice A (min zs.length 12) cp } op = #[.int .i64 op, .int .i64 a, .int .i64 b, .int .i64 c, .int .i64 d, .slice A (min zs.length 12) cp] := rfl
  rw [hf2] at hfew
  have HF := Lib.hid hfew
  have HYC := Lib.hid hyc
  have HYL : Hid (y.lv = .slice A (min zs.length 12) cp) := Lib.hid (by rw [hy])
  have HE := Lib.hid hE
  have h0 : w.grownBy (w.alloc (.cells #[.int .i64 op, .int .i64 a, .int .i64 b, .int .i64 c, .int .i64 d, .slice A zs.length cp] 24)) none := only_alloc (only_refl _ _) _
  have hb := Blk.new w 24 #[.int .i64 op, .int .i64 a, .int .i64 b, .int .i64 c, .int .i64 d, .slice A zs.length cp]
  have x0 := hb.cell 0
  have x1 := hb.cell 1
  have x2 := hb.cell 2
  have x3 := hb.cell 3
  have x4 := hb.cell 4
  have x5 := hb.cell 5
  have H0 := Lib.hid h0
  have HB := Lib.hid hb
  generalize min zs.length 12 = m at *
  clear hfew hyc hf2 hy hE h0 hb hl
  go_enter Tryd.func3, Tryd.ntmps3
  go_wp2_with fail
  refine (HF.out _).mono ?_
  rintro e w1 ⟨rfl, hg1⟩
  have hb1 := HB.out.kept hg1
  have f0 := hb1.frozen 0
  have f1 := hb1.frozen 1
  have f2 := hb1.frozen 2
  have f3 := hb1.frozen 3
  have f4 := hb1.frozen 4
  have f5 := hb1.frozen 5
  replace x0 := hb1.cell 0
  replace x1 := hb1.cell 1
  replace x2 := hb1.cell 2
  replace x3 := hb1.cell 3
  replace x4 := hb1.cell 4
  replace x5 := hb1.cell 5
  go_upto_region 2 with fail
  have hg2 : w.grownBy ((((((w1.setCell ⟨w.heap.size, 0, none⟩ (.int .i64 op)).setCell ⟨w.heap.size, 1, none⟩ (.int .i64 a)).setCell ⟨w.heap.size, 2, none⟩ (.int .i64 b)).setCell ⟨w.heap.size, 3, none⟩ (.int .i64 c)).setCell ⟨w.heap.size, 4, none⟩ (.int .i64 d)).setCell ⟨w.heap.size, 5, none⟩ (.slice A m cp)) none := only_setNew (only_setNew (only_setNew (only_setNew (only_setNew (only_setNew (only_trans H0.out hg1) (Nat.le_refl _) _) (Nat.le_refl _) _) (Nat.le_refl _) _) (Nat.le_refl _) _) (Nat.le_refl _) _) (Nat.le_refl _) _
  have hb2 : Blk ((((((w1.setCell ⟨w.heap.size, 0, none⟩ (.int .i64 op)).setCell ⟨w.heap.size, 1, none⟩ (.int .i64 a)).setCell ⟨w.heap.size, 2, none⟩ (.int .i64 b)).setCell ⟨w.heap.size, 3, none⟩ (.int .i64 c)).setCell ⟨w.heap.size, 4, none⟩ (.int .i64 d)).setCell ⟨w.heap.size, 5, none⟩ (.slice A m cp)) w.heap.size 24 #[.int .i64 op, .int .i64 a, .int .i64 b, .int .i64 c, .int .i64 d, .slice A m cp] := (((((hb1.set_ 0 _).set_ 1 _).set_ 2 _).set_ 3 _).set_ 4 _).set_ 5 _
  clear x0 x1 x2 x3 x4 x5 f0 f1 f2 f3 f4 f5 hb1 hg1 HB H0 HF
  generalize ((((((w1.setCell ⟨w.heap.size, 0, none⟩ (.int .i64 op)).setCell ⟨w.heap.size, 1, none⟩ (.int .i64 a)).setCell ⟨w.heap.size, 2, none⟩ (.int .i64 b)).setCell ⟨w.heap.size, 3, none⟩ (.int .i64 c)).setCell ⟨w.heap.size, 4, none⟩ (.int .i64 d)).setCell ⟨w.heap.size, 5, none⟩ (.slice A m cp)) = w2 at *
  have HG2 := Lib.hid hg2
  have HB2 := Lib.hid hb2
  clear hg2 hb2
  obtain ⟨nb, hnb⟩ : ∃ nb, w.heap.size = nb := ⟨_, rfl⟩
  have HNB := Lib.hid hnb
  rw [hnb] at HB2 ⊢
  clear hnb
  go_cut [1] from 13 to 17 (fun v wx => ∃ s : ByteArray, v = .string s ∧ s.size ≤ 20 ∧ w2 = wx)
  case first =>
    by_cases h200 : t.size ≤ 20
    · have h2 : (t.size : Int) ≤ 20 := by omega
      go_wp2_with fail
      go_meet
      exact ⟨t, rfl, h200, rfl⟩
    · have h2 : (20 : Int) < (t.size : Int) := by omega
      go_wp2_with fail
      go_meet
      exact ⟨_, rfl, by rw [ByteArray.size_extract]; omega, rfl⟩
  case rest =>
    obtain ⟨s, rfl, hs2, rfl⟩ := hcut
    have HSZ := Lib.hid hs2
    clear hs2
    go_wp2_with fail
    refine (newWriter_any w.heap.size _ HG2.out.size).mono ?_
    rintro e w3 ⟨g, rfl, hge, hg3, hw3⟩
    have HG3 := Lib.hid (only_trans HG2.out hg3)
    have HB3 := Lib.hid (HB2.out.kept hg3)
    have HW3 := Lib.hid hw3
    have HGE : Hid (w.heap.size ≤ g) := Nat.le_trans HG2.out.size hge
    clear hg3 hw3 hge HB2 HG2
    go_wp2_with fail
    refine (wput_any HW3.out HG3.out.size s (by have := HSZ.out; simp; omega)).mono ?_
    rintro e w4 ⟨rfl, hw4, ht4⟩
    have HG4 := Lib.hid (Turn.only HG3.out ht4 (fun i hi => WS.le HGE.out hi))
    have HB4 := Lib.hid (HB3.out.turn ht4 (not_ws HW3.out HB3.out (by decide) (by decide)))
    have HW4 := Lib.hid hw4
    clear hw4 ht4 HB3 HG3 HW3
    have b0 := HB4.out.cell 0
    have b1 := HB4.out.cell 1
    have b2 := HB4.out.cell 2
    have b3 := HB4.out.cell 3
    have b4 := HB4.out.cell 4
    have b5 := HB4.out.cell 5
    obtain ⟨ck, hck⟩ : ∃ ck, chkI (y.ins op) = ck := ⟨_, rfl⟩
    obtain ⟨BT, hBT⟩ : ∃ BT : List UInt8, (if ck = 0 then bytesI (y.ins op) else []) = BT := ⟨_, rfl⟩
    have HCK := Lib.hid hck
    have HBT := Lib.hid hBT
    have HBL : Hid (BT.length ≤ 1000) := by
      show _ ≤ _
      rw [← HBT.out]
      split
      · rename_i h0
        exact bytes_le (HCK.out.trans h0) HY.out.2.1
      · simp
    clear hck hBT
    go_upto_region 7 with fail
    go_cut [8] from 24 to 26 (fun v wx => v = .int .i64 ck ∧ Wtr w.heap.size wx g (s.data.toList ++ BT) ∧ Blk wx nb 24 #[.int .i64 op, .int .i64 a, .int .i64 b, .int .i64 c, .int .i64 d, .slice A m cp] ∧ w.grownBy wx none)
    case first =>
      have hlz : IntsA (fun b => b < w.heap.size) w4 y.lv y.l := HY.out.1.row HG4.out (fun _ _ e => by cases e)
      by_cases hc : ck = 0
      · have HP := put_any HW4.out HG4.out.size y op hlz HY.out.2.1 (HCK.out.trans hc) (by have := HSZ.out; rw [List.nil_append, bytes_len]; omega)
        rw [HYC.out] at HP
        have HC0 := Lib.hid hc
        have HBT0 : Hid (bytesI (y.ins op) = BT) := by have := HBT.out; rw [if_pos hc] at this; exact this
        clear hc hlz
        go_wp2_with fail
        refine HP.mono ?_
        rintro e w5 ⟨rfl, hw5, ht5⟩
        have HG5 := Lib.hid (Turn.only HG4.out ht5 (fun i hi => WS.le HGE.out hi))
        have HB5 := Lib.hid (HB4.out.turn ht5 (not_ws HW4.out HB4.out (by decide) (by decide)))
        have HW5 := Lib.hid hw5
        clear HP hw5 ht5
        go_wp2_with fail
        go_meet
        exact ⟨by rw [HC0.out], by have := HW5.out; rw [HBT0.out, List.nil_append] at this; exact this, HB5.out, HG5.out⟩
      · have HP := put_bad (pp := some ⟨g, 0, none⟩) y op w4 hlz.below (by rw [HCK.out]; exact hc)
        rw [HYC.out, HCK.out] at HP
        have HBT0 : Hid ([] = BT) := by have := HBT.out; rw [if_neg hc] at this; exact this
        clear hc hlz
        go_wp2_with fail
        refine HP.mono ?_
        rintro e w5 ⟨rfl, hg5⟩
        have HG5 := Lib.hid (only_trans HG4.out hg5)
        have HB5 := Lib.hid (HB4.out.kept hg5)
        have HW5 := Lib.hid (HW4.out.kept hg5)
        clear HP hg5
        go_wp2_with fail
        go_meet
        exact ⟨rfl, by have := HW5.out; rw [← HBT0.out, List.append_nil]; rw [List.nil_append] at this; exact this, HB5.out, HG5.out⟩
    case rest =>
      obtain ⟨rfl, hw5, hb5, hg5⟩ := hcut
      have HW5 := Lib.hid hw5
      have HB5 := Lib.hid hb5
      have HG5 := Lib.hid hg5
      replace b0 := hb5.cell 0
      replace b1 := hb5.cell 1
      replace b2 := hb5.cell 2
      replace b3 := hb5.cell 3
      replace b4 := hb5.cell 4
      replace b5 := hb5.cell 5
      have hrf := rinsn_any y op wc (HY.out.1.row hg5 (fun _ _ e => by cases e)).below (by have := HY.out.2.2; omega) HY.out.2.1
      rw [HYC.out, HCK.out, HBT.out] at hrf
      obtain ⟨S, hS⟩ : ∃ S : ByteArray, (⟨BT.toArray⟩ : ByteArray) = S := ⟨_, rfl⟩
      rw [hS] at hrf
      have HS : Hid (S.data.toList = BT) := Lib.hid (by rw [← hS])
      have HSS : Hid (S.size ≤ 1000) := by show _ ≤ _; rw [← bytes_len, HS.out]; exact HBL.out
      clear hw5 hb5 hg5 HB4 HG4 HW4 hS
      go_wp2_with fail
      refine hrf.mono ?_
      rintro e w6 ⟨rfl, hg6⟩
      have HG6 := Lib.hid (only_trans HG5.out hg6)
      have HB6 := Lib.hid (HB5.out.kept hg6)
      have HW6 := Lib.hid (HW5.out.kept hg6)
      clear hrf hg6 HG5 HB5 HW5 b0 b1 b2 b3 b4 b5
      go_upto_region 9 with fail
      have hrunC : ∀ {args : Array Value} W, (callFunc 13 args).run Tryd.prog W = .ok (.enter 13 args) W := fun W => enters_of Tryd.func13 (by kernel_rfl) rfl _ W
      have hrunT : ∀ {args : Array Value} W, (callFunc 14 args).run Tryd.prog W = .ok (.enter 14 args) W := fun W => enters_of Tryd.func14 (by kernel_rfl) rfl _ W
      have hrunM : ∀ {args : Array Value} W, (callFunc 15 args).run Tryd.prog W = .ok (.enter 15 args) W := fun W => enters_of Tryd.func15 (by kernel_rfl) rfl _ W
      have hrunN : ∀ {args : Array Value} W, (callFunc 16 args).run Tryd.prog W = .ok (.enter 16 args) W := fun W => enters_of Tryd.func16 (by kernel_rfl) rfl _ W
      have hrunE : ∀ {args : Array Value} W, (callFunc 17 args).run Tryd.prog W = .ok (.enter 17 args) W := fun W => enters_of Tryd.func17 (by kernel_rfl) rfl _ W
      have hrunF : ∀ {args : Array Value} W, (callFunc 18 args).run Tryd.prog W = .ok (.enter 18 args) W := fun W => enters_of Tryd.func18 (by kernel_rfl) rfl _ W
      have hrunW : ∀ {args : Array Value} W, (callFunc 19 args).run Tryd.prog W = .ok (.enter 19 args) W := fun W => enters_of Tryd.func19 (by kernel_rfl) rfl _ W
      have HCh : Hid (∀ W, w6.grownBy W none → Calls Tryd.prog 13 #[.agg (y.cells op)] W fun e w' => e = .returned (.int .i64 ck) ∧ W.grownBy w' none) := fun W hg => by
        have := check_any y op W (HY.out.1.row (only_trans HG6.out hg) (fun _ _ e => by cases e)).below
        rw [HCK.out] at this
        exact this
      have HTx : Hid (∀ W, w6.grownBy W none → Calls Tryd.prog 14 #[.pointer (some ⟨g, 0, none⟩)] W fun e w' => e = .returned (.string (s ++ S)) ∧ W.grownBy w' none) := fun W hg => by
        have := wtext_any (HW6.out.kept hg)
        rw [bytes_of_list (cat_list rfl HS.out)] at this
        exact this.mono fun e w' ⟨h1, h2⟩ => ⟨h1, h2 ▸ only_refl _ _⟩
      go_cut [6] from 32 to 74 (fun v wx => v = .bool true ∧ w.grownBy wx none)
      case first =>
        refine region_known (by kernel_rfl)
          [(32, .int .i64 ck), (33, .int .i64 ck), (34, .bool true), (35, .bool true), (36, .agg (y.cells op)), (37, .int .i64 ck), (38, .int .i64 ck), (39, .bool true), (40, .bool true), (41, .bool true), (42, .pointer (some ⟨g, 0, none⟩)), (43, .string (s ++ S)), (44, .string s), (45, .string S), (46, .string (s ++ S)), (47, .bool true), (48, .bool true), (49, .bool true), (50, .int .i64 op2), (51, .bool (commB op2)), (52, .int .i64 op2), (53, .bool (commB op2)), (54, .bool true), (55, .bool true), (56, .bool true), (57, .int .i64 op2), (58, .bool (endsB op2)), (59, .int .i64 op2), (60, .bool (endsB op2)), (61, .bool true), (62, .bool true), (63, .bool true), (64, .pointer (some ⟨nb, 0 + 0, none⟩)), (65, .int .i64 op), (66, .bool (commB op)), (67, .pointer (some ⟨nb, 0 + 0, none⟩)), (68, .int .i64 op), (69, .bool (commB op)), (70, .bool true), (71, .bool true), (72, .bool true), (73, .bool true), (74, .bool true), (6, .bool true)]
          [(8, .int .i64 ck), (10, .int .i64 ck), (3, .pointer (some ⟨nb, 0, none⟩)), (7, .pointer (some ⟨g, 0, none⟩)), (1, .string s), (9, .string S), (2, .int .i64 op2)]
          (by kernel_rfl) [32, 33, 34, 35, 36, 37, 38, 39, 40, 41, 42, 43, 44, 45, 46, 47, 48, 49, 50, 51, 52, 53, 54, 55, 56, 57, 58, 59, 60, 61, 62, 63, 64, 65, 66, 67, 68, 69, 70, 71, 72, 73, 74, 6] (by kernel_rfl) (by kernel_rfl) (by decide) (by kernel_rfl) ⟨rfl, rfl, rfl, rfl, rfl, rfl, rfl, trivial⟩ ?hops ?hQ
        case hops =>
          exact ⟨og (t := 32) rfl rfl (ov_move rfl rfl),
            og (t := 33) rfl rfl (ov_move rfl rfl),
            og (t := 34) rfl rfl (ov_eql_errno rfl rfl rfl (by simp)),
            og (t := 35) rfl rfl (ov_move rfl rfl),
            og (t := 36) rfl rfl (ov_ld_insn rfl rfl HYL.out (fun j u hu => by rw [Nat.zero_add]; rw [HYC.out] at hu; exact (HB6.out.cell j).trans hu)),
            og (t := 37) rfl rfl (ov_call1 rfl rfl (fun W => hrunC W) (fun W hg => HCh.out W hg)),
            og (t := 38) rfl rfl (ov_move rfl rfl),
            og (t := 39) rfl rfl (ov_eql_errno rfl rfl rfl (by simp)),
            og (t := 40) rfl rfl (ov_pick_tt rfl rfl rfl),
            og (t := 41) rfl rfl (ov_move rfl rfl),
            og (t := 42) rfl rfl (ov_move rfl rfl),
            og (t := 43) rfl rfl (ov_call1 rfl rfl (fun W => hrunT W) (fun W hg => HTx.out W hg)),
            og (t := 44) rfl rfl (ov_move rfl rfl),
            og (t := 45) rfl rfl (ov_move rfl rfl),
            og (t := 46) rfl rfl (ov_cat_t rfl rfl rfl (by have := HSZ.out; have := HSS.out; omega)),
            og (t := 47) rfl rfl (ov_eql_text rfl rfl rfl),
            og (t := 48) rfl rfl (ov_pick_tt rfl rfl rfl),
            og (t := 49) rfl rfl (ov_move rfl rfl),
            og (t := 50) rfl rfl (ov_move rfl rfl),
            og (t := 51) rfl rfl (ov_call1 rfl rfl (fun W => hrunM W) (fun W _ => comm_any op2 W)),
            og (t := 52) rfl rfl (ov_move rfl rfl),
            og (t := 53) rfl rfl (ov_call1 rfl rfl (fun W => hrunN W) (fun W _ => rcomm_any op2 W)),
            og (t := 54) rfl rfl (ov_eql_bool rfl rfl rfl (by simp)),
            og (t := 55) rfl rfl (ov_pick_tt rfl rfl rfl),
            og (t := 56) rfl rfl (ov_move rfl rfl),
            og (t := 57) rfl rfl (ov_move rfl rfl),
            og (t := 58) rfl rfl (ov_call1 rfl rfl (fun W => hrunE W) (fun W _ => ends_any op2 W)),
            og (t := 59) rfl rfl (ov_move rfl rfl),
            og (t := 60) rfl rfl (ov_call1 rfl rfl (fun W => hrunF W) (fun W _ => rends_any op2 W)),
            og (t := 61) rfl rfl (ov_eql_bool rfl rfl rfl (by simp)),
            og (t := 62) rfl rfl (ov_pick_tt rfl rfl rfl),
            og (t := 63) rfl rfl (ov_move rfl rfl),
            og (t := 64) rfl rfl (ov_fld_insn (by decide) rfl rfl),
            og (t := 65) rfl rfl (ov_ld_int rfl rfl (HB6.out.cell 0)),
            og (t := 66) rfl rfl (ov_call1 rfl rfl (fun W => hrunM W) (fun W _ => comm_any op W)),
            og (t := 67) rfl rfl (ov_fld_insn (by decide) rfl rfl),
            og (t := 68) rfl rfl (ov_ld_int rfl rfl (HB6.out.cell 0)),
            og (t := 69) rfl rfl (ov_call1 rfl rfl (fun W => hrunN W) (fun W _ => rcomm_any op W)),
            og (t := 70) rfl rfl (ov_eql_bool rfl rfl rfl (by simp)),
            og (t := 71) rfl rfl (ov_pick_tt rfl rfl rfl),
            og (t := 72) rfl rfl (ov_move rfl rfl),
            og (t := 73) rfl rfl (ov_call0 rfl (fun W => hrunW W) (fun W hg => iworks_any W (HE.out.kept (only_trans HG6.out hg) (fun k e => by cases e)))),
            og (t := 74) rfl rfl (ov_pick_tt rfl rfl rfl),
            og (t := 6) rfl rfl (ov_assign rfl rfl), trivial⟩
        case hQ =>
          intro vs W hg hv
          have HZ : Hid (vs 6 = .bool true ∧ w.grownBy W none) := Lib.hid ⟨hv 6 _ rfl (by decide), only_trans HG6.out hg⟩
          clear hv hg
          simp only [List.foldl_cons, List.foldl_nil, List.setIfInBounds_toArray, List.set_cons_zero, List.set_cons_succ]
          go_wp2_with fail
          go_meet
          exact HZ.out
      case rest =>
        obtain ⟨rfl, hg⟩ := hcut
        have HG := Lib.hid hg
        clear hg
        go_wp2_with fail
        go_ret
        exact ⟨rfl, HG.out⟩
end Go.Proofs.YtmbdaenjeeklfaaDoor

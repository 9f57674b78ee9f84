/- Texts joined for the claim's sake: MRdC, MOwn. -/
import Derived.Test.YtohhojbeclbedaaGreatDoorZMKnwRow27
import Derived.Laws.Rows
import Derived.Maps.AppendAt
namespace Go.Proofs.YtohhojbeclbedaaGreatDoor
open Go.RowKit

set_option maxRecDepth 100000 in
set_option maxHeartbeats 2000000 in
theorem redge_any {g a bg : Nat} {bs : List UInt8} {w : World} (h : Rdr w g bs a bg)  :
    Calls Tryz.prog 155 #[.pointer (some ⟨g, 0, none⟩)] w (RdsR (encV EdgE) g bs bg (edgR bs a) w) := by
  obtain ⟨res, hres⟩ : ∃ res, edgR bs a = res := ⟨_, rfl⟩
  rw [hres]
  unfold edgR at hres
  have HE0 := Lib.hid hres
  clear hres
  have hg0 : w.grownBy (w.alloc (.cells #[.int .i64 0, .int .i64 0] 62)) none := only_alloc (only_refl _ _) _
  have HM0 := Lib.hid (MRS.start h hg0)
  have HB0 := Lib.hid (Blk.new w 62 #[.int .i64 0, .int .i64 0])
  clear h hg0
  go_enter Tryz.func155, Tryz.ntmps155
  go_upto_region 1 with fail
  generalize w.alloc (.cells #[.int .i64 0, .int .i64 0] 62) = W0 at *
  generalize hbr : w.heap.size = br at *
  have HBR : Hid (w.heap.size ≤ br) := Lib.hid (Nat.le_of_eq hbr)
  clear hbr
  have c0 := HB0.out.cell 0
  have c1 := HB0.out.cell 1
  go_wp2_with fail
  clear c0 c1
  refine (rnum_any HM0.out.rd 63 ⟨by omega, by omega⟩).mono ?_
  rintro e w1 hL
  rcases hL.cases with ⟨x1, b1, v1, hq, rfl, hv, hr, hg⟩ | ⟨c, y, b, fb, hq, rfl, hf, h1, hg⟩
  rotate_left
  · have hz : res = .flt c y b := by rw [← HE0.out, hq]; rfl
    have hR := HM0.out.out (V := encV EdgE) (b := b) hf h1 hg
    rw [← hz] at hR
    have HR := Lib.hid hR
    clear hL hf h1 hg hq hz hR
    go_wp2_with fail
    exact ⟨rfl, HR.out⟩
  obtain rfl := hv
  have HE1 := Lib.hid (show ((smR bs b1 1000).bind fun s c => .ok ⟨x1, s⟩ c) = res from by rw [← HE0.out, hq]; rfl)
  have HM1 := Lib.hid (HM0.out.next hg hr)
  have HB1 := Lib.hid (HM0.out.blk HB0.out HBR.out hg)
  clear hL hr hg hq HM0 HE0 HB0
  go_wp2_with fail
  refine (rnum_any HM1.out.rd 1000 ⟨by omega, by omega⟩).mono ?_
  rintro e w2 hL
  rcases hL.cases with ⟨x2, b2, v2, hq, rfl, hv, hr, hg⟩ | ⟨c, y, b, fb, hq, rfl, hf, h1, hg⟩
  rotate_left
  · have hz : res = .flt c y b := by rw [← HE1.out, hq]; rfl
    have hR := HM1.out.out (V := encV EdgE) (b := b) hf h1 hg
    rw [← hz] at hR
    have HR := Lib.hid hR
    clear hL hf h1 hg hq hz hR
    go_wp2_with fail
    exact ⟨rfl, HR.out⟩
  obtain rfl := hv
  have HE2 := Lib.hid (show (.ok ⟨x1, x2⟩ b2 : Rs Edg) = res from by rw [← HE1.out, hq]; rfl)
  have HM2 := Lib.hid (HM1.out.next hg hr)
  have HB2 := Lib.hid (HM1.out.blk HB1.out HBR.out hg)
  clear hL hr hg hq HM1 HE1 HB1
  have f0 := HB2.out.frozen 0
  have f1 := HB2.out.frozen 1
  have c0 := HB2.out.cell 0
  have c1 := HB2.out.cell 1
  go_wp2_with fail
  have hst := only_setCell (g := br) (p := ⟨br, 1, none⟩) (only_setCell (g := br) (p := ⟨br, 0, none⟩) (only_refl w2 _) rfl (.int .i64 x1)) rfl (.int .i64 x2)
  have HMF := Lib.hid (HM2.out.own HB2.out (by decide) HBR.out hst)
  have hbf : Blk ((w2.setCell ⟨br, 0, none⟩ (.int .i64 x1)).setCell ⟨br, 1, none⟩ (.int .i64 x2)) br 62 #[.int .i64 x1, .int .i64 x2] := ((HB2.out.set_ 0 (.int .i64 x1)).set_ 1 (.int .i64 x2))
  clear hst
  clear f0 c0 f1 c1
  generalize ((w2.setCell ⟨br, 0, none⟩ (.int .i64 x1)).setCell ⟨br, 1, none⟩ (.int .i64 x2)) = Wf at *
  have HBF := Lib.hid hbf
  clear hbf
  refine bodyPost_ret (results_cell_row rfl _ _ br 62 #[.int .i64 x1, .int .i64 x2] _ _ rfl HBF.out Tryz.underlying62 rfl (by kernel_rfl)) rfl ?_
  rw [← HE2.out]
  exact RdsR.ret ⟨_, rfl, rfl⟩ HMF.out.rd HMF.out.gr
set_option maxRecDepth 100000 in
set_option maxHeartbeats 2000000 in
theorem rtype_any {g a bg : Nat} {bs : List UInt8} {w : World} (h : Rdr w g bs a bg)  :
    Calls Tryz.prog 117 #[.pointer (some ⟨g, 0, none⟩)] w (RdsR (encV EdgE) g bs bg (edgR bs a) w) := by
  obtain ⟨res, hres⟩ : ∃ res, edgR bs a = res := ⟨_, rfl⟩
  rw [hres]
  unfold edgR at hres
  have HE0 := Lib.hid hres
  clear hres
  have hg0 : w.grownBy (w.alloc (.cells #[.int .i64 0, .int .i64 0] 67)) none := only_alloc (only_refl _ _) _
  have HM0 := Lib.hid (MRS.start h hg0)
  have HB0 := Lib.hid (Blk.new w 67 #[.int .i64 0, .int .i64 0])
  clear h hg0
  go_enter Tryz.func117, Tryz.ntmps117
  go_upto_region 1 with fail
  generalize w.alloc (.cells #[.int .i64 0, .int .i64 0] 67) = W0 at *
  generalize hbr : w.heap.size = br at *
  have HBR : Hid (w.heap.size ≤ br) := Lib.hid (Nat.le_of_eq hbr)
  clear hbr
  have c0 := HB0.out.cell 0
  have c1 := HB0.out.cell 1
  go_wp2_with fail
  clear c0 c1
  refine (rnum_any HM0.out.rd 63 ⟨by omega, by omega⟩).mono ?_
  rintro e w1 hL
  rcases hL.cases with ⟨x1, b1, v1, hq, rfl, hv, hr, hg⟩ | ⟨c, y, b, fb, hq, rfl, hf, h1, hg⟩
  rotate_left
  · have hz : res = .flt c y b := by rw [← HE0.out, hq]; rfl
    have hR := HM0.out.out (V := encV EdgE) (b := b) hf h1 hg
    rw [← hz] at hR
    have HR := Lib.hid hR
    clear hL hf h1 hg hq hz hR
    go_wp2_with fail
    exact ⟨rfl, HR.out⟩
  obtain rfl := hv
  have HE1 := Lib.hid (show ((smR bs b1 1000).bind fun s c => .ok ⟨x1, s⟩ c) = res from by rw [← HE0.out, hq]; rfl)
  have HM1 := Lib.hid (HM0.out.next hg hr)
  have HB1 := Lib.hid (HM0.out.blk HB0.out HBR.out hg)
  clear hL hr hg hq HM0 HE0 HB0
  go_wp2_with fail
  refine (rnum_any HM1.out.rd 1000 ⟨by omega, by omega⟩).mono ?_
  rintro e w2 hL
  rcases hL.cases with ⟨x2, b2, v2, hq, rfl, hv, hr, hg⟩ | ⟨c, y, b, fb, hq, rfl, hf, h1, hg⟩
  rotate_left
  · have hz : res = .flt c y b := by rw [← HE1.out, hq]; rfl
    have hR := HM1.out.out (V := encV EdgE) (b := b) hf h1 hg
    rw [← hz] at hR
    have HR := Lib.hid hR
    clear hL hf h1 hg hq hz hR
    go_wp2_with fail
    exact ⟨rfl, HR.out⟩
  obtain rfl := hv
  have HE2 := Lib.hid (show (.ok ⟨x1, x2⟩ b2 : Rs Edg) = res from by rw [← HE1.out, hq]; rfl)
  have HM2 := Lib.hid (HM1.out.next hg hr)
  have HB2 := Lib.hid (HM1.out.blk HB1.out HBR.out hg)
  clear hL hr hg hq HM1 HE1 HB1
  have f0 := HB2.out.frozen 0
  have f1 := HB2.out.frozen 1
  have c0 := HB2.out.cell 0
  have c1 := HB2.out.cell 1
  go_wp2_with fail
  have hst := only_setCell (g := br) (p := ⟨br, 1, none⟩) (only_setCell (g := br) (p := ⟨br, 0, none⟩) (only_refl w2 _) rfl (.int .i64 x1)) rfl (.int .i64 x2)
  have HMF := Lib.hid (HM2.out.own HB2.out (by decide) HBR.out hst)
  have hbf : Blk ((w2.setCell ⟨br, 0, none⟩ (.int .i64 x1)).setCell ⟨br, 1, none⟩ (.int .i64 x2)) br 67 #[.int .i64 x1, .int .i64 x2] := ((HB2.out.set_ 0 (.int .i64 x1)).set_ 1 (.int .i64 x2))
  clear hst
  clear f0 c0 f1 c1
  generalize ((w2.setCell ⟨br, 0, none⟩ (.int .i64 x1)).setCell ⟨br, 1, none⟩ (.int .i64 x2)) = Wf at *
  have HBF := Lib.hid hbf
  clear hbf
  refine bodyPost_ret (results_cell_row rfl _ _ br 67 #[.int .i64 x1, .int .i64 x2] _ _ rfl HBF.out Tryz.underlying67 rfl (by kernel_rfl)) rfl ?_
  rw [← HE2.out]
  exact RdsR.ret ⟨_, rfl, rfl⟩ HMF.out.rd HMF.out.gr
set_option maxRecDepth 100000 in
set_option maxHeartbeats 2000000 in
theorem rparam_any {g a bg : Nat} {bs : List UInt8} {w : World} (h : Rdr w g bs a bg)  :
    Calls Tryz.prog 161 #[.pointer (some ⟨g, 0, none⟩)] w (RdsR (encV ParE) g bs bg (parR bs a) w) := by
  obtain ⟨res, hres⟩ : ∃ res, parR bs a = res := ⟨_, rfl⟩
  rw [hres]
  unfold parR at hres
  have HE0 := Lib.hid hres
  clear hres
  have hg0 : w.grownBy (w.alloc (.cells #[.bool false, .int .i64 0, .int .i64 0] 69)) none := only_alloc (only_refl _ _) _
  have HM0 := Lib.hid (MRS.start h hg0)
  have HB0 := Lib.hid (Blk.new w 69 #[.bool false, .int .i64 0, .int .i64 0])
  clear h hg0
  go_enter Tryz.func161, Tryz.ntmps161
  go_upto_region 1 with fail
  generalize w.alloc (.cells #[.bool false, .int .i64 0, .int .i64 0] 69) = W0 at *
  generalize hbr : w.heap.size = br at *
  have HBR : Hid (w.heap.size ≤ br) := Lib.hid (Nat.le_of_eq hbr)
  clear hbr
  have c0 := HB0.out.cell 0
  have c1 := HB0.out.cell 1
  have c2 := HB0.out.cell 2
  go_wp2_with fail
  clear c0 c1 c2
  refine (rmark_any HM0.out.rd).mono ?_
  rintro e w1 hL
  rcases hL.cases with ⟨x1, b1, v1, hq, rfl, hv, hr, hg⟩ | ⟨c, y, b, fb, hq, rfl, hf, h1, hg⟩
  rotate_left
  · have hz : res = .flt c y b := by rw [← HE0.out, hq]; rfl
    have hR := HM0.out.out (V := encV ParE) (b := b) hf h1 hg
    rw [← hz] at hR
    have HR := Lib.hid hR
    clear hL hf h1 hg hq hz hR
    go_wp2_with fail
    exact ⟨rfl, HR.out⟩
  obtain rfl := hv
  have HE1 := Lib.hid (show (if x1 = true then (edgR bs b1).bind fun t c => .ok ⟨true, t⟩ c else .ok ⟨false, ⟨0, 0⟩⟩ b1 : Rs Par) = res from by rw [← HE0.out, hq]; rfl)
  have HM1 := Lib.hid (HM0.out.next hg hr)
  have HB1 := Lib.hid (HM0.out.blk HB0.out HBR.out hg)
  clear hL hr hg hq HM0 HE0 HB0
  cases x1 with
  | true =>
    go_wp2_with fail
    refine (rtype_any HM1.out.rd).mono ?_
    rintro e w2 hL
    rcases hL.cases with ⟨x2, b2, v2, hq, rfl, hv, hr, hg⟩ | ⟨c, y, b, fb, hq, rfl, hf, h1, hg⟩
    rotate_left
    · have hz : res = .flt c y b := by rw [← HE1.out, hq]; rfl
      have hR := HM1.out.out (V := encV ParE) (b := b) hf h1 hg
      rw [← hz] at hR
      have HR := Lib.hid hR
      clear hL hf h1 hg hq hz hR
      go_wp2_with fail
      exact ⟨rfl, HR.out⟩
    obtain ⟨cs, rfl, hE⟩ := hv
    obtain rfl := hE
    have HE2 := Lib.hid (show (.ok ⟨true, x2⟩ b2 : Rs Par) = res from by rw [← HE1.out, hq]; rfl)
    have HM2 := Lib.hid (HM1.out.next hg hr)
    have HB2 := Lib.hid (HM1.out.blk HB1.out HBR.out hg)
    clear hL hr hg hq HM1 HE1 HB1
    have f0 := HB2.out.frozen 0
    have c0 := HB2.out.cell 0
    have f1 := HB2.out.frozen 1
    have c1 := HB2.out.cell 1
    have f2 := HB2.out.frozen 2
    have c2 := HB2.out.cell 2
    go_wp2_with fail
    have hst := only_setCell (g := br) (p := ⟨br, 2, none⟩) (only_setCell (g := br) (p := ⟨br, 1, none⟩) (only_setCell (g := br) (p := ⟨br, 0, none⟩) (only_refl w2 _) rfl (.bool true)) rfl (.int .i64 x2.to)) rfl (.int .i64 x2.sh)
    have HMF := Lib.hid (HM2.out.own HB2.out (by decide) HBR.out hst)
    have hbf : Blk (((w2.setCell ⟨br, 0, none⟩ (.bool true)).setCell ⟨br, 1, none⟩ (.int .i64 x2.to)).setCell ⟨br, 2, none⟩ (.int .i64 x2.sh)) br 69 #[.bool true, .int .i64 x2.to, .int .i64 x2.sh] := (((HB2.out.set_ 0 (.bool true)).set_ 1 (.int .i64 x2.to)).set_ 2 (.int .i64 x2.sh))
    clear hst
    clear f0 c0 f1 c1 f2 c2
    generalize (((w2.setCell ⟨br, 0, none⟩ (.bool true)).setCell ⟨br, 1, none⟩ (.int .i64 x2.to)).setCell ⟨br, 2, none⟩ (.int .i64 x2.sh)) = Wf at *
    have HBF := Lib.hid hbf
    clear hbf
    refine bodyPost_ret (results_cell_row rfl _ _ br 69 #[.bool true, .int .i64 x2.to, .int .i64 x2.sh] _ _ rfl HBF.out Tryz.underlying69 rfl (by kernel_rfl)) rfl ?_
    rw [← HE2.out]
    exact RdsR.ret ⟨_, rfl, rfl⟩ HMF.out.rd HMF.out.gr
  | false =>
    have f0 := HB1.out.frozen 0
    have c0 := HB1.out.cell 0
    have f1 := HB1.out.frozen 1
    have c1 := HB1.out.cell 1
    have f2 := HB1.out.frozen 2
    have c2 := HB1.out.cell 2
    go_wp2_with fail
    have hst := only_setCell (g := br) (p := ⟨br, 2, none⟩) (only_setCell (g := br) (p := ⟨br, 1, none⟩) (only_setCell (g := br) (p := ⟨br, 0, none⟩) (only_refl w1 _) rfl (.bool false)) rfl (.int .i64 0)) rfl (.int .i64 0)
    have HMF := Lib.hid (HM1.out.own HB1.out (by decide) HBR.out hst)
    have hbf : Blk (((w1.setCell ⟨br, 0, none⟩ (.bool false)).setCell ⟨br, 1, none⟩ (.int .i64 0)).setCell ⟨br, 2, none⟩ (.int .i64 0)) br 69 #[.bool false, .int .i64 0, .int .i64 0] := (((HB1.out.set_ 0 (.bool false)).set_ 1 (.int .i64 0)).set_ 2 (.int .i64 0))
    clear hst
    clear f0 c0 f1 c1 f2 c2
    generalize (((w1.setCell ⟨br, 0, none⟩ (.bool false)).setCell ⟨br, 1, none⟩ (.int .i64 0)).setCell ⟨br, 2, none⟩ (.int .i64 0)) = Wf at *
    have HBF := Lib.hid hbf
    clear hbf
    refine bodyPost_ret (results_cell_row rfl _ _ br 69 #[.bool false, .int .i64 0, .int .i64 0] _ _ rfl HBF.out Tryz.underlying69 rfl (by kernel_rfl)) rfl ?_
    rw [← (show (.ok ⟨false, ⟨0, 0⟩⟩ b1 : Rs Par) = res from HE1.out)]
    exact RdsR.ret ⟨_, rfl, rfl⟩ HMF.out.rd HMF.out.gr
set_option maxRecDepth 100000 in
set_option maxHeartbeats 2000000 in
theorem rarg_any {g a bg : Nat} {bs : List UInt8} {w : World} (h : Rdr w g bs a bg)  :
    Calls Tryz.prog 168 #[.pointer (some ⟨g, 0, none⟩)] w (RdsR (encV ArgE) g bs bg (argR bs a) w) := by
  obtain ⟨res, hres⟩ : ∃ res, argR bs a = res := ⟨_, rfl⟩
  rw [hres]
  unfold argR at hres
  have HE0 := Lib.hid hres
  clear hres
  have hg0 : w.grownBy (w.alloc (.cells #[.bool false, .int .i64 0, .int .i64 0] 71)) none := only_alloc (only_refl _ _) _
  have HM0 := Lib.hid (MRS.start h hg0)
  have HB0 := Lib.hid (Blk.new w 71 #[.bool false, .int .i64 0, .int .i64 0])
  clear h hg0
  go_enter Tryz.func168, Tryz.ntmps168
  go_upto_region 1 with fail
  generalize w.alloc (.cells #[.bool false, .int .i64 0, .int .i64 0] 71) = W0 at *
  generalize hbr : w.heap.size = br at *
  have HBR : Hid (w.heap.size ≤ br) := Lib.hid (Nat.le_of_eq hbr)
  clear hbr
  have c0 := HB0.out.cell 0
  have c1 := HB0.out.cell 1
  have c2 := HB0.out.cell 2
  go_wp2_with fail
  clear c0 c1 c2
  refine (rmark_any HM0.out.rd).mono ?_
  rintro e w1 hL
  rcases hL.cases with ⟨x1, b1, v1, hq, rfl, hv, hr, hg⟩ | ⟨c, y, b, fb, hq, rfl, hf, h1, hg⟩
  rotate_left
  · have hz : res = .flt c y b := by rw [← HE0.out, hq]; rfl
    have hR := HM0.out.out (V := encV ArgE) (b := b) hf h1 hg
    rw [← hz] at hR
    have HR := Lib.hid hR
    clear hL hf h1 hg hq hz hR
    go_wp2_with fail
    exact ⟨rfl, HR.out⟩
  obtain rfl := hv
  have HE1 := Lib.hid (show (if x1 = true then (smR bs b1 31).bind fun t c => .ok ⟨true, 0, t⟩ c else (sR bs b1).bind fun z c => .ok ⟨false, z, 0⟩ c : Rs Arg) = res from by rw [← HE0.out, hq]; rfl)
  have HM1 := Lib.hid (HM0.out.next hg hr)
  have HB1 := Lib.hid (HM0.out.blk HB0.out HBR.out hg)
  clear hL hr hg hq HM0 HE0 HB0
  cases x1 with
  | true =>
    go_wp2_with fail
    refine (rnum_any HM1.out.rd 31 ⟨by omega, by omega⟩).mono ?_
    rintro e w2 hL
    rcases hL.cases with ⟨x2, b2, v2, hq, rfl, hv, hr, hg⟩ | ⟨c, y, b, fb, hq, rfl, hf, h1, hg⟩
    rotate_left
    · have hz : res = .flt c y b := by rw [← HE1.out, hq]; rfl
      have hR := HM1.out.out (V := encV ArgE) (b := b) hf h1 hg
      rw [← hz] at hR
      have HR := Lib.hid hR
      clear hL hf h1 hg hq hz hR
      go_wp2_with fail
      exact ⟨rfl, HR.out⟩
    obtain rfl := hv
    have HE2 := Lib.hid (show (.ok ⟨true, 0, x2⟩ b2 : Rs Arg) = res from by rw [← HE1.out, hq]; rfl)
    have HM2 := Lib.hid (HM1.out.next hg hr)
    have HB2 := Lib.hid (HM1.out.blk HB1.out HBR.out hg)
    clear hL hr hg hq HM1 HE1 HB1
    have f0 := HB2.out.frozen 0
    have c0 := HB2.out.cell 0
    have f1 := HB2.out.frozen 1
    have c1 := HB2.out.cell 1
    have f2 := HB2.out.frozen 2
    have c2 := HB2.out.cell 2
    go_wp2_with fail
    have hst := only_setCell (g := br) (p := ⟨br, 2, none⟩) (only_setCell (g := br) (p := ⟨br, 1, none⟩) (only_setCell (g := br) (p := ⟨br, 0, none⟩) (only_refl w2 _) rfl (.bool true)) rfl (.int .i64 0)) rfl (.int .i64 x2)
    have HMF := Lib.hid (HM2.out.own HB2.out (by decide) HBR.out hst)
    have hbf : Blk (((w2.setCell ⟨br, 0, none⟩ (.bool true)).setCell ⟨br, 1, none⟩ (.int .i64 0)).setCell ⟨br, 2, none⟩ (.int .i64 x2)) br 71 #[.bool true, .int .i64 0, .int .i64 x2] := (((HB2.out.set_ 0 (.bool true)).set_ 1 (.int .i64 0)).set_ 2 (.int .i64 x2))
    clear hst
    clear f0 c0 f1 c1 f2 c2
    generalize (((w2.setCell ⟨br, 0, none⟩ (.bool true)).setCell ⟨br, 1, none⟩ (.int .i64 0)).setCell ⟨br, 2, none⟩ (.int .i64 x2)) = Wf at *
    have HBF := Lib.hid hbf
    clear hbf
    refine bodyPost_ret (results_cell_row rfl _ _ br 71 #[.bool true, .int .i64 0, .int .i64 x2] _ _ rfl HBF.out Tryz.underlying71 rfl (by kernel_rfl)) rfl ?_
    rw [← HE2.out]
    exact RdsR.ret ⟨_, rfl, rfl⟩ HMF.out.rd HMF.out.gr
  | false =>
    go_wp2_with fail
    refine (J.s_is HM1.out.rd).mono ?_
    rintro e w2 hL
    rcases says_cases hL with ⟨x2, b2, hq, rfl, hr, hg⟩ | ⟨c, y, b, fb, hq, rfl, hf, h1, hg⟩
    rotate_left
    · have hz : res = .flt c y b := by rw [← HE1.out]; show (sR bs b1).bind _ = _; rw [hq]; rfl
      have hR := HM1.out.out (V := encV ArgE) (b := b) hf h1 hg
      rw [← hz] at hR
      have HR := Lib.hid hR
      clear hL hf h1 hg hq hz hR
      go_wp2_with fail
      refine (mmust64_yes _ _ _).mono ?_
      rintro e w9 ⟨rfl, rfl⟩
      go_wp2_with fail
      exact ⟨rfl, HR.out⟩
    have HE2 := Lib.hid (show (.ok ⟨false, x2, 0⟩ b2 : Rs Arg) = res from by rw [← HE1.out]; show _ = (sR bs b1).bind _; rw [hq]; rfl)
    have HM2 := Lib.hid (HM1.out.next hg hr)
    have HB2 := Lib.hid (HM1.out.blk HB1.out HBR.out hg)
    clear hL hr hg hq HM1 HE1 HB1
    unfold J.zV
    go_wp2_with fail
    refine (mmust64_no _ _ rfl _).mono ?_
    rintro e w9 ⟨rfl, rfl⟩
    have f0 := HB2.out.frozen 0
    have c0 := HB2.out.cell 0
    have f1 := HB2.out.frozen 1
    have c1 := HB2.out.cell 1
    have f2 := HB2.out.frozen 2
    have c2 := HB2.out.cell 2
    go_wp2_with fail
    have hst := only_setCell (g := br) (p := ⟨br, 2, none⟩) (only_setCell (g := br) (p := ⟨br, 1, none⟩) (only_setCell (g := br) (p := ⟨br, 0, none⟩) (only_refl w2 _) rfl (.bool false)) rfl (.int .i64 x2)) rfl (.int .i64 0)
    have HMF := Lib.hid (HM2.out.own HB2.out (by decide) HBR.out hst)
    have hbf : Blk (((w2.setCell ⟨br, 0, none⟩ (.bool false)).setCell ⟨br, 1, none⟩ (.int .i64 x2)).setCell ⟨br, 2, none⟩ (.int .i64 0)) br 71 #[.bool false, .int .i64 x2, .int .i64 0] := (((HB2.out.set_ 0 (.bool false)).set_ 1 (.int .i64 x2)).set_ 2 (.int .i64 0))
    clear hst
    clear f0 c0 f1 c1 f2 c2
    generalize (((w2.setCell ⟨br, 0, none⟩ (.bool false)).setCell ⟨br, 1, none⟩ (.int .i64 x2)).setCell ⟨br, 2, none⟩ (.int .i64 0)) = Wf at *
    have HBF := Lib.hid hbf
    clear hbf
    refine bodyPost_ret (results_cell_row rfl _ _ br 71 #[.bool false, .int .i64 x2, .int .i64 0] _ _ rfl HBF.out Tryz.underlying71 rfl (by kernel_rfl)) rfl ?_
    rw [← HE2.out]
    exact RdsR.ret ⟨_, rfl, rfl⟩ HMF.out.rd HMF.out.gr
set_option maxRecDepth 100000 in
set_option maxHeartbeats 2000000 in
theorem rclo_Edg {g a bg : Nat} {bs : List UInt8} {w : World} (h : Rdr w g bs a bg) {bx : Nat} (hc : Blk w bx 54 #[.pointer (some ⟨g, 0, none⟩)]) :
    Calls Tryz.prog 158 #[.pointer (some ⟨bx, 0, none⟩)] w (RdsR (encV EdgE) g bs bg (edgR bs a) w) := by
  obtain ⟨res, hres⟩ : ∃ res, edgR bs a = res := ⟨_, rfl⟩
  rw [hres]
  have HE0 := Lib.hid hres
  clear hres
  have hg0 : w.grownBy (w.alloc (.cells #[.int .i64 0, .int .i64 0] 62)) none := only_alloc (only_refl _ _) _
  have HM0 := Lib.hid (MRS.start h hg0)
  have HB0 := Lib.hid (Blk.new w 62 #[.int .i64 0, .int .i64 0])
  have HC0 := Lib.hid (hc.kept hg0)
  clear h hg0 hc
  go_enter Tryz.func158, Tryz.ntmps158
  go_upto_region 1 with fail
  generalize w.alloc (.cells #[.int .i64 0, .int .i64 0] 62) = W0 at *
  generalize hbr : w.heap.size = br at *
  have HBR : Hid (w.heap.size ≤ br) := Lib.hid (Nat.le_of_eq hbr)
  clear hbr
  have cb := HC0.out.cell 0
  have c0 := HB0.out.cell 0
  have c1 := HB0.out.cell 1
  go_wp2_with fail
  clear cb c0 c1
  refine (redge_any HM0.out.rd).mono ?_
  rintro e w1 hL
  rcases hL.cases with ⟨x1, b1, v1, hq, rfl, hv, hr, hg⟩ | ⟨c, y, b, fb, hq, rfl, hf, h1, hg⟩
  rotate_left
  · have hz : res = .flt c y b := by rw [← HE0.out, hq]
    have hR := HM0.out.out (V := encV EdgE) (b := b) hf h1 hg
    rw [← hz] at hR
    have HR := Lib.hid hR
    clear hL hf h1 hg hq hz hR
    go_wp2_with fail
    exact ⟨rfl, HR.out⟩
  obtain ⟨cs, rfl, hE⟩ := hv
  obtain rfl := hE
  have HE1 := Lib.hid (show (.ok x1 b1 : Rs _) = res from by rw [← HE0.out, hq])
  have HM1 := Lib.hid (HM0.out.next hg hr)
  have HB1 := Lib.hid (HM0.out.blk HB0.out HBR.out hg)
  clear hL hr hg hq HM0 HE0 HB0
  have f0 := HB1.out.frozen 0
  have c0 := HB1.out.cell 0
  have f1 := HB1.out.frozen 1
  have c1 := HB1.out.cell 1
  go_wp2_with fail
  have hst := only_setCell (g := br) (p := ⟨br, 1, none⟩) (only_setCell (g := br) (p := ⟨br, 0, none⟩) (only_refl w1 _) rfl (.int .i64 x1.to)) rfl (.int .i64 x1.sh)
  have HMF := Lib.hid (HM1.out.own HB1.out (by decide) HBR.out hst)
  have hbf : Blk ((w1.setCell ⟨br, 0, none⟩ (.int .i64 x1.to)).setCell ⟨br, 1, none⟩ (.int .i64 x1.sh)) br 62 #[.int .i64 x1.to, .int .i64 x1.sh] := ((HB1.out.set_ 0 (.int .i64 x1.to)).set_ 1 (.int .i64 x1.sh))
  clear hst
  clear f0 c0 f1 c1
  generalize ((w1.setCell ⟨br, 0, none⟩ (.int .i64 x1.to)).setCell ⟨br, 1, none⟩ (.int .i64 x1.sh)) = Wf at *
  have HBF := Lib.hid hbf
  clear hbf
  refine bodyPost_ret (results_cell_row rfl _ _ br 62 #[.int .i64 x1.to, .int .i64 x1.sh] _ _ rfl HBF.out Tryz.underlying62 rfl (by kernel_rfl)) rfl ?_
  rw [← HE1.out]
  exact RdsR.ret ⟨_, rfl, rfl⟩ HMF.out.rd HMF.out.gr
set_option maxRecDepth 100000 in
set_option maxHeartbeats 2000000 in
theorem rclo_Par {g a bg : Nat} {bs : List UInt8} {w : World} (h : Rdr w g bs a bg) {bx : Nat} (hc : Blk w bx 54 #[.pointer (some ⟨g, 0, none⟩)]) :
    Calls Tryz.prog 160 #[.pointer (some ⟨bx, 0, none⟩)] w (RdsR (encV ParE) g bs bg (parR bs a) w) := by
  obtain ⟨res, hres⟩ : ∃ res, parR bs a = res := ⟨_, rfl⟩
  rw [hres]
  have HE0 := Lib.hid hres
  clear hres
  have hg0 : w.grownBy (w.alloc (.cells #[.bool false, .int .i64 0, .int .i64 0] 69)) none := only_alloc (only_refl _ _) _
  have HM0 := Lib.hid (MRS.start h hg0)
  have HB0 := Lib.hid (Blk.new w 69 #[.bool false, .int .i64 0, .int .i64 0])
  have HC0 := Lib.hid (hc.kept hg0)
  clear h hg0 hc
  go_enter Tryz.func160, Tryz.ntmps160
  go_upto_region 1 with fail
  generalize w.alloc (.cells #[.bool false, .int .i64 0, .int .i64 0] 69) = W0 at *
  generalize hbr : w.heap.size = br at *
  have HBR : Hid (w.heap.size ≤ br) := Lib.hid (Nat.le_of_eq hbr)
  clear hbr
  have cb := HC0.out.cell 0
  have c0 := HB0.out.cell 0
  have c1 := HB0.out.cell 1
  have c2 := HB0.out.cell 2
  go_wp2_with fail
  clear cb c0 c1 c2
  refine (rparam_any HM0.out.rd).mono ?_
  rintro e w1 hL
  rcases hL.cases with ⟨x1, b1, v1, hq, rfl, hv, hr, hg⟩ | ⟨c, y, b, fb, hq, rfl, hf, h1, hg⟩
  rotate_left
  · have hz : res = .flt c y b := by rw [← HE0.out, hq]
    have hR := HM0.out.out (V := encV ParE) (b := b) hf h1 hg
    rw [← hz] at hR
    have HR := Lib.hid hR
    clear hL hf h1 hg hq hz hR
    go_wp2_with fail
    exact ⟨rfl, HR.out⟩
  obtain ⟨cs, rfl, hE⟩ := hv
  obtain rfl := hE
  have HE1 := Lib.hid (show (.ok x1 b1 : Rs _) = res from by rw [← HE0.out, hq])
  have HM1 := Lib.hid (HM0.out.next hg hr)
  have HB1 := Lib.hid (HM0.out.blk HB0.out HBR.out hg)
  clear hL hr hg hq HM0 HE0 HB0
  have f0 := HB1.out.frozen 0
  have c0 := HB1.out.cell 0
  have f1 := HB1.out.frozen 1
  have c1 := HB1.out.cell 1
  have f2 := HB1.out.frozen 2
  have c2 := HB1.out.cell 2
  go_wp2_with fail
  have hst := only_setCell (g := br) (p := ⟨br, 2, none⟩) (only_setCell (g := br) (p := ⟨br, 1, none⟩) (only_setCell (g := br) (p := ⟨br, 0, none⟩) (only_refl w1 _) rfl (.bool x1.ch)) rfl (.int .i64 x1.ty.to)) rfl (.int .i64 x1.ty.sh)
  have HMF := Lib.hid (HM1.out.own HB1.out (by decide) HBR.out hst)
  have hbf : Blk (((w1.setCell ⟨br, 0, none⟩ (.bool x1.ch)).setCell ⟨br, 1, none⟩ (.int .i64 x1.ty.to)).setCell ⟨br, 2, none⟩ (.int .i64 x1.ty.sh)) br 69 #[.bool x1.ch, .int .i64 x1.ty.to, .int .i64 x1.ty.sh] := (((HB1.out.set_ 0 (.bool x1.ch)).set_ 1 (.int .i64 x1.ty.to)).set_ 2 (.int .i64 x1.ty.sh))
  clear hst
  clear f0 c0 f1 c1 f2 c2
  generalize (((w1.setCell ⟨br, 0, none⟩ (.bool x1.ch)).setCell ⟨br, 1, none⟩ (.int .i64 x1.ty.to)).setCell ⟨br, 2, none⟩ (.int .i64 x1.ty.sh)) = Wf at *
  have HBF := Lib.hid hbf
  clear hbf
  refine bodyPost_ret (results_cell_row rfl _ _ br 69 #[.bool x1.ch, .int .i64 x1.ty.to, .int .i64 x1.ty.sh] _ _ rfl HBF.out Tryz.underlying69 rfl (by kernel_rfl)) rfl ?_
  rw [← HE1.out]
  exact RdsR.ret ⟨_, rfl, rfl⟩ HMF.out.rd HMF.out.gr
set_option maxRecDepth 100000 in
set_option maxHeartbeats 2000000 in
theorem rclo_Arg {g a bg : Nat} {bs : List UInt8} {w : World} (h : Rdr w g bs a bg) {bx : Nat} (hc : Blk w bx 54 #[.pointer (some ⟨g, 0, none⟩)]) :
    Calls Tryz.prog 167 #[.pointer (some ⟨bx, 0, none⟩)] w (RdsR (encV ArgE) g bs bg (argR bs a) w) := by
  obtain ⟨res, hres⟩ : ∃ res, argR bs a = res := ⟨_, rfl⟩
  rw [hres]
  have HE0 := Lib.hid hres
  clear hres
  have hg0 : w.grownBy (w.alloc (.cells #[.bool false, .int .i64 0, .int .i64 0] 71)) none := only_alloc (only_refl _ _) _
  have HM0 := Lib.hid (MRS.start h hg0)
  have HB0 := Lib.hid (Blk.new w 71 #[.bool false, .int .i64 0, .int .i64 0])
  have HC0 := Lib.hid (hc.kept hg0)
  clear h hg0 hc
  go_enter Tryz.func167, Tryz.ntmps167
  go_upto_region 1 with fail
  generalize w.alloc (.cells #[.bool false, .int .i64 0, .int .i64 0] 71) = W0 at *
  generalize hbr : w.heap.size = br at *
  have HBR : Hid (w.heap.size ≤ br) := Lib.hid (Nat.le_of_eq hbr)
  clear hbr
  have cb := HC0.out.cell 0
  have c0 := HB0.out.cell 0
  have c1 := HB0.out.cell 1
  have c2 := HB0.out.cell 2
  go_wp2_with fail
  clear cb c0 c1 c2
  refine (rarg_any HM0.out.rd).mono ?_
  rintro e w1 hL
  rcases hL.cases with ⟨x1, b1, v1, hq, rfl, hv, hr, hg⟩ | ⟨c, y, b, fb, hq, rfl, hf, h1, hg⟩
  rotate_left
  · have hz : res = .flt c y b := by rw [← HE0.out, hq]
    have hR := HM0.out.out (V := encV ArgE) (b := b) hf h1 hg
    rw [← hz] at hR
    have HR := Lib.hid hR
    clear hL hf h1 hg hq hz hR
    go_wp2_with fail
    exact ⟨rfl, HR.out⟩
  obtain ⟨cs, rfl, hE⟩ := hv
  obtain rfl := hE
  have HE1 := Lib.hid (show (.ok x1 b1 : Rs _) = res from by rw [← HE0.out, hq])
  have HM1 := Lib.hid (HM0.out.next hg hr)
  have HB1 := Lib.hid (HM0.out.blk HB0.out HBR.out hg)
  clear hL hr hg hq HM0 HE0 HB0
  have f0 := HB1.out.frozen 0
  have c0 := HB1.out.cell 0
  have f1 := HB1.out.frozen 1
  have c1 := HB1.out.cell 1
  have f2 := HB1.out.frozen 2
  have c2 := HB1.out.cell 2
  go_wp2_with fail
  have hst := only_setCell (g := br) (p := ⟨br, 2, none⟩) (only_setCell (g := br) (p := ⟨br, 1, none⟩) (only_setCell (g := br) (p := ⟨br, 0, none⟩) (only_refl w1 _) rfl (.bool x1.ch)) rfl (.int .i64 x1.word)) rfl (.int .i64 x1.end_)
  have HMF := Lib.hid (HM1.out.own HB1.out (by decide) HBR.out hst)
  have hbf : Blk (((w1.setCell ⟨br, 0, none⟩ (.bool x1.ch)).setCell ⟨br, 1, none⟩ (.int .i64 x1.word)).setCell ⟨br, 2, none⟩ (.int .i64 x1.end_)) br 71 #[.bool x1.ch, .int .i64 x1.word, .int .i64 x1.end_] := (((HB1.out.set_ 0 (.bool x1.ch)).set_ 1 (.int .i64 x1.word)).set_ 2 (.int .i64 x1.end_))
  clear hst
  clear f0 c0 f1 c1 f2 c2
  generalize (((w1.setCell ⟨br, 0, none⟩ (.bool x1.ch)).setCell ⟨br, 1, none⟩ (.int .i64 x1.word)).setCell ⟨br, 2, none⟩ (.int .i64 x1.end_)) = Wf at *
  have HBF := Lib.hid hbf
  clear hbf
  refine bodyPost_ret (results_cell_row rfl _ _ br 71 #[.bool x1.ch, .int .i64 x1.word, .int .i64 x1.end_] _ _ rfl HBF.out Tryz.underlying71 rfl (by kernel_rfl)) rfl ?_
  rw [← HE1.out]
  exact RdsR.ret ⟨_, rfl, rfl⟩ HMF.out.rd HMF.out.gr
end Go.Proofs.YtohhojbeclbedaaGreatDoor

namespace Go.Proofs.YtohhojbeclbedaaGreatDoor
open Go.RowKit

theorem addr_M (g j : Nat) : (⟨g, 0, none⟩ : Addr).add j = ⟨g, 0 + j, none⟩ := by
  unfold Addr.add
  split
  · rename_i h; subst h; rfl
  · rfl
theorem KeptS.of_turn {S T : Nat → Prop} {W W' : World} (ht : Turn T W W') (hS : ∀ b, S b → ¬ T b) : KeptS S W W' := fun p v hp hv => by
  have hl := cell_lt hv
  rw [World.cell?_of_block (ht.block _ hl (hS _ hp))]
  exact hv
theorem flat_at {sz : Nat} : ∀ (css : List (Array Value)), (∀ cs ∈ css, cs.size = sz) → ∀ (i : Nat) (cs : Array Value), css[i]? = some cs → ∀ (j : Nat) (u : Value), cs[j]? = some u → (css.flatMap Array.toList)[i * sz + j]? = some u
  | [], _, i, cs, hi, j, u, hj => by simp at hi
  | c :: css, h, i, cs, hi, j, u, hj => by
    have hc := h c (List.mem_cons_self)
    rw [List.flatMap_cons]
    cases i with
    | zero =>
      simp only [List.getElem?_cons_zero, Option.some.injEq] at hi
      subst hi
      have hjl := (Array.getElem?_eq_some_iff.1 hj).1
      rw [Nat.zero_mul, Nat.zero_add, List.getElem?_append_left (by simpa using hjl), Array.getElem?_toList]
      exact hj
    | succ i =>
      rw [List.getElem?_cons_succ] at hi
      have := flat_at css (fun d hd => h d (List.mem_cons_of_mem _ hd)) i cs hi j u hj
      rw [List.getElem?_append_right (by simp [hc, Nat.succ_mul]; omega)]
      have e : (i + 1) * sz + j - c.toList.length = i * sz + j := by simp [hc, Nat.succ_mul]; omega
      rw [e]
      exact this
/-- A list that a call makes, beside blocks T that others turn: css are its things' cells. -/
structure OL {α : Type} (E : Enc α) (sz : Nat) (t : TypeId) (base : Nat) (T : Nat → Prop) (W : World) (v : Value) (xs : List α) (css : List (Array Value)) : Prop where
  row : W.ownsRow base t sz v xs.length (css.flatMap Array.toList)
  len : css.length = xs.length
  sizes : ∀ cs ∈ css, cs.size = sz
  el : ∀ (i : Nat) (x : α) (cs : Array Value), xs[i]? = some x → css[i]? = some cs → E (fun k => base ≤ k ∧ ¬ T k ∧ some k ≠ v.ownBlock) W x cs
  ap : ∀ k, v.ownBlock = some k → ¬ T k
section
variable {α : Type} {E : Enc α} {sz : Nat} {t : TypeId} {base : Nat} {T T' : Nat → Prop} {W W' : World} {v : Value} {xs : List α} {css : List (Array Value)}
theorem OL.nil_ (E : Enc α) (sz : Nat) (t : TypeId) (base : Nat) (T : Nat → Prop) (W : World) : OL E sz t base T W (.slice none 0 0) [] [] :=
  ⟨World.ownsRow_nil _ _ _ _, rfl, (fun cs h => by cases h), (fun i x cs h => by simp at h), (fun k h => by simp [Value.ownBlock] at h)⟩
theorem OL.turn (hE : E.Ok sz) (h : OL E sz t base T W v xs css) (ht : Turn T W W') (hT : ∀ k, k < W.heap.size → ¬ T k → ¬ T' k) : OL E sz t base T' W' v xs css := by
  refine ⟨own_turn h.row ht h.ap, h.len, h.sizes, fun i x cs h1 h2 => ?_, fun k hk => hT k (World.ownsRow.lt h.row k hk).2 (h.ap k hk)⟩
  have e1 := hE.more (S' := fun k => (base ≤ k ∧ ¬ T' k ∧ some k ≠ v.ownBlock) ∧ ¬ T k) (h.el i x cs h1 h2) (fun b hb hl => ⟨⟨hb.1, hT b hl hb.2.1, hb.2.2⟩, hb.2.1⟩)
  exact hE.more (hE.kept e1 (KeptS.of_turn ht (fun b hb => hb.2))) (fun b hb _ => hb.1)
theorem OL.none_ (hE : E.Ok sz) (h : OL E sz t base T W v xs css) (hg : W.grownBy W' none) : OL E sz t base T W' v xs css := h.turn hE (Turn.none_ hg) (fun _ _ h => h)
theorem OL.list (hE : E.Ok sz) (h : OL E sz t base T W v xs css) : ListA E sz (fun k => base ≤ k ∧ ¬ T k) W v xs := by
  rcases h.row.2 with ⟨rfl, hn⟩ | ⟨g, cap, cur, rfl, hb, hh, hn, hm, _, _⟩
  · obtain rfl : xs = [] := List.length_eq_zero_iff.1 hn
    exact ListA.nil_ _ _
  · refine ⟨some ⟨g, 0, none⟩, cap, rfl, hn, by unfold maxLen at hm; omega, fun _ => ⟨g, 0, rfl, ⟨hb, h.ap g rfl⟩, fun i x hx => ?_⟩⟩
    have hi : i < css.length := by rw [h.len]; exact (List.getElem?_eq_some_iff.1 hx).1
    obtain ⟨cs, hcs⟩ : ∃ cs, css[i]? = some cs := ⟨_, List.getElem?_eq_getElem hi⟩
    refine ⟨cs, hE.more (h.el i x cs hx hcs) (fun b hb _ => ⟨hb.1, hb.2.1⟩), fun j u hu => ?_⟩
    have := World.ownsRow.cells h.row (g := g) rfl (i * sz + j) u (flat_at css h.sizes i cs hcs j u hu)
    rw [addr_M, Nat.zero_add] at this
    rw [Nat.zero_add]
    exact this
/-- One thing more. -/
theorem wpList_append_ol {ops : Array Oper} {rest : List Oper} {o : Oper} {a : Act} {Q : Exit → Act → World → Prop} (hgd : o.guard = none) (s x : Operand) (ts : TypeId)
    (ho : o.op = .call { callee := .builtin .append, args := #[s, x], argTypes := #[ts, ts] }) (hu : Tryz.prog.underlying ts = some (.slice t)) {z : Value} {bytes : Nat} (hinfo : (Tryz.prog.info? t).map (fun i => (i.zero, i.size, i.bytes)) = some (some z, sz, bytes))
    (hzs : z.cells.size = sz) (h0 : 0 < sz) (hby : bytes ≤ 1000) (hE : E.Ok sz) {g : Nat} (hs : a.eval s = v) (hx : a.eval x = .slice (some ⟨g, 0, none⟩) 1 1)
    (hot : OL E sz t base T W v xs css) {y : α} {cs : Array Value} (hb : Blk W g t cs) (hcs : cs.size = sz) (h1 : ∀ u ∈ cs.toList, u.oneCell' = true) (hy : E (fun k => base ≤ k ∧ ¬ T k ∧ some k ≠ v.ownBlock) W y cs) (hn : xs.length ≤ 1000) (hbase : base ≤ W.heap.size) (hT : ∀ k, T k → k < W.heap.size)
    (h : ∀ v' W', OL E sz t base T W' v' (xs ++ [y]) (css ++ [cs]) → W.grownBy W' v.ownBlock → wpList Tryz.prog ops Q rest (a.put o.dst v') W') : wpList Tryz.prog ops Q (o :: rest) a W := by
  obtain ⟨i0, hi, hz0, hz1, hz2⟩ := info_parts hinfo
  refine wpList_plain hgd fun K hK => ?_
  have hbb : (xs.length + 1) * bytes ≤ 140737488355328 := by
    have := Nat.mul_le_mul (show xs.length + 1 ≤ 1001 by omega) hby
    omega
  obtain ⟨v', W', hr, h2, h3, _, h5⟩ := run_append_own_at (P := Tryz.prog) W base ts o.type t i0 z sz bytes hu hi hz0 hz1 hz2 hzs h0 v xs.length (css.flatMap Array.toList) hot.row ⟨g, 0, none⟩ 1 1 cs.toList (by simp [hcs]) (fun j u hu => by
    rw [addr_M, Nat.zero_add, hb.cell j, ← hu]; simp) h1 (by unfold maxLen; omega) hbb hbase
  unfold Oper.wp execOp
  simp only [ho, resolve, invoke, builtin, Sem.run_bind, Sem.run_pure, Result.andThen_ok, List.map_toArray, List.map_cons, List.map_nil, hs, hx, hr]
  have hrow : ∀ k, v.ownBlock = some k → base ≤ k ∧ k < W.heap.size := fun k hk => World.ownsRow.lt hot.row k hk
  have step : ∀ {x : α} {cs : Array Value}, E (fun k => base ≤ k ∧ ¬ T k ∧ some k ≠ v.ownBlock) W x cs → E (fun k => base ≤ k ∧ ¬ T k ∧ some k ≠ v'.ownBlock) W' x cs := fun {x cs} he => by
    have e1 := hE.more (S' := fun k => (base ≤ k ∧ ¬ T k ∧ some k ≠ v'.ownBlock) ∧ some k ≠ v.ownBlock) he (fun b hb hl => ⟨⟨hb.1, hb.2.1, fun e => by
      rcases h5 with h5 | h5
      · exact hb.2.2 (e.trans h5)
      · rw [h5] at e; injection e with e; omega⟩, hb.2.2⟩)
    exact hE.more (hE.kept e1 (KeptS.grown h3 (fun b hb => hb.2))) (fun b hb _ => hb.1)
  refine hK _ _ (h v' W' ⟨?_, by rw [List.length_append, List.length_append, hot.len]; rfl, fun c hc => ?_, fun i x c hx hc => ?_, fun k hk => ?_⟩ h3)
  · rw [List.length_append, List.flatMap_append]
    simpa using h2
  · rcases List.mem_append.1 hc with hc | hc
    · exact hot.sizes c hc
    · obtain rfl := List.mem_singleton.1 hc
      exact hcs
  · rcases Nat.lt_or_ge i xs.length with hil | hil
    · rw [List.getElem?_append_left hil] at hx
      rw [List.getElem?_append_left (by rw [hot.len]; exact hil)] at hc
      exact step (hot.el i x c hx hc)
    · have hi2 : i = xs.length := by
        have := (List.getElem?_eq_some_iff.1 hx).1
        rw [List.length_append, List.length_singleton] at this
        omega
      subst hi2
      rw [List.getElem?_append_right (Nat.le_refl _), Nat.sub_self] at hx
      rw [← hot.len, List.getElem?_append_right (Nat.le_refl _), Nat.sub_self] at hc
      simp only [List.getElem?_cons_zero, Option.some.injEq] at hx hc
      subst hx hc
      exact step hy
  · rcases h5 with h5 | h5
    · exact hot.ap k (h5.symm.trans hk)
    · intro hTk
      have := hT k hTk
      rw [h5] at hk
      injection hk with hk
      omega
end
theorem own_rowM {W : World} {base : Nat} {v : Value} {n : Nat} {xs : List Value} {t : TypeId} {size : Nat} (h : W.ownsRow base t size v n xs) : ∀ g, v.ownBlock = some g → base ≤ g ∧ ∃ cs, Blk W g t cs := fun g hg => by
  rcases h.2 with ⟨rfl, _⟩ | ⟨g', cap, cur, rfl, hb, hh, _⟩
  · simp [Value.ownBlock] at hg
  · have : g' = g := by simpa [Value.ownBlock] using hg
    subst this
    exact ⟨hb, cur, hh⟩
/-! ### What a closure keeps -/
/-- What was told, with places; the blocks that the closure turns; memory. -/
abbrev Inv (α : Type) := List (α × Nat) → (Nat → Prop) → World → Prop
structure Inv.Ok {α : Type} (I : Inv α) (J : World → Prop) (g base : Nat) : Prop where
  jj : ∀ {pre T W}, I pre T W → J W
  keep : ∀ {pre T W W' row}, I pre T W → W.grownBy W' row → (∀ u, row = some u → base ≤ u ∧ ¬ T u) → I pre T W'
  mv : ∀ {pre T W W'}, I pre T W → W.grownBy W' (some g) → I pre T W'
  lt : ∀ {pre T W k}, I pre T W → T k → k < W.heap.size
  rd : ∀ {pre T W}, I pre T W → T g
/-- What the closure's call leaves. -/
def CloR {α : Type} (V : (Nat → Prop) → World → α → Value → Prop) (I : Inv α) (J : World → Prop) (g : Nat) (bs : List UInt8) (bg : Nat) (pre : List (α × Nat)) (T : Nat → Prop) (b : Nat) (r : Rs α) (W : World) (e : Ending) (W' : World) : Prop := match r with
  | .ok x c => ∃ v T', e = .returned v ∧ Rdr W' g bs c bg ∧ I (pre ++ [(x, b)]) T' W' ∧ V (fun k => W.heap.size ≤ k ∧ ¬ T' k) W' x v ∧ Turn T W W' ∧ (∀ k, k < W.heap.size → ¬ T k → ¬ T' k)
  | .flt c y _ => ∃ fb, e = gaveF fb ∧ Flt W' fb c ((bg : Int) + (y : Int)) ∧ W.heap.size ≤ fb ∧ Turn T W W' ∧ J W'
/-- What readAll leaves. -/
def LstR {α : Type} (E : Enc α) (sz : Nat) (I : Inv α) (J : World → Prop) (g : Nat) (bs : List UInt8) (bg : Nat) (T : Nat → Prop) (r : Rs (List (α × Nat))) (w : World) (e : Ending) (w' : World) : Prop := match r with
  | .ok l c => ∃ v T', e = .returned v ∧ Rdr w' g bs c bg ∧ I l T' w' ∧ ListA E sz (fun k => w.heap.size ≤ k ∧ ¬ T' k) w' v (l.map Prod.fst) ∧ Turn T w w' ∧ (∀ k, k < w.heap.size → ¬ T k → ¬ T' k)
  | .flt c y _ => ∃ fb, e = gaveF fb ∧ Flt w' fb c ((bg : Int) + (y : Int)) ∧ w.heap.size ≤ fb ∧ Turn T w w' ∧ J w'
theorem rep_next {α : Type} {f : List UInt8 → Nat → Rs α} {bs : List UInt8} {n b c : Nat} {pre : List (α × Nat)} {x : α} (h : f bs b = .ok x c) : ((repR f bs (n + 1) b).bind fun l c => (.ok (pre ++ l) c : Rs (List (α × Nat)))) = (repR f bs n c).bind fun l c => .ok ((pre ++ [(x, b)]) ++ l) c := by
  rw [repR, h, Rs.bind_ok]
  cases repR f bs n c with
  | flt c y b => rfl
  | ok l c => rw [Rs.bind_ok, Rs.bind_ok, Rs.bind_ok, List.append_assoc]; rfl
theorem rep_flt {α : Type} {f : List UInt8 → Nat → Rs α} {bs : List UInt8} {n b : Nat} {pre : List (α × Nat)} {c : Int} {y d : Nat} (h : f bs b = .flt c y d) : ((repR f bs (n + 1) b).bind fun l c => (.ok (pre ++ l) c : Rs (List (α × Nat)))) = .flt c y d := by
  rw [repR, h]; rfl
theorem Turn.then_ {T T' : Nat → Prop} {w W W' : World} (h : Turn T w W) (k : Turn T' W W') (hT : ∀ k, k < w.heap.size → ¬ T k → ¬ T' k) : Turn T w W' :=
  ⟨k.os.trans h.os, k.tape.trans h.tape, k.output.trans h.output, Nat.le_trans h.size k.size, fun i hi hn => (k.block i (Nat.lt_of_lt_of_le hi h.size) (hT i hi hn)).trans (h.block i hi hn)⟩
end Go.Proofs.YtohhojbeclbedaaGreatDoor

/- Texts joined for the claim's sake: MRdS, MRdO. -/
import Derived.Test.YtohhojbeclbedaaGreatDoorZMKnwRow29
import Derived.Test.YtohhojbeclbedaaGreatDoorZMKnwRow44
import Derived.Laws.Rows
namespace Go.Proofs.YtohhojbeclbedaaGreatDoor
open Go.RowKit

/-- A list stays as a block is turned that was there before it. -/
theorem list_stored {α : Type} {E : Enc α} {sz n m br : Nat} (hE : E.Ok sz) {W Wf : World} {v : Value} {xs : List α} (h : ListA E sz (fun k => n ≤ k) W v xs) (hbr : br < n) (hn : m ≤ n) (hg : W.grownBy Wf (some br)) : ListA E sz (fun k => m ≤ k) Wf v xs := by
  have h2 := h.kept hE (KeptS.grown hg (fun b hb e => by injection e with e; omega))
  obtain ⟨A, c, h1, h3, h4, h5⟩ := h2
  refine ⟨A, c, h1, h3, h4, fun hne => ?_⟩
  obtain ⟨b, off, k1, k2, k3⟩ := h5 hne
  refine ⟨b, off, k1, Nat.le_trans hn k2, fun i x hx => ?_⟩
  obtain ⟨cs, k4, k5⟩ := k3 i x hx
  exact ⟨cs, hE.more k4 (fun b hb _ => Nat.le_trans hn hb), k5⟩
set_option maxRecDepth 100000 in
set_option maxHeartbeats 4000000 in
theorem rstart_any {g a bg : Nat} {bs : List UInt8} {w : World} (h : Rdr w g bs a bg)  :
    Calls Tryz.prog 120 #[.pointer (some ⟨g, 0, none⟩)] w (RdsR (encV StaE) g bs bg (staR bs a) w) := by
  obtain ⟨res, hres⟩ : ∃ res, staR bs a = res := ⟨_, rfl⟩
  rw [hres]
  unfold staR at hres
  have HE0 := Lib.hid hres
  clear hres
  have hg0 : w.grownBy ((w.alloc (.cells #[.pointer (some ⟨g, 0, none⟩)] 54)).alloc (.cells #[.int .i64 0, .slice none 0 0] 74)) none := only_alloc (only_alloc (only_refl _ _) _) _
  have HM0 := Lib.hid (MRS.start h hg0)
  have HC0 : Hid (Blk ((w.alloc (.cells #[.pointer (some ⟨g, 0, none⟩)] 54)).alloc (.cells #[.int .i64 0, .slice none 0 0] 74)) w.heap.size 54 #[.pointer (some ⟨g, 0, none⟩)]) := Lib.hid ((Blk.new _ _ _).alloc _)
  have HB0 : Hid (Blk ((w.alloc (.cells #[.pointer (some ⟨g, 0, none⟩)] 54)).alloc (.cells #[.int .i64 0, .slice none 0 0] 74)) (w.heap.size + 1) 74 #[.int .i64 0, .slice none 0 0]) := Lib.hid (blk_new_at (by simp) _ _)
  have HGL : Hid (g < w.heap.size) := Lib.hid h.lt
  clear h hg0
  go_enter Tryz.func120, Tryz.ntmps120
  go_upto_region 1 with fail
  generalize ((w.alloc (.cells #[.pointer (some ⟨g, 0, none⟩)] 54)).alloc (.cells #[.int .i64 0, .slice none 0 0] 74)) = w0 at *
  generalize hbr : w.heap.size + 1 = br at *
  generalize hbx : w.heap.size = bx at *
  have HBR : Hid (w.heap.size ≤ br) := Lib.hid (by omega)
  have HBX : Hid (w.heap.size ≤ bx) := Lib.hid (by omega)
  have HXG : Hid (bx ≠ g) := Lib.hid (by have := HGL.out; omega)
  clear hbr hbx
  have cb := HC0.out.cell 0
  go_wp2_with fail
  clear cb
  refine (rnum_any HM0.out.rd 15 ⟨by omega, by omega⟩).mono ?_
  rintro e w1 hL
  rcases hL.cases with ⟨x1, b1, v1, hq, rfl, hv, hr, hg⟩ | ⟨c, y, b, fb, hq, rfl, hf, h1, hg⟩
  rotate_left
  · have hz : res = .flt c y b := by rw [← HE0.out, hq]; rfl
    have hR := HM0.out.out (V := encV StaE) (b := b) hf h1 hg
    rw [← hz] at hR
    have HR := Lib.hid hR
    clear hL hf h1 hg hq hz hR
    go_wp2_with fail
    exact ⟨rfl, HR.out⟩
  obtain rfl := hv
  have HE1 := Lib.hid (show ((lstR argR 0 8 bs b1).bind fun l c => .ok ⟨x1, l.map Prod.fst⟩ c : Rs Sta) = res from by rw [← HE0.out, hq]; rfl)
  have HM1 := Lib.hid (HM0.out.next hg hr)
  have HB1 := Lib.hid (HM0.out.blk HB0.out HBR.out hg)
  have HC1 := Lib.hid (HM0.out.blk HC0.out HBX.out hg)
  clear hL hr hg hq HC0 HM0 HE0 HB0
  have cb := HC1.out.cell 0
  go_wp2_with fail
  clear cb
  refine (rall_Arg HM1.out.rd _ (MSI _ bx g _) (fun k => k = g) (si_start HC1.out HXG.out HM1.out.rd.lt) si_ok 0 8 ⟨by omega, by omega⟩ (by omega) (fun pre T b W hi hr _ _ => (rclo_Arg hr hi.2.1).mono fun _ _ h => si_clo arg_ok hi h)).mono ?_
  rintro e w2 hL
  rcases si_list arg_ok hL with ⟨x2, b2, v2, hq, rfl, hv, hr, hg⟩ | ⟨c, y, b, fb, hq, rfl, hf, h1, hg⟩
  rotate_left
  · have hz : res = .flt c y b := by rw [← HE1.out, hq]; rfl
    have hR := HM1.out.out (V := encV StaE) (b := b) hf h1 hg
    rw [← hz] at hR
    have HR := Lib.hid hR
    clear hL hf h1 hg hq hz hR
    go_wp2_with fail
    exact ⟨rfl, HR.out⟩
  obtain ⟨A2, q2, hvA, _⟩ := id hv
  rw [List.length_map] at hvA
  subst hvA
  have HE2 := Lib.hid (show (.ok ⟨x1, x2.map Prod.fst⟩ b2 : Rs Sta) = res from by rw [← HE1.out, hq]; rfl)
  have HM2 := Lib.hid (HM1.out.next hg hr)
  have HB2 := Lib.hid (HM1.out.blk HB1.out HBR.out hg)
  have HC2 := Lib.hid (HM1.out.blk HC1.out HBX.out hg)
  have HV2 := Lib.hid hv
  have HS2 : Hid (w.heap.size ≤ w1.heap.size ∧ br < w1.heap.size) := Lib.hid ⟨HM1.out.gr.size, HB1.out.lt⟩
  clear hL hr hg hq hv HM1 HE1 HB1 HC1
  have f0 := HB2.out.frozen 0
  have c0 := HB2.out.cell 0
  have f1 := HB2.out.frozen 1
  have c1 := HB2.out.cell 1
  go_wp2_with fail
  have hst := only_setCell (g := br) (p := ⟨br, 1, none⟩) (only_setCell (g := br) (p := ⟨br, 0, none⟩) (only_refl w2 _) rfl (.int .i64 x1)) rfl (.slice A2 x2.length q2)
  have HMF := Lib.hid (HM2.out.own HB2.out (by decide) HBR.out hst)
  have hbf : Blk ((w2.setCell ⟨br, 0, none⟩ (.int .i64 x1)).setCell ⟨br, 1, none⟩ (.slice A2 x2.length q2)) br 74 #[.int .i64 x1, .slice A2 x2.length q2] := ((HB2.out.set_ 0 (.int .i64 x1)).set_ 1 (.slice A2 x2.length q2))
  have HVF := Lib.hid (list_stored arg_ok HV2.out HS2.out.2 HS2.out.1 hst)
  clear hst f0 c0 f1 c1
  generalize ((w2.setCell ⟨br, 0, none⟩ (.int .i64 x1)).setCell ⟨br, 1, none⟩ (.slice A2 x2.length q2)) = Wf at *
  have HBF := Lib.hid hbf
  clear hbf
  refine bodyPost_ret (results_cell_row rfl _ _ br 74 #[.int .i64 x1, .slice A2 x2.length q2] _ _ rfl HBF.out Tryz.underlying74 rfl (by kernel_rfl)) rfl ?_
  rw [← HE2.out]
  exact RdsR.ret ⟨_, rfl, _, rfl, HVF.out⟩ HMF.out.rd HMF.out.gr
end Go.Proofs.YtohhojbeclbedaaGreatDoor

namespace Go.Proofs.YtohhojbeclbedaaGreatDoor
open Go.RowKit

/-- A row of one edge. -/
theorem one_edge_row (W : World) (to sh : Int) : ListA EdgE 2 (fun k => W.heap.size ≤ k) (W.alloc (.cells #[.int .i64 to, .int .i64 sh] 62)) (.slice (some ⟨W.heap.size, 0, none⟩) 1 1) [⟨to, sh⟩] := by
  refine ⟨_, 1, rfl, by simp, by omega, fun _ => ⟨W.heap.size, 0, rfl, Nat.le_refl _, fun i x hx => ?_⟩⟩
  have hb := Blk.new W 62 #[.int .i64 to, .int .i64 sh]
  have hi : i = 0 := by have := (List.getElem?_eq_some_iff.1 hx).1; simpa using this
  subst hi
  simp only [List.getElem?_cons_zero, Option.some.injEq] at hx
  subst hx
  refine ⟨_, rfl, fun j u hu => ?_⟩
  have := hb.cell j
  simp only [Nat.zero_mul, Nat.zero_add]
  rw [this]
  exact hu
set_option maxRecDepth 100000 in
set_option maxHeartbeats 4000000 in
theorem rnode_any {g a bg : Nat} {bs : List UInt8} {w : World} (h : Rdr w g bs a bg)  :
    Calls Tryz.prog 111 #[.pointer (some ⟨g, 0, none⟩)] w (RdsR (encV NodE) g bs bg (nodR bs a) w) := by
  obtain ⟨res, hres⟩ : ∃ res, nodR bs a = res := ⟨_, rfl⟩
  rw [hres]
  unfold nodR at hres
  have HE0 := Lib.hid hres
  clear hres
  have hg0 : w.grownBy ((w.alloc (.cells #[.pointer (some ⟨g, 0, none⟩)] 54)).alloc (.cells #[.int .i64 0, .int .i64 0, .bool false, .int .i64 0, .int .i64 0, .slice none 0 0] 65)) none := only_alloc (only_alloc (only_refl _ _) _) _
  have HM0 := Lib.hid (MRS.start h hg0)
  have HC0 : Hid (Blk ((w.alloc (.cells #[.pointer (some ⟨g, 0, none⟩)] 54)).alloc (.cells #[.int .i64 0, .int .i64 0, .bool false, .int .i64 0, .int .i64 0, .slice none 0 0] 65)) w.heap.size 54 #[.pointer (some ⟨g, 0, none⟩)]) := Lib.hid ((Blk.new _ _ _).alloc _)
  have HB0 : Hid (Blk ((w.alloc (.cells #[.pointer (some ⟨g, 0, none⟩)] 54)).alloc (.cells #[.int .i64 0, .int .i64 0, .bool false, .int .i64 0, .int .i64 0, .slice none 0 0] 65)) (w.heap.size + 1) 65 #[.int .i64 0, .int .i64 0, .bool false, .int .i64 0, .int .i64 0, .slice none 0 0]) := Lib.hid (blk_new_at (by simp) _ _)
  have HGL : Hid (g < w.heap.size) := Lib.hid h.lt
  clear h hg0
  go_enter Tryz.func111, Tryz.ntmps111
  go_upto_region 1 with fail
  generalize ((w.alloc (.cells #[.pointer (some ⟨g, 0, none⟩)] 54)).alloc (.cells #[.int .i64 0, .int .i64 0, .bool false, .int .i64 0, .int .i64 0, .slice none 0 0] 65)) = w0 at *
  generalize hbr : w.heap.size + 1 = br at *
  generalize hbx : w.heap.size = bx at *
  have HBR : Hid (w.heap.size ≤ br) := Lib.hid (by omega)
  have HBX : Hid (w.heap.size ≤ bx) := Lib.hid (by omega)
  have HXG : Hid (bx ≠ g) := Lib.hid (by have := HGL.out; omega)
  clear hbr hbx
  have cb := HC0.out.cell 0
  go_wp2_with fail
  clear cb
  refine (rnum_any HM0.out.rd 5 ⟨by omega, by omega⟩).mono ?_
  rintro e w1 hL
  rcases hL.cases with ⟨x1, b1, v1, hq, rfl, hv, hr, hg⟩ | ⟨c, y, b, fb, hq, rfl, hf, h1, hg⟩
  rotate_left
  · have hz : res = .flt c y b := by rw [← HE0.out, hq]; rfl
    have hR := HM0.out.out (V := encV NodE) (b := b) hf h1 hg
    rw [← hz] at hR
    have HR := Lib.hid hR
    clear hL hf h1 hg hq hz hR
    go_wp2_with fail
    exact ⟨rfl, HR.out⟩
  obtain rfl := hv
  obtain ⟨z0, z1, _⟩ := smR_is hq
  have HE1 := Lib.hid (show (if x1 = 5 then (edgR bs b1).bind fun e c => .ok ⟨x1, 0, false, ⟨0, 0⟩, [e]⟩ c
      else if x1 = 1 ∨ x1 = 2 then (smR bs b1 1000).bind fun p c => (markR bs c).bind fun m d => (if m = true then edgR bs d else .ok ⟨0, 0⟩ d).bind fun y e => (edgR bs e).bind fun x f => .ok ⟨x1, p, m, y, [x]⟩ f
      else if x1 = 3 ∨ x1 = 4 then (smR bs b1 1000).bind fun p c => (lstR edgR 1 8 bs c).bind fun l d => .ok ⟨x1, p, false, ⟨0, 0⟩, l.map Prod.fst⟩ d
      else .ok ⟨x1, 0, false, ⟨0, 0⟩, []⟩ b1 : Rs Nod) = res from by rw [← HE0.out, hq]; rfl)
  have HM1 := Lib.hid (HM0.out.next hg hr)
  have HB1 := Lib.hid (HM0.out.blk HB0.out HBR.out hg)
  have HC1 := Lib.hid (HM0.out.blk HC0.out HBX.out hg)
  clear hL hr hg hq HM0 HB0 HC0 HE0
  go_upto_region 2 with fail
  have hga : w1.grownBy (w1.alloc (.cells #[.int .i64 x1, .int .i64 0, .bool false, .int .i64 0, .int .i64 0, .slice none 0 0] 65)) none := only_alloc (only_refl _ _) _
  have HM2 := Lib.hid (HM1.out.none_ hga)
  have HNB : Hid (br < w1.heap.size ∧ bx < w1.heap.size) := Lib.hid ⟨HB1.out.lt, HC1.out.lt⟩
  have HBN : Hid (w.heap.size ≤ w1.heap.size) := Lib.hid HM1.out.gr.size
  have HB2 := Lib.hid (HB1.out.kept hga)
  have HC2 := Lib.hid (HC1.out.kept hga)
  have HN2 := Lib.hid (Blk.new w1 65 #[.int .i64 x1, .int .i64 0, .bool false, .int .i64 0, .int .i64 0, .slice none 0 0])
  have HE2 := Lib.hid HE1.out
  generalize (w1.alloc (.cells #[.int .i64 x1, .int .i64 0, .bool false, .int .i64 0, .int .i64 0, .slice none 0 0] 65)) = w2 at *
  generalize w1.heap.size = bn at *
  clear hga HM1 HB1 HC1 HE1
  have n0 := HN2.out.cell 0
  have h6 : x1 = 5 ∨ x1 = 1 ∨ x1 = 2 ∨ x1 = 3 ∨ x1 = 4 ∨ x1 = 0 := by omega
  clear z0 z1
  rcases h6 with rfl | rfl | rfl | rfl | rfl | rfl
  · skip
    have HE3 := Lib.hid (show ((edgR bs b1).bind fun e c => .ok ⟨5, 0, false, ⟨0, 0⟩, [e]⟩ c : Rs Nod) = res from HE2.out)
    have HM3 := Lib.hid HM2.out
    have HB3 := Lib.hid HB2.out
    have HC3 := Lib.hid HC2.out
    have HN3 := Lib.hid HN2.out
    have hw2 : w2 = w2 := rfl
    clear hw2 HE2 HM2 HB2 HC2 HN2
    have cb := HC3.out.cell 0
    go_wp2_with fail
    clear cb
    refine (redge_any HM3.out.rd).mono ?_
    rintro e w4 hL
    rcases hL.cases with ⟨x4, b4, v4, hq, rfl, hv, hr, hg⟩ | ⟨c, y, b, fb, hq, rfl, hf, h1, hg⟩
    rotate_left
    · have hz : res = .flt c y b := by rw [← HE3.out, hq]; rfl
      have hR := HM3.out.out (V := encV NodE) (b := b) hf h1 hg
      rw [← hz] at hR
      have HR := Lib.hid hR
      clear hL hf h1 hg hq hz hR
      go_wp2_with fail
      exact ⟨rfl, HR.out⟩
    obtain ⟨cs, rfl, hE⟩ := hv
    obtain rfl := hE
    have hv := trivial
    have HE4 := Lib.hid (show (.ok ⟨5, 0, false, ⟨0, 0⟩, [x4]⟩ b4 : Rs Nod) = res from by rw [← HE3.out, hq]; rfl)
    have HM4 := Lib.hid (HM3.out.next hg hr)
    have HB4 := Lib.hid (HM3.out.blk HB3.out HBR.out hg)
    have HC4 := Lib.hid (HM3.out.blk HC3.out HBX.out hg)
    have HN4 := Lib.hid (HM3.out.blk HN3.out HBN.out hg)
    clear hL hr hg hq hv HM3 HB3 HC3 HN3 HE3
    have f5 := HN4.out.frozen 5
    have c5 := HN4.out.cell 5
    have hga : w4.grownBy (w4.alloc (.cells #[.int .i64 x4.to, .int .i64 x4.sh] 62)) none := only_alloc (only_refl _ _) _
    have HMa := Lib.hid (HM4.out.none_ hga)
    have HBa := Lib.hid (HB4.out.kept hga)
    have HCa := Lib.hid (HC4.out.kept hga)
    have HNa := Lib.hid (HN4.out.kept hga)
    have HVa := Lib.hid (one_edge_row w4 x4.to x4.sh)
    have HSe : Hid (w.heap.size ≤ w4.heap.size ∧ br < w4.heap.size ∧ bn < w4.heap.size) := Lib.hid ⟨HM4.out.gr.size, HB4.out.lt, HN4.out.lt⟩
    replace f5 := HNa.out.frozen 5
    replace c5 := HNa.out.cell 5
    clear hga
    go_upto_region 16 with fail
    have hst := only_setCell (g := bn) (p := ⟨bn, 5, none⟩) (only_refl (w4.alloc (.cells #[.int .i64 x4.to, .int .i64 x4.sh] 62)) _) rfl (.slice (some ⟨w4.heap.size, 0, none⟩) 1 1)
    have HM5 := Lib.hid (HMa.out.own HNa.out (by decide) HBN.out hst)
    have hnn : Blk ((w4.alloc (.cells #[.int .i64 x4.to, .int .i64 x4.sh] 62)).setCell ⟨bn, 5, none⟩ (.slice (some ⟨w4.heap.size, 0, none⟩) 1 1)) bn 65 #[.int .i64 5, .int .i64 0, .bool false, .int .i64 0, .int .i64 0, .slice (some ⟨w4.heap.size, 0, none⟩) 1 1] := (HNa.out.set_ 5 (.slice (some ⟨w4.heap.size, 0, none⟩) 1 1))
    have HB5 := Lib.hid (HBa.out.grown hst (fun e => by injection e with e; have := HNB.out.1; omega))
    have HC5 := Lib.hid (HCa.out.grown hst (fun e => by injection e with e; have := HNB.out.2; omega))
    have HE5 := Lib.hid HE4.out
    have HVb := Lib.hid (list_stored edg_ok HVa.out HSe.out.2.2 (Nat.le_refl _) hst)
    generalize ((w4.alloc (.cells #[.int .i64 x4.to, .int .i64 x4.sh] 62)).setCell ⟨bn, 5, none⟩ (.slice (some ⟨w4.heap.size, 0, none⟩) 1 1)) = w5 at *
    have HN5 := Lib.hid hnn
    clear hst hnn f5 c5 HE4 HM4 HB4 HC4 HN4 HMa HBa HCa HNa HVa
    have n0 := HN5.out.cell 0
    have n1 := HN5.out.cell 1
    have n2 := HN5.out.cell 2
    have n3 := HN5.out.cell 3
    have n4 := HN5.out.cell 4
    have n5 := HN5.out.cell 5
    have f0 := HB5.out.frozen 0
    have c0 := HB5.out.cell 0
    have f1 := HB5.out.frozen 1
    have c1 := HB5.out.cell 1
    have f2 := HB5.out.frozen 2
    have c2 := HB5.out.cell 2
    have f3 := HB5.out.frozen 3
    have c3 := HB5.out.cell 3
    have f4 := HB5.out.frozen 4
    have c4 := HB5.out.cell 4
    have f5 := HB5.out.frozen 5
    have c5 := HB5.out.cell 5
    go_wp2_with fail
    have hst := only_setCell (g := br) (p := ⟨br, 5, none⟩) (only_setCell (g := br) (p := ⟨br, 4, none⟩) (only_setCell (g := br) (p := ⟨br, 3, none⟩) (only_setCell (g := br) (p := ⟨br, 2, none⟩) (only_setCell (g := br) (p := ⟨br, 1, none⟩) (only_setCell (g := br) (p := ⟨br, 0, none⟩) (only_refl w5 _) rfl (.int .i64 5)) rfl (.int .i64 0)) rfl (.bool false)) rfl (.int .i64 0)) rfl (.int .i64 0)) rfl (.slice (some ⟨w4.heap.size, 0, none⟩) 1 1)
    have HMF := Lib.hid (HM5.out.own HB5.out (by decide) HBR.out hst)
    have hbf : Blk ((((((w5.setCell ⟨br, 0, none⟩ (.int .i64 5)).setCell ⟨br, 1, none⟩ (.int .i64 0)).setCell ⟨br, 2, none⟩ (.bool false)).setCell ⟨br, 3, none⟩ (.int .i64 0)).setCell ⟨br, 4, none⟩ (.int .i64 0)).setCell ⟨br, 5, none⟩ (.slice (some ⟨w4.heap.size, 0, none⟩) 1 1)) br 65 #[.int .i64 5, .int .i64 0, .bool false, .int .i64 0, .int .i64 0, .slice (some ⟨w4.heap.size, 0, none⟩) 1 1] := ((((((HB5.out.set_ 0 (.int .i64 5)).set_ 1 (.int .i64 0)).set_ 2 (.bool false)).set_ 3 (.int .i64 0)).set_ 4 (.int .i64 0)).set_ 5 (.slice (some ⟨w4.heap.size, 0, none⟩) 1 1))
    have HVF := Lib.hid (list_stored edg_ok HVb.out HSe.out.2.1 HSe.out.1 hst)
    clear hst n0 f0 c0 n1 f1 c1 n2 f2 c2 n3 f3 c3 n4 f4 c4 n5 f5 c5
    generalize ((((((w5.setCell ⟨br, 0, none⟩ (.int .i64 5)).setCell ⟨br, 1, none⟩ (.int .i64 0)).setCell ⟨br, 2, none⟩ (.bool false)).setCell ⟨br, 3, none⟩ (.int .i64 0)).setCell ⟨br, 4, none⟩ (.int .i64 0)).setCell ⟨br, 5, none⟩ (.slice (some ⟨w4.heap.size, 0, none⟩) 1 1)) = Wf at *
    have HBF := Lib.hid hbf
    clear hbf
    refine bodyPost_ret (results_cell_row rfl _ _ br 65 #[.int .i64 5, .int .i64 0, .bool false, .int .i64 0, .int .i64 0, .slice (some ⟨w4.heap.size, 0, none⟩) 1 1] _ _ rfl HBF.out Tryz.underlying65 rfl (by kernel_rfl)) rfl ?_
    rw [← HE5.out]
    exact RdsR.ret ⟨_, rfl, _, rfl, HVF.out⟩ HMF.out.rd HMF.out.gr
  · skip
    have HE3 := Lib.hid (show ((smR bs b1 1000).bind fun p c => (markR bs c).bind fun m d => (if m = true then edgR bs d else .ok ⟨0, 0⟩ d).bind fun y e => (edgR bs e).bind fun x f => .ok ⟨1, p, m, y, [x]⟩ f : Rs Nod) = res from HE2.out)
    have HM3 := Lib.hid HM2.out
    have HB3 := Lib.hid HB2.out
    have HC3 := Lib.hid HC2.out
    have HN3 := Lib.hid HN2.out
    have hw2 : w2 = w2 := rfl
    clear hw2 HE2 HM2 HB2 HC2 HN2
    have cb := HC3.out.cell 0
    go_wp2_with fail
    clear cb
    refine (rnum_any HM3.out.rd 1000 ⟨by omega, by omega⟩).mono ?_
    rintro e w4 hL
    rcases hL.cases with ⟨x4, b4, v4, hq, rfl, hv, hr, hg⟩ | ⟨c, y, b, fb, hq, rfl, hf, h1, hg⟩
    rotate_left
    · have hz : res = .flt c y b := by rw [← HE3.out, hq]; rfl
      have hR := HM3.out.out (V := encV NodE) (b := b) hf h1 hg
      rw [← hz] at hR
      have HR := Lib.hid hR
      clear hL hf h1 hg hq hz hR
      go_wp2_with fail
      exact ⟨rfl, HR.out⟩
    obtain rfl := hv
    have hv := trivial
    have HE4 := Lib.hid (show ((markR bs b4).bind fun m d => (if m = true then edgR bs d else .ok ⟨0, 0⟩ d).bind fun y e => (edgR bs e).bind fun x f => .ok ⟨1, x4, m, y, [x]⟩ f : Rs Nod) = res from by rw [← HE3.out, hq]; rfl)
    have HM4 := Lib.hid (HM3.out.next hg hr)
    have HB4 := Lib.hid (HM3.out.blk HB3.out HBR.out hg)
    have HC4 := Lib.hid (HM3.out.blk HC3.out HBX.out hg)
    have HN4 := Lib.hid (HM3.out.blk HN3.out HBN.out hg)
    clear hL hr hg hq hv HM3 HB3 HC3 HN3 HE3
    have f1 := HN4.out.frozen 1
    have c1 := HN4.out.cell 1
    go_upto_region 8 with fail
    have hst := only_setCell (g := bn) (p := ⟨bn, 1, none⟩) (only_refl w4 _) rfl (.int .i64 x4)
    have HM5 := Lib.hid (HM4.out.own HN4.out (by decide) HBN.out hst)
    have hnn : Blk (w4.setCell ⟨bn, 1, none⟩ (.int .i64 x4)) bn 65 #[.int .i64 1, .int .i64 x4, .bool false, .int .i64 0, .int .i64 0, .slice none 0 0] := (HN4.out.set_ 1 (.int .i64 x4))
    have HB5 := Lib.hid (HB4.out.grown hst (fun e => by injection e with e; have := HNB.out.1; omega))
    have HC5 := Lib.hid (HC4.out.grown hst (fun e => by injection e with e; have := HNB.out.2; omega))
    have HE5 := Lib.hid HE4.out
    generalize (w4.setCell ⟨bn, 1, none⟩ (.int .i64 x4)) = w5 at *
    have HN5 := Lib.hid hnn
    clear hst hnn f1 c1 HE4 HM4 HB4 HC4 HN4 
    have cb := HC5.out.cell 0
    go_wp2_with fail
    clear cb
    refine (rmark_any HM5.out.rd).mono ?_
    rintro e w6 hL
    rcases hL.cases with ⟨x6, b6, v6, hq, rfl, hv, hr, hg⟩ | ⟨c, y, b, fb, hq, rfl, hf, h1, hg⟩
    rotate_left
    · have hz : res = .flt c y b := by rw [← HE5.out, hq]; rfl
      have hR := HM5.out.out (V := encV NodE) (b := b) hf h1 hg
      rw [← hz] at hR
      have HR := Lib.hid hR
      clear hL hf h1 hg hq hz hR
      go_wp2_with fail
      exact ⟨rfl, HR.out⟩
    obtain rfl := hv
    have hv := trivial
    have HE6 := Lib.hid (show ((if x6 = true then edgR bs b6 else .ok ⟨0, 0⟩ b6).bind fun y e => (edgR bs e).bind fun x f => .ok ⟨1, x4, x6, y, [x]⟩ f : Rs Nod) = res from by rw [← HE5.out, hq]; rfl)
    have HM6 := Lib.hid (HM5.out.next hg hr)
    have HB6 := Lib.hid (HM5.out.blk HB5.out HBR.out hg)
    have HC6 := Lib.hid (HM5.out.blk HC5.out HBX.out hg)
    have HN6 := Lib.hid (HM5.out.blk HN5.out HBN.out hg)
    clear hL hr hg hq hv HM5 HB5 HC5 HN5 HE5
    have f2 := HN6.out.frozen 2
    have c2 := HN6.out.cell 2
    go_upto_region 9 with fail
    have hst := only_setCell (g := bn) (p := ⟨bn, 2, none⟩) (only_refl w6 _) rfl (.bool x6)
    have HM7 := Lib.hid (HM6.out.own HN6.out (by decide) HBN.out hst)
    have hnn : Blk (w6.setCell ⟨bn, 2, none⟩ (.bool x6)) bn 65 #[.int .i64 1, .int .i64 x4, .bool x6, .int .i64 0, .int .i64 0, .slice none 0 0] := (HN6.out.set_ 2 (.bool x6))
    have HB7 := Lib.hid (HB6.out.grown hst (fun e => by injection e with e; have := HNB.out.1; omega))
    have HC7 := Lib.hid (HC6.out.grown hst (fun e => by injection e with e; have := HNB.out.2; omega))
    have HE7 := Lib.hid HE6.out
    generalize (w6.setCell ⟨bn, 2, none⟩ (.bool x6)) = w7 at *
    have HN7 := Lib.hid hnn
    clear hst hnn f2 c2 HE6 HM6 HB6 HC6 HN6 
    have n2 := HN7.out.cell 2
    cases x6 with
    | true =>
      have HE8 := Lib.hid (show ((edgR bs b6).bind fun y e => (edgR bs e).bind fun x f => .ok ⟨1, x4, true, y, [x]⟩ f : Rs Nod) = res from HE7.out)
      go_upto_region 10 with fail
      clear n2
      have HM8 := Lib.hid HM7.out
      have HB8 := Lib.hid HB7.out
      have HC8 := Lib.hid HC7.out
      have HN8 := Lib.hid HN7.out
      clear HE7 HM7 HB7 HC7 HN7
      have cb := HC8.out.cell 0
      go_wp2_with fail
      clear cb
      refine (redge_any HM8.out.rd).mono ?_
      rintro e w9 hL
      rcases hL.cases with ⟨x9, b9, v9, hq, rfl, hv, hr, hg⟩ | ⟨c, y, b, fb, hq, rfl, hf, h1, hg⟩
      rotate_left
      · have hz : res = .flt c y b := by rw [← HE8.out, hq]; rfl
        have hR := HM8.out.out (V := encV NodE) (b := b) hf h1 hg
        rw [← hz] at hR
        have HR := Lib.hid hR
        clear hL hf h1 hg hq hz hR
        go_wp2_with fail
        exact ⟨rfl, HR.out⟩
      obtain ⟨cs, rfl, hE⟩ := hv
      obtain rfl := hE
      have hv := trivial
      have HE9 := Lib.hid (show ((edgR bs b9).bind fun x f => .ok ⟨1, x4, true, x9, [x]⟩ f : Rs Nod) = res from by rw [← HE8.out, hq]; rfl)
      have HM9 := Lib.hid (HM8.out.next hg hr)
      have HB9 := Lib.hid (HM8.out.blk HB8.out HBR.out hg)
      have HC9 := Lib.hid (HM8.out.blk HC8.out HBX.out hg)
      have HN9 := Lib.hid (HM8.out.blk HN8.out HBN.out hg)
      clear hL hr hg hq hv HM8 HB8 HC8 HN8 HE8
      have f3 := HN9.out.frozen 3
      have c3 := HN9.out.cell 3
      have f4 := HN9.out.frozen 4
      have c4 := HN9.out.cell 4
      go_upto_region 11 with fail
      have hst := only_setCell (g := bn) (p := ⟨bn, 4, none⟩) (only_setCell (g := bn) (p := ⟨bn, 3, none⟩) (only_refl w9 _) rfl (.int .i64 x9.to)) rfl (.int .i64 x9.sh)
      have HM10 := Lib.hid (HM9.out.own HN9.out (by decide) HBN.out hst)
      have hnn : Blk ((w9.setCell ⟨bn, 3, none⟩ (.int .i64 x9.to)).setCell ⟨bn, 4, none⟩ (.int .i64 x9.sh)) bn 65 #[.int .i64 1, .int .i64 x4, .bool true, .int .i64 x9.to, .int .i64 x9.sh, .slice none 0 0] := ((HN9.out.set_ 3 (.int .i64 x9.to)).set_ 4 (.int .i64 x9.sh))
      have HB10 := Lib.hid (HB9.out.grown hst (fun e => by injection e with e; have := HNB.out.1; omega))
      have HC10 := Lib.hid (HC9.out.grown hst (fun e => by injection e with e; have := HNB.out.2; omega))
      have HE10 := Lib.hid HE9.out
      generalize ((w9.setCell ⟨bn, 3, none⟩ (.int .i64 x9.to)).setCell ⟨bn, 4, none⟩ (.int .i64 x9.sh)) = w10 at *
      have HN10 := Lib.hid hnn
      clear hst hnn f3 c3 f4 c4 HE9 HM9 HB9 HC9 HN9 
      have cb := HC10.out.cell 0
      go_wp2_with fail
      clear cb
      refine (redge_any HM10.out.rd).mono ?_
      rintro e w11 hL
      rcases hL.cases with ⟨x11, b11, v11, hq, rfl, hv, hr, hg⟩ | ⟨c, y, b, fb, hq, rfl, hf, h1, hg⟩
      rotate_left
      · have hz : res = .flt c y b := by rw [← HE10.out, hq]; rfl
        have hR := HM10.out.out (V := encV NodE) (b := b) hf h1 hg
        rw [← hz] at hR
        have HR := Lib.hid hR
        clear hL hf h1 hg hq hz hR
        go_wp2_with fail
        exact ⟨rfl, HR.out⟩
      obtain ⟨cs, rfl, hE⟩ := hv
      obtain rfl := hE
      have hv := trivial
      have HE11 := Lib.hid (show (.ok ⟨1, x4, true, x9, [x11]⟩ b11 : Rs Nod) = res from by rw [← HE10.out, hq]; rfl)
      have HM11 := Lib.hid (HM10.out.next hg hr)
      have HB11 := Lib.hid (HM10.out.blk HB10.out HBR.out hg)
      have HC11 := Lib.hid (HM10.out.blk HC10.out HBX.out hg)
      have HN11 := Lib.hid (HM10.out.blk HN10.out HBN.out hg)
      clear hL hr hg hq hv HM10 HB10 HC10 HN10 HE10
      have f5 := HN11.out.frozen 5
      have c5 := HN11.out.cell 5
      have hga : w11.grownBy (w11.alloc (.cells #[.int .i64 x11.to, .int .i64 x11.sh] 62)) none := only_alloc (only_refl _ _) _
      have HMa := Lib.hid (HM11.out.none_ hga)
      have HBa := Lib.hid (HB11.out.kept hga)
      have HCa := Lib.hid (HC11.out.kept hga)
      have HNa := Lib.hid (HN11.out.kept hga)
      have HVa := Lib.hid (one_edge_row w11 x11.to x11.sh)
      have HSe : Hid (w.heap.size ≤ w11.heap.size ∧ br < w11.heap.size ∧ bn < w11.heap.size) := Lib.hid ⟨HM11.out.gr.size, HB11.out.lt, HN11.out.lt⟩
      replace f5 := HNa.out.frozen 5
      replace c5 := HNa.out.cell 5
      clear hga
      go_upto_region 16 with fail
      have hst := only_setCell (g := bn) (p := ⟨bn, 5, none⟩) (only_refl (w11.alloc (.cells #[.int .i64 x11.to, .int .i64 x11.sh] 62)) _) rfl (.slice (some ⟨w11.heap.size, 0, none⟩) 1 1)
      have HM12 := Lib.hid (HMa.out.own HNa.out (by decide) HBN.out hst)
      have hnn : Blk ((w11.alloc (.cells #[.int .i64 x11.to, .int .i64 x11.sh] 62)).setCell ⟨bn, 5, none⟩ (.slice (some ⟨w11.heap.size, 0, none⟩) 1 1)) bn 65 #[.int .i64 1, .int .i64 x4, .bool true, .int .i64 x9.to, .int .i64 x9.sh, .slice (some ⟨w11.heap.size, 0, none⟩) 1 1] := (HNa.out.set_ 5 (.slice (some ⟨w11.heap.size, 0, none⟩) 1 1))
      have HB12 := Lib.hid (HBa.out.grown hst (fun e => by injection e with e; have := HNB.out.1; omega))
      have HC12 := Lib.hid (HCa.out.grown hst (fun e => by injection e with e; have := HNB.out.2; omega))
      have HE12 := Lib.hid HE11.out
      have HVb := Lib.hid (list_stored edg_ok HVa.out HSe.out.2.2 (Nat.le_refl _) hst)
      generalize ((w11.alloc (.cells #[.int .i64 x11.to, .int .i64 x11.sh] 62)).setCell ⟨bn, 5, none⟩ (.slice (some ⟨w11.heap.size, 0, none⟩) 1 1)) = w12 at *
      have HN12 := Lib.hid hnn
      clear hst hnn f5 c5 HE11 HM11 HB11 HC11 HN11 HMa HBa HCa HNa HVa
      have n0 := HN12.out.cell 0
      have n1 := HN12.out.cell 1
      have n2 := HN12.out.cell 2
      have n3 := HN12.out.cell 3
      have n4 := HN12.out.cell 4
      have n5 := HN12.out.cell 5
      have f0 := HB12.out.frozen 0
      have c0 := HB12.out.cell 0
      have f1 := HB12.out.frozen 1
      have c1 := HB12.out.cell 1
      have f2 := HB12.out.frozen 2
      have c2 := HB12.out.cell 2
      have f3 := HB12.out.frozen 3
      have c3 := HB12.out.cell 3
      have f4 := HB12.out.frozen 4
      have c4 := HB12.out.cell 4
      have f5 := HB12.out.frozen 5
      have c5 := HB12.out.cell 5
      go_wp2_with fail
      have hst := only_setCell (g := br) (p := ⟨br, 5, none⟩) (only_setCell (g := br) (p := ⟨br, 4, none⟩) (only_setCell (g := br) (p := ⟨br, 3, none⟩) (only_setCell (g := br) (p := ⟨br, 2, none⟩) (only_setCell (g := br) (p := ⟨br, 1, none⟩) (only_setCell (g := br) (p := ⟨br, 0, none⟩) (only_refl w12 _) rfl (.int .i64 1)) rfl (.int .i64 x4)) rfl (.bool true)) rfl (.int .i64 x9.to)) rfl (.int .i64 x9.sh)) rfl (.slice (some ⟨w11.heap.size, 0, none⟩) 1 1)
      have HMF := Lib.hid (HM12.out.own HB12.out (by decide) HBR.out hst)
      have hbf : Blk ((((((w12.setCell ⟨br, 0, none⟩ (.int .i64 1)).setCell ⟨br, 1, none⟩ (.int .i64 x4)).setCell ⟨br, 2, none⟩ (.bool true)).setCell ⟨br, 3, none⟩ (.int .i64 x9.to)).setCell ⟨br, 4, none⟩ (.int .i64 x9.sh)).setCell ⟨br, 5, none⟩ (.slice (some ⟨w11.heap.size, 0, none⟩) 1 1)) br 65 #[.int .i64 1, .int .i64 x4, .bool true, .int .i64 x9.to, .int .i64 x9.sh, .slice (some ⟨w11.heap.size, 0, none⟩) 1 1] := ((((((HB12.out.set_ 0 (.int .i64 1)).set_ 1 (.int .i64 x4)).set_ 2 (.bool true)).set_ 3 (.int .i64 x9.to)).set_ 4 (.int .i64 x9.sh)).set_ 5 (.slice (some ⟨w11.heap.size, 0, none⟩) 1 1))
      have HVF := Lib.hid (list_stored edg_ok HVb.out HSe.out.2.1 HSe.out.1 hst)
      clear hst n0 f0 c0 n1 f1 c1 n2 f2 c2 n3 f3 c3 n4 f4 c4 n5 f5 c5
      generalize ((((((w12.setCell ⟨br, 0, none⟩ (.int .i64 1)).setCell ⟨br, 1, none⟩ (.int .i64 x4)).setCell ⟨br, 2, none⟩ (.bool true)).setCell ⟨br, 3, none⟩ (.int .i64 x9.to)).setCell ⟨br, 4, none⟩ (.int .i64 x9.sh)).setCell ⟨br, 5, none⟩ (.slice (some ⟨w11.heap.size, 0, none⟩) 1 1)) = Wf at *
      have HBF := Lib.hid hbf
      clear hbf
      refine bodyPost_ret (results_cell_row rfl _ _ br 65 #[.int .i64 1, .int .i64 x4, .bool true, .int .i64 x9.to, .int .i64 x9.sh, .slice (some ⟨w11.heap.size, 0, none⟩) 1 1] _ _ rfl HBF.out Tryz.underlying65 rfl (by kernel_rfl)) rfl ?_
      rw [← HE12.out]
      exact RdsR.ret ⟨_, rfl, _, rfl, HVF.out⟩ HMF.out.rd HMF.out.gr
    | false =>
      have HE8 := Lib.hid (show ((edgR bs b6).bind fun x f => .ok ⟨1, x4, false, ⟨0, 0⟩, [x]⟩ f : Rs Nod) = res from HE7.out)
      go_upto_region 11 with fail
      clear n2
      have HM8 := Lib.hid HM7.out
      have HB8 := Lib.hid HB7.out
      have HC8 := Lib.hid HC7.out
      have HN8 := Lib.hid HN7.out
      clear HE7 HM7 HB7 HC7 HN7
      have cb := HC8.out.cell 0
      go_wp2_with fail
      clear cb
      refine (redge_any HM8.out.rd).mono ?_
      rintro e w9 hL
      rcases hL.cases with ⟨x9, b9, v9, hq, rfl, hv, hr, hg⟩ | ⟨c, y, b, fb, hq, rfl, hf, h1, hg⟩
      rotate_left
      · have hz : res = .flt c y b := by rw [← HE8.out, hq]; rfl
        have hR := HM8.out.out (V := encV NodE) (b := b) hf h1 hg
        rw [← hz] at hR
        have HR := Lib.hid hR
        clear hL hf h1 hg hq hz hR
        go_wp2_with fail
        exact ⟨rfl, HR.out⟩
      obtain ⟨cs, rfl, hE⟩ := hv
      obtain rfl := hE
      have hv := trivial
      have HE9 := Lib.hid (show (.ok ⟨1, x4, false, ⟨0, 0⟩, [x9]⟩ b9 : Rs Nod) = res from by rw [← HE8.out, hq]; rfl)
      have HM9 := Lib.hid (HM8.out.next hg hr)
      have HB9 := Lib.hid (HM8.out.blk HB8.out HBR.out hg)
      have HC9 := Lib.hid (HM8.out.blk HC8.out HBX.out hg)
      have HN9 := Lib.hid (HM8.out.blk HN8.out HBN.out hg)
      clear hL hr hg hq hv HM8 HB8 HC8 HN8 HE8
      have f5 := HN9.out.frozen 5
      have c5 := HN9.out.cell 5
      have hga : w9.grownBy (w9.alloc (.cells #[.int .i64 x9.to, .int .i64 x9.sh] 62)) none := only_alloc (only_refl _ _) _
      have HMa := Lib.hid (HM9.out.none_ hga)
      have HBa := Lib.hid (HB9.out.kept hga)
      have HCa := Lib.hid (HC9.out.kept hga)
      have HNa := Lib.hid (HN9.out.kept hga)
      have HVa := Lib.hid (one_edge_row w9 x9.to x9.sh)
      have HSe : Hid (w.heap.size ≤ w9.heap.size ∧ br < w9.heap.size ∧ bn < w9.heap.size) := Lib.hid ⟨HM9.out.gr.size, HB9.out.lt, HN9.out.lt⟩
      replace f5 := HNa.out.frozen 5
      replace c5 := HNa.out.cell 5
      clear hga
      go_upto_region 16 with fail
      have hst := only_setCell (g := bn) (p := ⟨bn, 5, none⟩) (only_refl (w9.alloc (.cells #[.int .i64 x9.to, .int .i64 x9.sh] 62)) _) rfl (.slice (some ⟨w9.heap.size, 0, none⟩) 1 1)
      have HM10 := Lib.hid (HMa.out.own HNa.out (by decide) HBN.out hst)
      have hnn : Blk ((w9.alloc (.cells #[.int .i64 x9.to, .int .i64 x9.sh] 62)).setCell ⟨bn, 5, none⟩ (.slice (some ⟨w9.heap.size, 0, none⟩) 1 1)) bn 65 #[.int .i64 1, .int .i64 x4, .bool false, .int .i64 0, .int .i64 0, .slice (some ⟨w9.heap.size, 0, none⟩) 1 1] := (HNa.out.set_ 5 (.slice (some ⟨w9.heap.size, 0, none⟩) 1 1))
      have HB10 := Lib.hid (HBa.out.grown hst (fun e => by injection e with e; have := HNB.out.1; omega))
      have HC10 := Lib.hid (HCa.out.grown hst (fun e => by injection e with e; have := HNB.out.2; omega))
      have HE10 := Lib.hid HE9.out
      have HVb := Lib.hid (list_stored edg_ok HVa.out HSe.out.2.2 (Nat.le_refl _) hst)
      generalize ((w9.alloc (.cells #[.int .i64 x9.to, .int .i64 x9.sh] 62)).setCell ⟨bn, 5, none⟩ (.slice (some ⟨w9.heap.size, 0, none⟩) 1 1)) = w10 at *
      have HN10 := Lib.hid hnn
      clear hst hnn f5 c5 HE9 HM9 HB9 HC9 HN9 HMa HBa HCa HNa HVa
      have n0 := HN10.out.cell 0
      have n1 := HN10.out.cell 1
      have n2 := HN10.out.cell 2
      have n3 := HN10.out.cell 3
      have n4 := HN10.out.cell 4
      have n5 := HN10.out.cell 5
      have f0 := HB10.out.frozen 0
      have c0 := HB10.out.cell 0
      have f1 := HB10.out.frozen 1
      have c1 := HB10.out.cell 1
      have f2 := HB10.out.frozen 2
      have c2 := HB10.out.cell 2
      have f3 := HB10.out.frozen 3
      have c3 := HB10.out.cell 3
      have f4 := HB10.out.frozen 4
      have c4 := HB10.out.cell 4
      have f5 := HB10.out.frozen 5
      have c5 := HB10.out.cell 5
      go_wp2_with fail
      have hst := only_setCell (g := br) (p := ⟨br, 5, none⟩) (only_setCell (g := br) (p := ⟨br, 4, none⟩) (only_setCell (g := br) (p := ⟨br, 3, none⟩) (only_setCell (g := br) (p := ⟨br, 2, none⟩) (only_setCell (g := br) (p := ⟨br, 1, none⟩) (only_setCell (g := br) (p := ⟨br, 0, none⟩) (only_refl w10 _) rfl (.int .i64 1)) rfl (.int .i64 x4)) rfl (.bool false)) rfl (.int .i64 0)) rfl (.int .i64 0)) rfl (.slice (some ⟨w9.heap.size, 0, none⟩) 1 1)
      have HMF := Lib.hid (HM10.out.own HB10.out (by decide) HBR.out hst)
      have hbf : Blk ((((((w10.setCell ⟨br, 0, none⟩ (.int .i64 1)).setCell ⟨br, 1, none⟩ (.int .i64 x4)).setCell ⟨br, 2, none⟩ (.bool false)).setCell ⟨br, 3, none⟩ (.int .i64 0)).setCell ⟨br, 4, none⟩ (.int .i64 0)).setCell ⟨br, 5, none⟩ (.slice (some ⟨w9.heap.size, 0, none⟩) 1 1)) br 65 #[.int .i64 1, .int .i64 x4, .bool false, .int .i64 0, .int .i64 0, .slice (some ⟨w9.heap.size, 0, none⟩) 1 1] := ((((((HB10.out.set_ 0 (.int .i64 1)).set_ 1 (.int .i64 x4)).set_ 2 (.bool false)).set_ 3 (.int .i64 0)).set_ 4 (.int .i64 0)).set_ 5 (.slice (some ⟨w9.heap.size, 0, none⟩) 1 1))
      have HVF := Lib.hid (list_stored edg_ok HVb.out HSe.out.2.1 HSe.out.1 hst)
      clear hst n0 f0 c0 n1 f1 c1 n2 f2 c2 n3 f3 c3 n4 f4 c4 n5 f5 c5
      generalize ((((((w10.setCell ⟨br, 0, none⟩ (.int .i64 1)).setCell ⟨br, 1, none⟩ (.int .i64 x4)).setCell ⟨br, 2, none⟩ (.bool false)).setCell ⟨br, 3, none⟩ (.int .i64 0)).setCell ⟨br, 4, none⟩ (.int .i64 0)).setCell ⟨br, 5, none⟩ (.slice (some ⟨w9.heap.size, 0, none⟩) 1 1)) = Wf at *
      have HBF := Lib.hid hbf
      clear hbf
      refine bodyPost_ret (results_cell_row rfl _ _ br 65 #[.int .i64 1, .int .i64 x4, .bool false, .int .i64 0, .int .i64 0, .slice (some ⟨w9.heap.size, 0, none⟩) 1 1] _ _ rfl HBF.out Tryz.underlying65 rfl (by kernel_rfl)) rfl ?_
      rw [← HE10.out]
      exact RdsR.ret ⟨_, rfl, _, rfl, HVF.out⟩ HMF.out.rd HMF.out.gr
  · skip
    have HE3 := Lib.hid (show ((smR bs b1 1000).bind fun p c => (markR bs c).bind fun m d => (if m = true then edgR bs d else .ok ⟨0, 0⟩ d).bind fun y e => (edgR bs e).bind fun x f => .ok ⟨2, p, m, y, [x]⟩ f : Rs Nod) = res from HE2.out)
    have HM3 := Lib.hid HM2.out
    have HB3 := Lib.hid HB2.out
    have HC3 := Lib.hid HC2.out
    have HN3 := Lib.hid HN2.out
    have hw2 : w2 = w2 := rfl
    clear hw2 HE2 HM2 HB2 HC2 HN2
    have cb := HC3.out.cell 0
    go_wp2_with fail
    clear cb
    refine (rnum_any HM3.out.rd 1000 ⟨by omega, by omega⟩).mono ?_
    rintro e w4 hL
    rcases hL.cases with ⟨x4, b4, v4, hq, rfl, hv, hr, hg⟩ | ⟨c, y, b, fb, hq, rfl, hf, h1, hg⟩
    rotate_left
    · have hz : res = .flt c y b := by rw [← HE3.out, hq]; rfl
      have hR := HM3.out.out (V := encV NodE) (b := b) hf h1 hg
      rw [← hz] at hR
      have HR := Lib.hid hR
      clear hL hf h1 hg hq hz hR
      go_wp2_with fail
      exact ⟨rfl, HR.out⟩
    obtain rfl := hv
    have hv := trivial
    have HE4 := Lib.hid (show ((markR bs b4).bind fun m d => (if m = true then edgR bs d else .ok ⟨0, 0⟩ d).bind fun y e => (edgR bs e).bind fun x f => .ok ⟨2, x4, m, y, [x]⟩ f : Rs Nod) = res from by rw [← HE3.out, hq]; rfl)
    have HM4 := Lib.hid (HM3.out.next hg hr)
    have HB4 := Lib.hid (HM3.out.blk HB3.out HBR.out hg)
    have HC4 := Lib.hid (HM3.out.blk HC3.out HBX.out hg)
    have HN4 := Lib.hid (HM3.out.blk HN3.out HBN.out hg)
    clear hL hr hg hq hv HM3 HB3 HC3 HN3 HE3
    have f1 := HN4.out.frozen 1
    have c1 := HN4.out.cell 1
    go_upto_region 8 with fail
    have hst := only_setCell (g := bn) (p := ⟨bn, 1, none⟩) (only_refl w4 _) rfl (.int .i64 x4)
    have HM5 := Lib.hid (HM4.out.own HN4.out (by decide) HBN.out hst)
    have hnn : Blk (w4.setCell ⟨bn, 1, none⟩ (.int .i64 x4)) bn 65 #[.int .i64 2, .int .i64 x4, .bool false, .int .i64 0, .int .i64 0, .slice none 0 0] := (HN4.out.set_ 1 (.int .i64 x4))
    have HB5 := Lib.hid (HB4.out.grown hst (fun e => by injection e with e; have := HNB.out.1; omega))
    have HC5 := Lib.hid (HC4.out.grown hst (fun e => by injection e with e; have := HNB.out.2; omega))
    have HE5 := Lib.hid HE4.out
    generalize (w4.setCell ⟨bn, 1, none⟩ (.int .i64 x4)) = w5 at *
    have HN5 := Lib.hid hnn
    clear hst hnn f1 c1 HE4 HM4 HB4 HC4 HN4 
    have cb := HC5.out.cell 0
    go_wp2_with fail
    clear cb
    refine (rmark_any HM5.out.rd).mono ?_
    rintro e w6 hL
    rcases hL.cases with ⟨x6, b6, v6, hq, rfl, hv, hr, hg⟩ | ⟨c, y, b, fb, hq, rfl, hf, h1, hg⟩
    rotate_left
    · have hz : res = .flt c y b := by rw [← HE5.out, hq]; rfl
      have hR := HM5.out.out (V := encV NodE) (b := b) hf h1 hg
      rw [← hz] at hR
      have HR := Lib.hid hR
      clear hL hf h1 hg hq hz hR
      go_wp2_with fail
      exact ⟨rfl, HR.out⟩
    obtain rfl := hv
    have hv := trivial
    have HE6 := Lib.hid (show ((if x6 = true then edgR bs b6 else .ok ⟨0, 0⟩ b6).bind fun y e => (edgR bs e).bind fun x f => .ok ⟨2, x4, x6, y, [x]⟩ f : Rs Nod) = res from by rw [← HE5.out, hq]; rfl)
    have HM6 := Lib.hid (HM5.out.next hg hr)
    have HB6 := Lib.hid (HM5.out.blk HB5.out HBR.out hg)
    have HC6 := Lib.hid (HM5.out.blk HC5.out HBX.out hg)
    have HN6 := Lib.hid (HM5.out.blk HN5.out HBN.out hg)
    clear hL hr hg hq hv HM5 HB5 HC5 HN5 HE5
    have f2 := HN6.out.frozen 2
    have c2 := HN6.out.cell 2
    go_upto_region 9 with fail
    have hst := only_setCell (g := bn) (p := ⟨bn, 2, none⟩) (only_refl w6 _) rfl (.bool x6)
    have HM7 := Lib.hid (HM6.out.own HN6.out (by decide) HBN.out hst)
    have hnn : Blk (w6.setCell ⟨bn, 2, none⟩ (.bool x6)) bn 65 #[.int .i64 2, .int .i64 x4, .bool x6, .int .i64 0, .int .i64 0, .slice none 0 0] := (HN6.out.set_ 2 (.bool x6))
    have HB7 := Lib.hid (HB6.out.grown hst (fun e => by injection e with e; have := HNB.out.1; omega))
    have HC7 := Lib.hid (HC6.out.grown hst (fun e => by injection e with e; have := HNB.out.2; omega))
    have HE7 := Lib.hid HE6.out
    generalize (w6.setCell ⟨bn, 2, none⟩ (.bool x6)) = w7 at *
    have HN7 := Lib.hid hnn
    clear hst hnn f2 c2 HE6 HM6 HB6 HC6 HN6 
    have n2 := HN7.out.cell 2
    cases x6 with
    | true =>
      have HE8 := Lib.hid (show ((edgR bs b6).bind fun y e => (edgR bs e).bind fun x f => .ok ⟨2, x4, true, y, [x]⟩ f : Rs Nod) = res from HE7.out)
      go_upto_region 10 with fail
      clear n2
      have HM8 := Lib.hid HM7.out
      have HB8 := Lib.hid HB7.out
      have HC8 := Lib.hid HC7.out
      have HN8 := Lib.hid HN7.out
      clear HE7 HM7 HB7 HC7 HN7
      have cb := HC8.out.cell 0
      go_wp2_with fail
      clear cb
      refine (redge_any HM8.out.rd).mono ?_
      rintro e w9 hL
      rcases hL.cases with ⟨x9, b9, v9, hq, rfl, hv, hr, hg⟩ | ⟨c, y, b, fb, hq, rfl, hf, h1, hg⟩
      rotate_left
      · have hz : res = .flt c y b := by rw [← HE8.out, hq]; rfl
        have hR := HM8.out.out (V := encV NodE) (b := b) hf h1 hg
        rw [← hz] at hR
        have HR := Lib.hid hR
        clear hL hf h1 hg hq hz hR
        go_wp2_with fail
        exact ⟨rfl, HR.out⟩
      obtain ⟨cs, rfl, hE⟩ := hv
      obtain rfl := hE
      have hv := trivial
      have HE9 := Lib.hid (show ((edgR bs b9).bind fun x f => .ok ⟨2, x4, true, x9, [x]⟩ f : Rs Nod) = res from by rw [← HE8.out, hq]; rfl)
      have HM9 := Lib.hid (HM8.out.next hg hr)
      have HB9 := Lib.hid (HM8.out.blk HB8.out HBR.out hg)
      have HC9 := Lib.hid (HM8.out.blk HC8.out HBX.out hg)
      have HN9 := Lib.hid (HM8.out.blk HN8.out HBN.out hg)
      clear hL hr hg hq hv HM8 HB8 HC8 HN8 HE8
      have f3 := HN9.out.frozen 3
      have c3 := HN9.out.cell 3
      have f4 := HN9.out.frozen 4
      have c4 := HN9.out.cell 4
      go_upto_region 11 with fail
      have hst := only_setCell (g := bn) (p := ⟨bn, 4, none⟩) (only_setCell (g := bn) (p := ⟨bn, 3, none⟩) (only_refl w9 _) rfl (.int .i64 x9.to)) rfl (.int .i64 x9.sh)
      have HM10 := Lib.hid (HM9.out.own HN9.out (by decide) HBN.out hst)
      have hnn : Blk ((w9.setCell ⟨bn, 3, none⟩ (.int .i64 x9.to)).setCell ⟨bn, 4, none⟩ (.int .i64 x9.sh)) bn 65 #[.int .i64 2, .int .i64 x4, .bool true, .int .i64 x9.to, .int .i64 x9.sh, .slice none 0 0] := ((HN9.out.set_ 3 (.int .i64 x9.to)).set_ 4 (.int .i64 x9.sh))
      have HB10 := Lib.hid (HB9.out.grown hst (fun e => by injection e with e; have := HNB.out.1; omega))
      have HC10 := Lib.hid (HC9.out.grown hst (fun e => by injection e with e; have := HNB.out.2; omega))
      have HE10 := Lib.hid HE9.out
      generalize ((w9.setCell ⟨bn, 3, none⟩ (.int .i64 x9.to)).setCell ⟨bn, 4, none⟩ (.int .i64 x9.sh)) = w10 at *
      have HN10 := Lib.hid hnn
      clear hst hnn f3 c3 f4 c4 HE9 HM9 HB9 HC9 HN9 
      have cb := HC10.out.cell 0
      go_wp2_with fail
      clear cb
      refine (redge_any HM10.out.rd).mono ?_
      rintro e w11 hL
      rcases hL.cases with ⟨x11, b11, v11, hq, rfl, hv, hr, hg⟩ | ⟨c, y, b, fb, hq, rfl, hf, h1, hg⟩
      rotate_left
      · have hz : res = .flt c y b := by rw [← HE10.out, hq]; rfl
        have hR := HM10.out.out (V := encV NodE) (b := b) hf h1 hg
        rw [← hz] at hR
        have HR := Lib.hid hR
        clear hL hf h1 hg hq hz hR
        go_wp2_with fail
        exact ⟨rfl, HR.out⟩
      obtain ⟨cs, rfl, hE⟩ := hv
      obtain rfl := hE
      have hv := trivial
      have HE11 := Lib.hid (show (.ok ⟨2, x4, true, x9, [x11]⟩ b11 : Rs Nod) = res from by rw [← HE10.out, hq]; rfl)
      have HM11 := Lib.hid (HM10.out.next hg hr)
      have HB11 := Lib.hid (HM10.out.blk HB10.out HBR.out hg)
      have HC11 := Lib.hid (HM10.out.blk HC10.out HBX.out hg)
      have HN11 := Lib.hid (HM10.out.blk HN10.out HBN.out hg)
      clear hL hr hg hq hv HM10 HB10 HC10 HN10 HE10
      have f5 := HN11.out.frozen 5
      have c5 := HN11.out.cell 5
      have hga : w11.grownBy (w11.alloc (.cells #[.int .i64 x11.to, .int .i64 x11.sh] 62)) none := only_alloc (only_refl _ _) _
      have HMa := Lib.hid (HM11.out.none_ hga)
      have HBa := Lib.hid (HB11.out.kept hga)
      have HCa := Lib.hid (HC11.out.kept hga)
      have HNa := Lib.hid (HN11.out.kept hga)
      have HVa := Lib.hid (one_edge_row w11 x11.to x11.sh)
      have HSe : Hid (w.heap.size ≤ w11.heap.size ∧ br < w11.heap.size ∧ bn < w11.heap.size) := Lib.hid ⟨HM11.out.gr.size, HB11.out.lt, HN11.out.lt⟩
      replace f5 := HNa.out.frozen 5
      replace c5 := HNa.out.cell 5
      clear hga
      go_upto_region 16 with fail
      have hst := only_setCell (g := bn) (p := ⟨bn, 5, none⟩) (only_refl (w11.alloc (.cells #[.int .i64 x11.to, .int .i64 x11.sh] 62)) _) rfl (.slice (some ⟨w11.heap.size, 0, none⟩) 1 1)
      have HM12 := Lib.hid (HMa.out.own HNa.out (by decide) HBN.out hst)
      have hnn : Blk ((w11.alloc (.cells #[.int .i64 x11.to, .int .i64 x11.sh] 62)).setCell ⟨bn, 5, none⟩ (.slice (some ⟨w11.heap.size, 0, none⟩) 1 1)) bn 65 #[.int .i64 2, .int .i64 x4, .bool true, .int .i64 x9.to, .int .i64 x9.sh, .slice (some ⟨w11.heap.size, 0, none⟩) 1 1] := (HNa.out.set_ 5 (.slice (some ⟨w11.heap.size, 0, none⟩) 1 1))
      have HB12 := Lib.hid (HBa.out.grown hst (fun e => by injection e with e; have := HNB.out.1; omega))
      have HC12 := Lib.hid (HCa.out.grown hst (fun e => by injection e with e; have := HNB.out.2; omega))
      have HE12 := Lib.hid HE11.out
      have HVb := Lib.hid (list_stored edg_ok HVa.out HSe.out.2.2 (Nat.le_refl _) hst)
      generalize ((w11.alloc (.cells #[.int .i64 x11.to, .int .i64 x11.sh] 62)).setCell ⟨bn, 5, none⟩ (.slice (some ⟨w11.heap.size, 0, none⟩) 1 1)) = w12 at *
      have HN12 := Lib.hid hnn
      clear hst hnn f5 c5 HE11 HM11 HB11 HC11 HN11 HMa HBa HCa HNa HVa
      have n0 := HN12.out.cell 0
      have n1 := HN12.out.cell 1
      have n2 := HN12.out.cell 2
      have n3 := HN12.out.cell 3
      have n4 := HN12.out.cell 4
      have n5 := HN12.out.cell 5
      have f0 := HB12.out.frozen 0
      have c0 := HB12.out.cell 0
      have f1 := HB12.out.frozen 1
      have c1 := HB12.out.cell 1
      have f2 := HB12.out.frozen 2
      have c2 := HB12.out.cell 2
      have f3 := HB12.out.frozen 3
      have c3 := HB12.out.cell 3
      have f4 := HB12.out.frozen 4
      have c4 := HB12.out.cell 4
      have f5 := HB12.out.frozen 5
      have c5 := HB12.out.cell 5
      go_wp2_with fail
      have hst := only_setCell (g := br) (p := ⟨br, 5, none⟩) (only_setCell (g := br) (p := ⟨br, 4, none⟩) (only_setCell (g := br) (p := ⟨br, 3, none⟩) (only_setCell (g := br) (p := ⟨br, 2, none⟩) (only_setCell (g := br) (p := ⟨br, 1, none⟩) (only_setCell (g := br) (p := ⟨br, 0, none⟩) (only_refl w12 _) rfl (.int .i64 2)) rfl (.int .i64 x4)) rfl (.bool true)) rfl (.int .i64 x9.to)) rfl (.int .i64 x9.sh)) rfl (.slice (some ⟨w11.heap.size, 0, none⟩) 1 1)
      have HMF := Lib.hid (HM12.out.own HB12.out (by decide) HBR.out hst)
      have hbf : Blk ((((((w12.setCell ⟨br, 0, none⟩ (.int .i64 2)).setCell ⟨br, 1, none⟩ (.int .i64 x4)).setCell ⟨br, 2, none⟩ (.bool true)).setCell ⟨br, 3, none⟩ (.int .i64 x9.to)).setCell ⟨br, 4, none⟩ (.int .i64 x9.sh)).setCell ⟨br, 5, none⟩ (.slice (some ⟨w11.heap.size, 0, none⟩) 1 1)) br 65 #[.int .i64 2, .int .i64 x4, .bool true, .int .i64 x9.to, .int .i64 x9.sh, .slice (some ⟨w11.heap.size, 0, none⟩) 1 1] := ((((((HB12.out.set_ 0 (.int .i64 2)).set_ 1 (.int .i64 x4)).set_ 2 (.bool true)).set_ 3 (.int .i64 x9.to)).set_ 4 (.int .i64 x9.sh)).set_ 5 (.slice (some ⟨w11.heap.size, 0, none⟩) 1 1))
      have HVF := Lib.hid (list_stored edg_ok HVb.out HSe.out.2.1 HSe.out.1 hst)
      clear hst n0 f0 c0 n1 f1 c1 n2 f2 c2 n3 f3 c3 n4 f4 c4 n5 f5 c5
      generalize ((((((w12.setCell ⟨br, 0, none⟩ (.int .i64 2)).setCell ⟨br, 1, none⟩ (.int .i64 x4)).setCell ⟨br, 2, none⟩ (.bool true)).setCell ⟨br, 3, none⟩ (.int .i64 x9.to)).setCell ⟨br, 4, none⟩ (.int .i64 x9.sh)).setCell ⟨br, 5, none⟩ (.slice (some ⟨w11.heap.size, 0, none⟩) 1 1)) = Wf at *
      have HBF := Lib.hid hbf
      clear hbf
      refine bodyPost_ret (results_cell_row rfl _ _ br 65 #[.int .i64 2, .int .i64 x4, .bool true, .int .i64 x9.to, .int .i64 x9.sh, .slice (some ⟨w11.heap.size, 0, none⟩) 1 1] _ _ rfl HBF.out Tryz.underlying65 rfl (by kernel_rfl)) rfl ?_
      rw [← HE12.out]
      exact RdsR.ret ⟨_, rfl, _, rfl, HVF.out⟩ HMF.out.rd HMF.out.gr
    | false =>
      have HE8 := Lib.hid (show ((edgR bs b6).bind fun x f => .ok ⟨2, x4, false, ⟨0, 0⟩, [x]⟩ f : Rs Nod) = res from HE7.out)
      go_upto_region 11 with fail
      clear n2
      have HM8 := Lib.hid HM7.out
      have HB8 := Lib.hid HB7.out
      have HC8 := Lib.hid HC7.out
      have HN8 := Lib.hid HN7.out
      clear HE7 HM7 HB7 HC7 HN7
      have cb := HC8.out.cell 0
      go_wp2_with fail
      clear cb
      refine (redge_any HM8.out.rd).mono ?_
      rintro e w9 hL
      rcases hL.cases with ⟨x9, b9, v9, hq, rfl, hv, hr, hg⟩ | ⟨c, y, b, fb, hq, rfl, hf, h1, hg⟩
      rotate_left
      · have hz : res = .flt c y b := by rw [← HE8.out, hq]; rfl
        have hR := HM8.out.out (V := encV NodE) (b := b) hf h1 hg
        rw [← hz] at hR
        have HR := Lib.hid hR
        clear hL hf h1 hg hq hz hR
        go_wp2_with fail
        exact ⟨rfl, HR.out⟩
      obtain ⟨cs, rfl, hE⟩ := hv
      obtain rfl := hE
      have hv := trivial
      have HE9 := Lib.hid (show (.ok ⟨2, x4, false, ⟨0, 0⟩, [x9]⟩ b9 : Rs Nod) = res from by rw [← HE8.out, hq]; rfl)
      have HM9 := Lib.hid (HM8.out.next hg hr)
      have HB9 := Lib.hid (HM8.out.blk HB8.out HBR.out hg)
      have HC9 := Lib.hid (HM8.out.blk HC8.out HBX.out hg)
      have HN9 := Lib.hid (HM8.out.blk HN8.out HBN.out hg)
      clear hL hr hg hq hv HM8 HB8 HC8 HN8 HE8
      have f5 := HN9.out.frozen 5
      have c5 := HN9.out.cell 5
      have hga : w9.grownBy (w9.alloc (.cells #[.int .i64 x9.to, .int .i64 x9.sh] 62)) none := only_alloc (only_refl _ _) _
      have HMa := Lib.hid (HM9.out.none_ hga)
      have HBa := Lib.hid (HB9.out.kept hga)
      have HCa := Lib.hid (HC9.out.kept hga)
      have HNa := Lib.hid (HN9.out.kept hga)
      have HVa := Lib.hid (one_edge_row w9 x9.to x9.sh)
      have HSe : Hid (w.heap.size ≤ w9.heap.size ∧ br < w9.heap.size ∧ bn < w9.heap.size) := Lib.hid ⟨HM9.out.gr.size, HB9.out.lt, HN9.out.lt⟩
      replace f5 := HNa.out.frozen 5
      replace c5 := HNa.out.cell 5
      clear hga
      go_upto_region 16 with fail
      have hst := only_setCell (g := bn) (p := ⟨bn, 5, none⟩) (only_refl (w9.alloc (.cells #[.int .i64 x9.to, .int .i64 x9.sh] 62)) _) rfl (.slice (some ⟨w9.heap.size, 0, none⟩) 1 1)
      have HM10 := Lib.hid (HMa.out.own HNa.out (by decide) HBN.out hst)
      have hnn : Blk ((w9.alloc (.cells #[.int .i64 x9.to, .int .i64 x9.sh] 62)).setCell ⟨bn, 5, none⟩ (.slice (some ⟨w9.heap.size, 0, none⟩) 1 1)) bn 65 #[.int .i64 2, .int .i64 x4, .bool false, .int .i64 0, .int .i64 0, .slice (some ⟨w9.heap.size, 0, none⟩) 1 1] := (HNa.out.set_ 5 (.slice (some ⟨w9.heap.size, 0, none⟩) 1 1))
      have HB10 := Lib.hid (HBa.out.grown hst (fun e => by injection e with e; have := HNB.out.1; omega))
      have HC10 := Lib.hid (HCa.out.grown hst (fun e => by injection e with e; have := HNB.out.2; omega))
      have HE10 := Lib.hid HE9.out
      have HVb := Lib.hid (list_stored edg_ok HVa.out HSe.out.2.2 (Nat.le_refl _) hst)
      generalize ((w9.alloc (.cells #[.int .i64 x9.to, .int .i64 x9.sh] 62)).setCell ⟨bn, 5, none⟩ (.slice (some ⟨w9.heap.size, 0, none⟩) 1 1)) = w10 at *
      have HN10 := Lib.hid hnn
      clear hst hnn f5 c5 HE9 HM9 HB9 HC9 HN9 HMa HBa HCa HNa HVa
      have n0 := HN10.out.cell 0
      have n1 := HN10.out.cell 1
      have n2 := HN10.out.cell 2
      have n3 := HN10.out.cell 3
      have n4 := HN10.out.cell 4
      have n5 := HN10.out.cell 5
      have f0 := HB10.out.frozen 0
      have c0 := HB10.out.cell 0
      have f1 := HB10.out.frozen 1
      have c1 := HB10.out.cell 1
      have f2 := HB10.out.frozen 2
      have c2 := HB10.out.cell 2
      have f3 := HB10.out.frozen 3
      have c3 := HB10.out.cell 3
      have f4 := HB10.out.frozen 4
      have c4 := HB10.out.cell 4
      have f5 := HB10.out.frozen 5
      have c5 := HB10.out.cell 5
      go_wp2_with fail
      have hst := only_setCell (g := br) (p := ⟨br, 5, none⟩) (only_setCell (g := br) (p := ⟨br, 4, none⟩) (only_setCell (g := br) (p := ⟨br, 3, none⟩) (only_setCell (g := br) (p := ⟨br, 2, none⟩) (only_setCell (g := br) (p := ⟨br, 1, none⟩) (only_setCell (g := br) (p := ⟨br, 0, none⟩) (only_refl w10 _) rfl (.int .i64 2)) rfl (.int .i64 x4)) rfl (.bool false)) rfl (.int .i64 0)) rfl (.int .i64 0)) rfl (.slice (some ⟨w9.heap.size, 0, none⟩) 1 1)
      have HMF := Lib.hid (HM10.out.own HB10.out (by decide) HBR.out hst)
      have hbf : Blk ((((((w10.setCell ⟨br, 0, none⟩ (.int .i64 2)).setCell ⟨br, 1, none⟩ (.int .i64 x4)).setCell ⟨br, 2, none⟩ (.bool false)).setCell ⟨br, 3, none⟩ (.int .i64 0)).setCell ⟨br, 4, none⟩ (.int .i64 0)).setCell ⟨br, 5, none⟩ (.slice (some ⟨w9.heap.size, 0, none⟩) 1 1)) br 65 #[.int .i64 2, .int .i64 x4, .bool false, .int .i64 0, .int .i64 0, .slice (some ⟨w9.heap.size, 0, none⟩) 1 1] := ((((((HB10.out.set_ 0 (.int .i64 2)).set_ 1 (.int .i64 x4)).set_ 2 (.bool false)).set_ 3 (.int .i64 0)).set_ 4 (.int .i64 0)).set_ 5 (.slice (some ⟨w9.heap.size, 0, none⟩) 1 1))
      have HVF := Lib.hid (list_stored edg_ok HVb.out HSe.out.2.1 HSe.out.1 hst)
      clear hst n0 f0 c0 n1 f1 c1 n2 f2 c2 n3 f3 c3 n4 f4 c4 n5 f5 c5
      generalize ((((((w10.setCell ⟨br, 0, none⟩ (.int .i64 2)).setCell ⟨br, 1, none⟩ (.int .i64 x4)).setCell ⟨br, 2, none⟩ (.bool false)).setCell ⟨br, 3, none⟩ (.int .i64 0)).setCell ⟨br, 4, none⟩ (.int .i64 0)).setCell ⟨br, 5, none⟩ (.slice (some ⟨w9.heap.size, 0, none⟩) 1 1)) = Wf at *
      have HBF := Lib.hid hbf
      clear hbf
      refine bodyPost_ret (results_cell_row rfl _ _ br 65 #[.int .i64 2, .int .i64 x4, .bool false, .int .i64 0, .int .i64 0, .slice (some ⟨w9.heap.size, 0, none⟩) 1 1] _ _ rfl HBF.out Tryz.underlying65 rfl (by kernel_rfl)) rfl ?_
      rw [← HE10.out]
      exact RdsR.ret ⟨_, rfl, _, rfl, HVF.out⟩ HMF.out.rd HMF.out.gr
  · skip
    have HE3 := Lib.hid (show ((smR bs b1 1000).bind fun p c => (lstR edgR 1 8 bs c).bind fun l d => .ok ⟨3, p, false, ⟨0, 0⟩, l.map Prod.fst⟩ d : Rs Nod) = res from HE2.out)
    have HM3 := Lib.hid HM2.out
    have HB3 := Lib.hid HB2.out
    have HC3 := Lib.hid HC2.out
    have HN3 := Lib.hid HN2.out
    have hw2 : w2 = w2 := rfl
    clear hw2 HE2 HM2 HB2 HC2 HN2
    have cb := HC3.out.cell 0
    go_wp2_with fail
    clear cb
    refine (rnum_any HM3.out.rd 1000 ⟨by omega, by omega⟩).mono ?_
    rintro e w4 hL
    rcases hL.cases with ⟨x4, b4, v4, hq, rfl, hv, hr, hg⟩ | ⟨c, y, b, fb, hq, rfl, hf, h1, hg⟩
    rotate_left
    · have hz : res = .flt c y b := by rw [← HE3.out, hq]; rfl
      have hR := HM3.out.out (V := encV NodE) (b := b) hf h1 hg
      rw [← hz] at hR
      have HR := Lib.hid hR
      clear hL hf h1 hg hq hz hR
      go_wp2_with fail
      exact ⟨rfl, HR.out⟩
    obtain rfl := hv
    have hv := trivial
    have HE4 := Lib.hid (show ((lstR edgR 1 8 bs b4).bind fun l d => .ok ⟨3, x4, false, ⟨0, 0⟩, l.map Prod.fst⟩ d : Rs Nod) = res from by rw [← HE3.out, hq]; rfl)
    have HM4 := Lib.hid (HM3.out.next hg hr)
    have HB4 := Lib.hid (HM3.out.blk HB3.out HBR.out hg)
    have HC4 := Lib.hid (HM3.out.blk HC3.out HBX.out hg)
    have HN4 := Lib.hid (HM3.out.blk HN3.out HBN.out hg)
    clear hL hr hg hq hv HM3 HB3 HC3 HN3 HE3
    have f1 := HN4.out.frozen 1
    have c1 := HN4.out.cell 1
    go_upto_region 15 with fail
    have hst := only_setCell (g := bn) (p := ⟨bn, 1, none⟩) (only_refl w4 _) rfl (.int .i64 x4)
    have HM5 := Lib.hid (HM4.out.own HN4.out (by decide) HBN.out hst)
    have hnn : Blk (w4.setCell ⟨bn, 1, none⟩ (.int .i64 x4)) bn 65 #[.int .i64 3, .int .i64 x4, .bool false, .int .i64 0, .int .i64 0, .slice none 0 0] := (HN4.out.set_ 1 (.int .i64 x4))
    have HB5 := Lib.hid (HB4.out.grown hst (fun e => by injection e with e; have := HNB.out.1; omega))
    have HC5 := Lib.hid (HC4.out.grown hst (fun e => by injection e with e; have := HNB.out.2; omega))
    have HE5 := Lib.hid HE4.out
    generalize (w4.setCell ⟨bn, 1, none⟩ (.int .i64 x4)) = w5 at *
    have HN5 := Lib.hid hnn
    clear hst hnn f1 c1 HE4 HM4 HB4 HC4 HN4 
    have cb := HC5.out.cell 0
    go_wp2_with fail
    clear cb
    refine (rall_Edg HM5.out.rd _ (MSI _ bx g _) (fun k => k = g) (si_start HC5.out HXG.out HM5.out.rd.lt) si_ok 1 8 ⟨by omega, by omega⟩ (by omega) (fun pre T b W hi hr _ _ => (rclo_Edg hr hi.2.1).mono fun _ _ h => si_clo edg_ok hi h)).mono ?_
    rintro e w6 hL
    rcases si_list edg_ok hL with ⟨x6, b6, v6, hq, rfl, hv, hr, hg⟩ | ⟨c, y, b, fb, hq, rfl, hf, h1, hg⟩
    rotate_left
    · have hz : res = .flt c y b := by rw [← HE5.out, hq]; rfl
      have hR := HM5.out.out (V := encV NodE) (b := b) hf h1 hg
      rw [← hz] at hR
      have HR := Lib.hid hR
      clear hL hf h1 hg hq hz hR
      go_wp2_with fail
      exact ⟨rfl, HR.out⟩
    obtain ⟨A6, q6, hvA, _⟩ := id hv
    rw [List.length_map] at hvA
    subst hvA
    have HE6 := Lib.hid (show (.ok ⟨3, x4, false, ⟨0, 0⟩, x6.map Prod.fst⟩ b6 : Rs Nod) = res from by rw [← HE5.out, hq]; rfl)
    have HM6 := Lib.hid (HM5.out.next hg hr)
    have HB6 := Lib.hid (HM5.out.blk HB5.out HBR.out hg)
    have HC6 := Lib.hid (HM5.out.blk HC5.out HBX.out hg)
    have HN6 := Lib.hid (HM5.out.blk HN5.out HBN.out hg)
    have HV6 := Lib.hid hv
    have HSe : Hid (w.heap.size ≤ w5.heap.size ∧ br < w5.heap.size ∧ bn < w5.heap.size) := Lib.hid ⟨HM5.out.gr.size, HB5.out.lt, HN5.out.lt⟩
    clear hL hr hg hq hv HM5 HB5 HC5 HN5 HE5
    have f5 := HN6.out.frozen 5
    have c5 := HN6.out.cell 5
    go_upto_region 16 with fail
    have hst := only_setCell (g := bn) (p := ⟨bn, 5, none⟩) (only_refl w6 _) rfl (.slice A6 x6.length q6)
    have HM7 := Lib.hid (HM6.out.own HN6.out (by decide) HBN.out hst)
    have hnn : Blk (w6.setCell ⟨bn, 5, none⟩ (.slice A6 x6.length q6)) bn 65 #[.int .i64 3, .int .i64 x4, .bool false, .int .i64 0, .int .i64 0, .slice A6 x6.length q6] := (HN6.out.set_ 5 (.slice A6 x6.length q6))
    have HB7 := Lib.hid (HB6.out.grown hst (fun e => by injection e with e; have := HNB.out.1; omega))
    have HC7 := Lib.hid (HC6.out.grown hst (fun e => by injection e with e; have := HNB.out.2; omega))
    have HE7 := Lib.hid HE6.out
    have HVb := Lib.hid (list_stored edg_ok HV6.out HSe.out.2.2 (Nat.le_refl _) hst)
    generalize (w6.setCell ⟨bn, 5, none⟩ (.slice A6 x6.length q6)) = w7 at *
    have HN7 := Lib.hid hnn
    clear hst hnn f5 c5 HE6 HM6 HB6 HC6 HN6 
    have n0 := HN7.out.cell 0
    have n1 := HN7.out.cell 1
    have n2 := HN7.out.cell 2
    have n3 := HN7.out.cell 3
    have n4 := HN7.out.cell 4
    have n5 := HN7.out.cell 5
    have f0 := HB7.out.frozen 0
    have c0 := HB7.out.cell 0
    have f1 := HB7.out.frozen 1
    have c1 := HB7.out.cell 1
    have f2 := HB7.out.frozen 2
    have c2 := HB7.out.cell 2
    have f3 := HB7.out.frozen 3
    have c3 := HB7.out.cell 3
    have f4 := HB7.out.frozen 4
    have c4 := HB7.out.cell 4
    have f5 := HB7.out.frozen 5
    have c5 := HB7.out.cell 5
    go_wp2_with fail
    have hst := only_setCell (g := br) (p := ⟨br, 5, none⟩) (only_setCell (g := br) (p := ⟨br, 4, none⟩) (only_setCell (g := br) (p := ⟨br, 3, none⟩) (only_setCell (g := br) (p := ⟨br, 2, none⟩) (only_setCell (g := br) (p := ⟨br, 1, none⟩) (only_setCell (g := br) (p := ⟨br, 0, none⟩) (only_refl w7 _) rfl (.int .i64 3)) rfl (.int .i64 x4)) rfl (.bool false)) rfl (.int .i64 0)) rfl (.int .i64 0)) rfl (.slice A6 x6.length q6)
    have HMF := Lib.hid (HM7.out.own HB7.out (by decide) HBR.out hst)
    have hbf : Blk ((((((w7.setCell ⟨br, 0, none⟩ (.int .i64 3)).setCell ⟨br, 1, none⟩ (.int .i64 x4)).setCell ⟨br, 2, none⟩ (.bool false)).setCell ⟨br, 3, none⟩ (.int .i64 0)).setCell ⟨br, 4, none⟩ (.int .i64 0)).setCell ⟨br, 5, none⟩ (.slice A6 x6.length q6)) br 65 #[.int .i64 3, .int .i64 x4, .bool false, .int .i64 0, .int .i64 0, .slice A6 x6.length q6] := ((((((HB7.out.set_ 0 (.int .i64 3)).set_ 1 (.int .i64 x4)).set_ 2 (.bool false)).set_ 3 (.int .i64 0)).set_ 4 (.int .i64 0)).set_ 5 (.slice A6 x6.length q6))
    have HVF := Lib.hid (list_stored edg_ok HVb.out HSe.out.2.1 HSe.out.1 hst)
    clear hst n0 f0 c0 n1 f1 c1 n2 f2 c2 n3 f3 c3 n4 f4 c4 n5 f5 c5
    generalize ((((((w7.setCell ⟨br, 0, none⟩ (.int .i64 3)).setCell ⟨br, 1, none⟩ (.int .i64 x4)).setCell ⟨br, 2, none⟩ (.bool false)).setCell ⟨br, 3, none⟩ (.int .i64 0)).setCell ⟨br, 4, none⟩ (.int .i64 0)).setCell ⟨br, 5, none⟩ (.slice A6 x6.length q6)) = Wf at *
    have HBF := Lib.hid hbf
    clear hbf
    refine bodyPost_ret (results_cell_row rfl _ _ br 65 #[.int .i64 3, .int .i64 x4, .bool false, .int .i64 0, .int .i64 0, .slice A6 x6.length q6] _ _ rfl HBF.out Tryz.underlying65 rfl (by kernel_rfl)) rfl ?_
    rw [← HE7.out]
    exact RdsR.ret ⟨_, rfl, _, rfl, HVF.out⟩ HMF.out.rd HMF.out.gr
  · skip
    have HE3 := Lib.hid (show ((smR bs b1 1000).bind fun p c => (lstR edgR 1 8 bs c).bind fun l d => .ok ⟨4, p, false, ⟨0, 0⟩, l.map Prod.fst⟩ d : Rs Nod) = res from HE2.out)
    have HM3 := Lib.hid HM2.out
    have HB3 := Lib.hid HB2.out
    have HC3 := Lib.hid HC2.out
    have HN3 := Lib.hid HN2.out
    have hw2 : w2 = w2 := rfl
    clear hw2 HE2 HM2 HB2 HC2 HN2
    have cb := HC3.out.cell 0
    go_wp2_with fail
    clear cb
    refine (rnum_any HM3.out.rd 1000 ⟨by omega, by omega⟩).mono ?_
    rintro e w4 hL
    rcases hL.cases with ⟨x4, b4, v4, hq, rfl, hv, hr, hg⟩ | ⟨c, y, b, fb, hq, rfl, hf, h1, hg⟩
    rotate_left
    · have hz : res = .flt c y b := by rw [← HE3.out, hq]; rfl
      have hR := HM3.out.out (V := encV NodE) (b := b) hf h1 hg
      rw [← hz] at hR
      have HR := Lib.hid hR
      clear hL hf h1 hg hq hz hR
      go_wp2_with fail
      exact ⟨rfl, HR.out⟩
    obtain rfl := hv
    have hv := trivial
    have HE4 := Lib.hid (show ((lstR edgR 1 8 bs b4).bind fun l d => .ok ⟨4, x4, false, ⟨0, 0⟩, l.map Prod.fst⟩ d : Rs Nod) = res from by rw [← HE3.out, hq]; rfl)
    have HM4 := Lib.hid (HM3.out.next hg hr)
    have HB4 := Lib.hid (HM3.out.blk HB3.out HBR.out hg)
    have HC4 := Lib.hid (HM3.out.blk HC3.out HBX.out hg)
    have HN4 := Lib.hid (HM3.out.blk HN3.out HBN.out hg)
    clear hL hr hg hq hv HM3 HB3 HC3 HN3 HE3
    have f1 := HN4.out.frozen 1
    have c1 := HN4.out.cell 1
    go_upto_region 15 with fail
    have hst := only_setCell (g := bn) (p := ⟨bn, 1, none⟩) (only_refl w4 _) rfl (.int .i64 x4)
    have HM5 := Lib.hid (HM4.out.own HN4.out (by decide) HBN.out hst)
    have hnn : Blk (w4.setCell ⟨bn, 1, none⟩ (.int .i64 x4)) bn 65 #[.int .i64 4, .int .i64 x4, .bool false, .int .i64 0, .int .i64 0, .slice none 0 0] := (HN4.out.set_ 1 (.int .i64 x4))
    have HB5 := Lib.hid (HB4.out.grown hst (fun e => by injection e with e; have := HNB.out.1; omega))
    have HC5 := Lib.hid (HC4.out.grown hst (fun e => by injection e with e; have := HNB.out.2; omega))
    have HE5 := Lib.hid HE4.out
    generalize (w4.setCell ⟨bn, 1, none⟩ (.int .i64 x4)) = w5 at *
    have HN5 := Lib.hid hnn
    clear hst hnn f1 c1 HE4 HM4 HB4 HC4 HN4 
    have cb := HC5.out.cell 0
    go_wp2_with fail
    clear cb
    refine (rall_Edg HM5.out.rd _ (MSI _ bx g _) (fun k => k = g) (si_start HC5.out HXG.out HM5.out.rd.lt) si_ok 1 8 ⟨by omega, by omega⟩ (by omega) (fun pre T b W hi hr _ _ => (rclo_Edg hr hi.2.1).mono fun _ _ h => si_clo edg_ok hi h)).mono ?_
    rintro e w6 hL
    rcases si_list edg_ok hL with ⟨x6, b6, v6, hq, rfl, hv, hr, hg⟩ | ⟨c, y, b, fb, hq, rfl, hf, h1, hg⟩
    rotate_left
    · have hz : res = .flt c y b := by rw [← HE5.out, hq]; rfl
      have hR := HM5.out.out (V := encV NodE) (b := b) hf h1 hg
      rw [← hz] at hR
      have HR := Lib.hid hR
      clear hL hf h1 hg hq hz hR
      go_wp2_with fail
      exact ⟨rfl, HR.out⟩
    obtain ⟨A6, q6, hvA, _⟩ := id hv
    rw [List.length_map] at hvA
    subst hvA
    have HE6 := Lib.hid (show (.ok ⟨4, x4, false, ⟨0, 0⟩, x6.map Prod.fst⟩ b6 : Rs Nod) = res from by rw [← HE5.out, hq]; rfl)
    have HM6 := Lib.hid (HM5.out.next hg hr)
    have HB6 := Lib.hid (HM5.out.blk HB5.out HBR.out hg)
    have HC6 := Lib.hid (HM5.out.blk HC5.out HBX.out hg)
    have HN6 := Lib.hid (HM5.out.blk HN5.out HBN.out hg)
    have HV6 := Lib.hid hv
    have HSe : Hid (w.heap.size ≤ w5.heap.size ∧ br < w5.heap.size ∧ bn < w5.heap.size) := Lib.hid ⟨HM5.out.gr.size, HB5.out.lt, HN5.out.lt⟩
    clear hL hr hg hq hv HM5 HB5 HC5 HN5 HE5
    have f5 := HN6.out.frozen 5
    have c5 := HN6.out.cell 5
    go_upto_region 16 with fail
    have hst := only_setCell (g := bn) (p := ⟨bn, 5, none⟩) (only_refl w6 _) rfl (.slice A6 x6.length q6)
    have HM7 := Lib.hid (HM6.out.own HN6.out (by decide) HBN.out hst)
    have hnn : Blk (w6.setCell ⟨bn, 5, none⟩ (.slice A6 x6.length q6)) bn 65 #[.int .i64 4, .int .i64 x4, .bool false, .int .i64 0, .int .i64 0, .slice A6 x6.length q6] := (HN6.out.set_ 5 (.slice A6 x6.length q6))
    have HB7 := Lib.hid (HB6.out.grown hst (fun e => by injection e with e; have := HNB.out.1; omega))
    have HC7 := Lib.hid (HC6.out.grown hst (fun e => by injection e with e; have := HNB.out.2; omega))
    have HE7 := Lib.hid HE6.out
    have HVb := Lib.hid (list_stored edg_ok HV6.out HSe.out.2.2 (Nat.le_refl _) hst)
    generalize (w6.setCell ⟨bn, 5, none⟩ (.slice A6 x6.length q6)) = w7 at *
    have HN7 := Lib.hid hnn
    clear hst hnn f5 c5 HE6 HM6 HB6 HC6 HN6 
    have n0 := HN7.out.cell 0
    have n1 := HN7.out.cell 1
    have n2 := HN7.out.cell 2
    have n3 := HN7.out.cell 3
    have n4 := HN7.out.cell 4
    have n5 := HN7.out.cell 5
    have f0 := HB7.out.frozen 0
    have c0 := HB7.out.cell 0
    have f1 := HB7.out.frozen 1
    have c1 := HB7.out.cell 1
    have f2 := HB7.out.frozen 2
    have c2 := HB7.out.cell 2
    have f3 := HB7.out.frozen 3
    have c3 := HB7.out.cell 3
    have f4 := HB7.out.frozen 4
    have c4 := HB7.out.cell 4
    have f5 := HB7.out.frozen 5
    have c5 := HB7.out.cell 5
    go_wp2_with fail
    have hst := only_setCell (g := br) (p := ⟨br, 5, none⟩) (only_setCell (g := br) (p := ⟨br, 4, none⟩) (only_setCell (g := br) (p := ⟨br, 3, none⟩) (only_setCell (g := br) (p := ⟨br, 2, none⟩) (only_setCell (g := br) (p := ⟨br, 1, none⟩) (only_setCell (g := br) (p := ⟨br, 0, none⟩) (only_refl w7 _) rfl (.int .i64 4)) rfl (.int .i64 x4)) rfl (.bool false)) rfl (.int .i64 0)) rfl (.int .i64 0)) rfl (.slice A6 x6.length q6)
    have HMF := Lib.hid (HM7.out.own HB7.out (by decide) HBR.out hst)
    have hbf : Blk ((((((w7.setCell ⟨br, 0, none⟩ (.int .i64 4)).setCell ⟨br, 1, none⟩ (.int .i64 x4)).setCell ⟨br, 2, none⟩ (.bool false)).setCell ⟨br, 3, none⟩ (.int .i64 0)).setCell ⟨br, 4, none⟩ (.int .i64 0)).setCell ⟨br, 5, none⟩ (.slice A6 x6.length q6)) br 65 #[.int .i64 4, .int .i64 x4, .bool false, .int .i64 0, .int .i64 0, .slice A6 x6.length q6] := ((((((HB7.out.set_ 0 (.int .i64 4)).set_ 1 (.int .i64 x4)).set_ 2 (.bool false)).set_ 3 (.int .i64 0)).set_ 4 (.int .i64 0)).set_ 5 (.slice A6 x6.length q6))
    have HVF := Lib.hid (list_stored edg_ok HVb.out HSe.out.2.1 HSe.out.1 hst)
    clear hst n0 f0 c0 n1 f1 c1 n2 f2 c2 n3 f3 c3 n4 f4 c4 n5 f5 c5
    generalize ((((((w7.setCell ⟨br, 0, none⟩ (.int .i64 4)).setCell ⟨br, 1, none⟩ (.int .i64 x4)).setCell ⟨br, 2, none⟩ (.bool false)).setCell ⟨br, 3, none⟩ (.int .i64 0)).setCell ⟨br, 4, none⟩ (.int .i64 0)).setCell ⟨br, 5, none⟩ (.slice A6 x6.length q6)) = Wf at *
    have HBF := Lib.hid hbf
    clear hbf
    refine bodyPost_ret (results_cell_row rfl _ _ br 65 #[.int .i64 4, .int .i64 x4, .bool false, .int .i64 0, .int .i64 0, .slice A6 x6.length q6] _ _ rfl HBF.out Tryz.underlying65 rfl (by kernel_rfl)) rfl ?_
    rw [← HE7.out]
    exact RdsR.ret ⟨_, rfl, _, rfl, HVF.out⟩ HMF.out.rd HMF.out.gr
  · skip
    have HE3 := Lib.hid (show (.ok ⟨0, 0, false, ⟨0, 0⟩, []⟩ b1 : Rs Nod) = res from HE2.out)
    have HM3 := Lib.hid HM2.out
    have HB3 := Lib.hid HB2.out
    have HC3 := Lib.hid HC2.out
    have HN3 := Lib.hid HN2.out
    have hw2 : w2 = w2 := rfl
    clear hw2 HE2 HM2 HB2 HC2 HN2
    have HSe : Hid (w.heap.size ≤ w2.heap.size ∧ br < w2.heap.size ∧ bn < w2.heap.size) := Lib.hid ⟨HM3.out.gr.size, HB3.out.lt, HN3.out.lt⟩
    go_upto_region 16 with fail
    have n0 := HN3.out.cell 0
    have n1 := HN3.out.cell 1
    have n2 := HN3.out.cell 2
    have n3 := HN3.out.cell 3
    have n4 := HN3.out.cell 4
    have n5 := HN3.out.cell 5
    have f0 := HB3.out.frozen 0
    have c0 := HB3.out.cell 0
    have f1 := HB3.out.frozen 1
    have c1 := HB3.out.cell 1
    have f2 := HB3.out.frozen 2
    have c2 := HB3.out.cell 2
    have f3 := HB3.out.frozen 3
    have c3 := HB3.out.cell 3
    have f4 := HB3.out.frozen 4
    have c4 := HB3.out.cell 4
    have f5 := HB3.out.frozen 5
    have c5 := HB3.out.cell 5
    go_wp2_with fail
    have hst := only_setCell (g := br) (p := ⟨br, 5, none⟩) (only_setCell (g := br) (p := ⟨br, 4, none⟩) (only_setCell (g := br) (p := ⟨br, 3, none⟩) (only_setCell (g := br) (p := ⟨br, 2, none⟩) (only_setCell (g := br) (p := ⟨br, 1, none⟩) (only_setCell (g := br) (p := ⟨br, 0, none⟩) (only_refl w2 _) rfl (.int .i64 0)) rfl (.int .i64 0)) rfl (.bool false)) rfl (.int .i64 0)) rfl (.int .i64 0)) rfl (.slice none 0 0)
    have HMF := Lib.hid (HM3.out.own HB3.out (by decide) HBR.out hst)
    have hbf : Blk ((((((w2.setCell ⟨br, 0, none⟩ (.int .i64 0)).setCell ⟨br, 1, none⟩ (.int .i64 0)).setCell ⟨br, 2, none⟩ (.bool false)).setCell ⟨br, 3, none⟩ (.int .i64 0)).setCell ⟨br, 4, none⟩ (.int .i64 0)).setCell ⟨br, 5, none⟩ (.slice none 0 0)) br 65 #[.int .i64 0, .int .i64 0, .bool false, .int .i64 0, .int .i64 0, .slice none 0 0] := ((((((HB3.out.set_ 0 (.int .i64 0)).set_ 1 (.int .i64 0)).set_ 2 (.bool false)).set_ 3 (.int .i64 0)).set_ 4 (.int .i64 0)).set_ 5 (.slice none 0 0))
    have HVF : Hid (ListA EdgE 2 (fun k => w.heap.size ≤ k) ((((((w2.setCell ⟨br, 0, none⟩ (.int .i64 0)).setCell ⟨br, 1, none⟩ (.int .i64 0)).setCell ⟨br, 2, none⟩ (.bool false)).setCell ⟨br, 3, none⟩ (.int .i64 0)).setCell ⟨br, 4, none⟩ (.int .i64 0)).setCell ⟨br, 5, none⟩ (.slice none 0 0)) (.slice none 0 0) []) := Lib.hid (ListA.nil_ _ _)
    clear hst n0 f0 c0 n1 f1 c1 n2 f2 c2 n3 f3 c3 n4 f4 c4 n5 f5 c5
    generalize ((((((w2.setCell ⟨br, 0, none⟩ (.int .i64 0)).setCell ⟨br, 1, none⟩ (.int .i64 0)).setCell ⟨br, 2, none⟩ (.bool false)).setCell ⟨br, 3, none⟩ (.int .i64 0)).setCell ⟨br, 4, none⟩ (.int .i64 0)).setCell ⟨br, 5, none⟩ (.slice none 0 0)) = Wf at *
    have HBF := Lib.hid hbf
    clear hbf
    refine bodyPost_ret (results_cell_row rfl _ _ br 65 #[.int .i64 0, .int .i64 0, .bool false, .int .i64 0, .int .i64 0, .slice none 0 0] _ _ rfl HBF.out Tryz.underlying65 rfl (by kernel_rfl)) rfl ?_
    rw [← HE3.out]
    exact RdsR.ret ⟨_, rfl, _, rfl, HVF.out⟩ HMF.out.rd HMF.out.gr
end Go.Proofs.YtohhojbeclbedaaGreatDoor

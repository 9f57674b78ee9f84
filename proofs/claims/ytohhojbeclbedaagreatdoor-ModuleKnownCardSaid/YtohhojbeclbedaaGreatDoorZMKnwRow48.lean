/- Texts joined for the claim's sake: MAtE, MScA, MScB, MScC, MReA. -/
import Derived.Test.YtohhojbeclbedaaGreatDoorZMKnwRow46
import Derived.Test.YtohhojbeclbedaaGreatDoorZMKnwRow31
import Derived.Test.YtohhojbeclbedaaGreatDoorZMKnwRow47
import Derived.Test.YtohhojbeclbedaaGreatDoorZMKnwRow20
import Derived.Test.YtohhojbeclbedaaGreatDoorZMKnwRow3
namespace Go.Proofs.YtohhojbeclbedaaGreatDoor
open Go.RowKit

set_option maxRecDepth 100000 in
set_option maxHeartbeats 1000000 in
theorem rclo_Tpl {g b bg bm bp bx base : Nat} {ms : Array Value} {bs : List UInt8} {pre : List (Tpl × Nat)} {T : Nat → Prop} {W : World} (hi : MmI Tpl 5 bm bp bx g base bg ms pre T W) (hr : Rdr W g bs b bg) (hn : pre.length ≤ 1000) :
    Calls Tryz.prog 113 #[.pointer (some ⟨bp, 0, none⟩), .pointer (some ⟨bx, 0, none⟩)] W (CloR (encV TplE) (MmI Tpl 5 bm bp bx g base bg ms) (MmJ 5 bm ms) g bs bg pre T b (tplR bg bs b) W) := by
  obtain ⟨res, hres⟩ : ∃ r, tplR bg bs b = r := ⟨_, rfl⟩
  rw [hres]
  have HRES := Lib.hid hres
  clear hres
  obtain ⟨v, h1, h2, h3, h4, h5, h6, h7⟩ := hi
  obtain ⟨zs, hzs⟩ : ∃ zs, ats bg pre = zs := ⟨_, rfl⟩
  have HZL : Hid (zs.length ≤ 1000) := Lib.hid (by rw [← hzs, ats_len]; exact hn)
  rw [hzs] at h5
  have HZS := Lib.hid hzs
  obtain ⟨Av, cv, rfl⟩ := own_shape h5
  have hg0 : W.grownBy (W.alloc (.cells #[.slice none 0 0, .slice none 0 0, .slice none 0 0] 50)) none := only_alloc (only_refl _ _) _
  have HT1 := Lib.hid h1
  have BX := Lib.hid (h2.kept hg0)
  have BP := Lib.hid (h3.kept hg0)
  have BT := Lib.hid (h4.kept hg0)
  have HAO := Lib.hid (h5.none_ hg0)
  have BR := Lib.hid (Blk.new W 50 #[.slice none 0 0, .slice none 0 0, .slice none 0 0])
  have HRX := Lib.hid (hr.kept hg0)
  have HBX0 : Hid (base ≤ (W.alloc (.cells #[.slice none 0 0, .slice none 0 0, .slice none 0 0] 50)).heap.size) := Lib.hid (Nat.le_trans h7 hg0.size)
  have HNE := Lib.hid h6
  have HBB : Hid (base ≤ W.heap.size) := Lib.hid h7
  have HTX : Hid (Turn T W (W.alloc (.cells #[.slice none 0 0, .slice none 0 0, .slice none 0 0] 50))) := Lib.hid (Turn.none_ hg0)
  have HFI : Hid ((ms.setIfInBounds 5 (.slice Av zs.length cv))[5]? = some (.slice Av zs.length cv)) := Lib.hid (by have := h6.2.2.2.2.2.2.2.2.2; simp [this])
  obtain ⟨pl, hpl⟩ : ∃ pl : Int, (bg : Int) + (b : Int) = pl := ⟨_, rfl⟩
  have HPL := Lib.hid hpl
  clear h1 h2 h3 h4 h5 h6 h7 hg0 hr hn hzs hpl
  go_enter Tryz.func113, Tryz.ntmps113
  go_upto_region 1 with fail
  generalize (W.alloc (.cells #[.slice none 0 0, .slice none 0 0, .slice none 0 0] 50)) = X at *
  generalize hbr : W.heap.size = br at *
  have HBR : Hid (W.heap.size ≤ br) := Lib.hid (Nat.le_of_eq hbr)
  clear hbr
  refine region_chainW (by kernel_rfl) (by kernel_rfl) (by kernel_rfl) [3, 4, 5, 6, 7, 8, 9, 10, 11, 12, 13] (by kernel_rfl) (by kernel_rfl) (by decide)
    [(0, .pointer (some ⟨bp, 0, none⟩)), (1, .pointer (some ⟨bx, 0, none⟩)), (3, .pointer (some ⟨bm, 0, none⟩)), (4, .pointer (some ⟨bm, 0, none⟩)), (5, .pointer (some ⟨bm, 0, none⟩)), (6, .pointer (some ⟨bm, 5, none⟩)), (7, .slice Av zs.length cv), (8, .pointer (some ⟨g, 0, none⟩))]
    ?h0 [6, 7, 8, 9, 10, 11] (by kernel_rfl) (by kernel_rfl) (by decide) (by kernel_rfl) (TBM X bm 5 base (.slice Av zs.length cv) zs pl) ?hT ?reads ?steps (only_drew (only_refl _ _)) ?hQ
  case h0 =>
    intro p hp hn
    simp only [List.mem_cons, List.not_mem_nil, or_false] at hp
    rcases hp with rfl | rfl | rfl | rfl | rfl | rfl | rfl | rfl
    all_goals first | rfl | exact absurd (by dsimp only; decide) hn
  case hT =>
    intro j f g' W' hj he
    match j, hj with
    | 0, hj => exact hj
    | 1, ⟨h1, h2⟩ => exact ⟨(he 0 6 _ 9 (by decide) rfl rfl rfl).symm.trans h1, h2⟩
    | 2, ⟨k, h1, h2⟩ => exact ⟨k, (he 1 7 _ 10 (by decide) rfl rfl rfl).symm.trans h1, h2⟩
    | 3, ⟨v', Wa, h1, h2⟩ => exact ⟨v', Wa, (he 2 8 _ 11 (by decide) rfl rfl rfl).symm.trans h1, h2⟩
    | 4, ⟨h0, v', Wa, h1, h2⟩ => exact ⟨(he 3 9 _ 12 (by decide) rfl rfl rfl).symm.trans h0, v', Wa, (he 2 8 _ 11 (by decide) rfl rfl rfl).symm.trans h1, h2⟩
    | 5, ⟨h0, v', Wa, h1, h2⟩ => exact ⟨(he 4 10 _ 13 (by decide) rfl rfl rfl).symm.trans h0, v', Wa, (he 2 8 _ 11 (by decide) rfl rfl rfl).symm.trans h1, h2⟩
    | 6, hj => exact hj
  case reads =>
    intro i o ho hn
    have hrd : ∀ j f W', j < 6 → TBM X bm 5 base (.slice Av zs.length cv) zs pl j f W' → ∀ k t cs, Blk X k t cs → t ≠ 3 → Blk W' k t cs := by
      intro j f W' hj hT' k t cs hb ht
      match j, hj, hT' with
      | 0, _, hT' => exact hb.kept hT'
      | 1, _, ⟨_, hg⟩ => exact hb.kept hg
      | 2, _, ⟨_, _, _, hg⟩ => exact hb.kept hg
      | 3, _, ⟨_, Wa, _, hg, hg5, _⟩ => exact (hb.kept hg).grown hg5 (fun e => own_ne (HAO.out.none_ hg) (hb.kept hg) (Ne.symm ht) e.symm)
      | 4, _, ⟨_, _, Wa, _, hg, hg5, _⟩ => exact (hb.kept hg).grown hg5 (fun e => own_ne (HAO.out.none_ hg) (hb.kept hg) (Ne.symm ht) e.symm)
      | 5, _, ⟨_, _, Wa, _, hg, hg5, _⟩ => exact (hb.kept hg).grown hg5 (fun e => own_ne (HAO.out.none_ hg) (hb.kept hg) (Ne.symm ht) e.symm)
    have h9 : i = 0 ∨ i = 1 ∨ i = 2 ∨ i = 3 ∨ i = 4 ∨ i = 5 := by
      have h1 := (Array.getElem?_eq_some_iff.1 ho).1
      simp only [List.size_toArray, List.length_cons, List.length_nil] at h1
      simp only [List.mem_cons, List.not_mem_nil, or_false] at hn
      omega
    rcases h9 with rfl | rfl | rfl | rfl | rfl | rfl
    · cases ho
      exact ⟨3, _, rfl, rfl, fun j f b W' hj hT' henv => rv_loadPM rfl (henv 0 _ (by simp [Op.operands]) rfl) ((hrd j f W' hj hT' bp _ _ BP.out (by decide)).cell 0)⟩
    · cases ho
      exact ⟨4, _, rfl, rfl, fun j f b W' hj hT' henv => rv_loadPM rfl (henv 0 _ (by simp [Op.operands]) rfl) ((hrd j f W' hj hT' bp _ _ BP.out (by decide)).cell 0)⟩
    · cases ho
      exact ⟨5, _, rfl, rfl, fun j f b W' hj hT' henv => rv_nilM rfl (henv 4 _ (by simp [Op.operands]) rfl)⟩
    · cases ho
      exact ⟨6, _, rfl, rfl, fun j f b W' hj hT' henv => rv_fldM5 rfl (henv 5 _ (by simp [Op.operands]) rfl)⟩
    · cases ho
      exact ⟨7, _, rfl, rfl, fun j f b W' hj hT' henv => rv_loadI rfl (henv 6 _ (by simp [Op.operands]) rfl) (((hrd j f W' hj hT' bm _ _ BT.out (by decide)).cell 5).trans HFI.out)⟩
    · cases ho
      exact ⟨8, _, rfl, rfl, fun j f b W' hj hT' henv => rv_loadR rfl (henv 1 _ (by simp [Op.operands]) rfl) ((hrd j f W' hj hT' bx _ _ BX.out (by decide)).cell 0)⟩
  case steps =>
    intro j i o hj ho
    have h4 : j = 0 ∨ j = 1 ∨ j = 2 ∨ j = 3 ∨ j = 4 ∨ j = 5 := by
      have := (List.getElem?_eq_some_iff.1 hj).1
      simp only [List.length_cons, List.length_nil] at this
      omega
    rcases h4 with rfl | rfl | rfl | rfl | rfl | rfl
    · cases hj
      cases ho
      refine ⟨fun t e => by cases e; rfl, fun b W' hb hT1 henv => ?_⟩
      have hg : X.grownBy W' none := hT1
      refine wp_placeM rfl (henv 8 _ (by simp [Op.operands, Call.operands]) rfl) (place_step (HRX.out.kept hg)) ?_
      rintro en W5' ⟨rfl, hg5⟩
      exact ⟨_, rfl, _, rfl, (act_putM _ (by rw [hb]; show _ < 16; decide)).trans (congrArg (Value.int .i64) HPL.out), only_trans hg hg5⟩
    · cases hj
      cases ho
      refine ⟨fun t e => by cases e; rfl, fun b W' hb hT1 henv => ?_⟩
      obtain ⟨h1, hg⟩ := hT1
      exact wp_buildM rfl h1 ⟨_, rfl, W'.heap.size, act_putM _ (by rw [hb]; show _ < 16; decide), Blk.new _ _ _, only_alloc hg _⟩
    · cases hj
      cases ho
      refine ⟨fun t e => by cases e; rfl, fun b W' hb hT1 henv => ?_⟩
      obtain ⟨k, h1, h3, hg⟩ := hT1
      exact wp_appendM (.tmp 7) (.tmp 10) rfl (henv 7 _ (by simp [Op.operands, Call.operands]) rfl) h1 (HAO.out.none_ hg) h3 HZL.out (Nat.le_trans HBX0.out hg.size) (fun v' Wb ho5 hg5 hv5 => ⟨_, rfl, v', W', act_putM _ (by rw [hb]; show _ < 16; decide), hg, hg5, ho5, hv5⟩)
    · cases hj
      cases ho
      refine ⟨fun t e => by cases e; rfl, fun b W' hb hT1 henv => ?_⟩
      obtain ⟨v', Wa, h1, hrest⟩ := hT1
      exact wp_valM (rv_nilM rfl (henv 3 _ (by simp [Op.operands]) rfl)) ⟨_, rfl, act_putM _ (by rw [hb]; show _ < 16; decide), v', Wa, (act_otherM _ (by decide)).trans h1, hrest⟩
    · cases hj
      cases ho
      refine ⟨fun t e => by cases e; rfl, fun b W' hb hT1 henv => ?_⟩
      obtain ⟨h0, v', Wa, h1, hrest⟩ := hT1
      exact wp_valM (rv_fldM5 rfl h0) ⟨_, rfl, act_putM _ (by rw [hb]; show _ < 16; decide), v', Wa, (act_otherM _ (by decide)).trans h1, hrest⟩
    · cases hj
      cases ho
      refine ⟨fun t e => (by cases e), fun b W' hb hT1 henv => ?_⟩
      obtain ⟨h0, v', Wa, h1, hg, hg5, ho5, hv5⟩ := hT1
      obtain ⟨A5, c5, rfl⟩ := own_shape ho5
      have hbb := (BT.out.kept hg).grown hg5 (fun e => own_ne (HAO.out.none_ hg) (BT.out.kept hg) (by decide) e.symm)
      exact wp_storeM rfl h0 h1 hbb HFI.out ⟨undef, rfl, _, Wa, W', rfl, hg, hg5, ho5, hv5⟩
  case hQ =>
    intro vs W' hv hT4
    obtain ⟨v', Wa, Wb, rfl, hg, hg5, ho5, hv5⟩ := hT4
    obtain ⟨q1, q2, q3, q4, q5, q6, q7⟩ := ta_end (fi := 5) hg hg5 ho5 hv5 HAO.out BT.out (by decide) (by decide)
    have HBT := Lib.hid q1
    rw [Array.setIfInBounds_setIfInBounds] at HBT
    have HA2 := Lib.hid q2
    have HX2 := Lib.hid (q3 _ _ _ BX.out (by decide) (by have := HNE.out; omega))
    have HP2 := Lib.hid (q3 _ _ _ BP.out (by decide) (by have := HNE.out; omega))
    have HR2 := Lib.hid (q3 _ _ _ BR.out (by decide) (by have := HBR.out; have := HBB.out; have := HNE.out; omega))
    have HD2 := Lib.hid (q4 _ _ _ _ HRX.out (by have := HNE.out; omega))
    have HTU := Lib.hid q5
    have HNT := Lib.hid q6
    have HSZ := Lib.hid q7
    simp only [List.foldl_cons, List.foldl_nil, List.setIfInBounds_toArray, List.set_cons_zero, List.set_cons_succ]
    clear hv hg hg5 ho5 hv5 q1 q2 q3 q4 q5 q6 q7
    generalize World.setCell _ _ _ = W9 at *
    have cb := HX2.out.cell 0
    have HT9 : Hid (Turn T W W9) := Lib.hid (HTX.out.plus (HTU.out.weak (fun k hk => (HT1.out k).2 (.inr hk))))
    go_wp2_with fail
    refine (rtpl_any HD2.out).mono ?_
    rintro en w1 hL
    clear cb
    rw [HRES.out] at hL
    rcases hL.cases with ⟨x, d, v, rfl, rfl, ⟨cs, rfl, hE⟩, hrd, hg⟩ | ⟨c, y, d, fb, rfl, rfl, hf, hge, hg⟩
    rotate_left
    · have HC : Hid (CloR (encV TplE) (MmI Tpl 5 bm bp bx g base bg ms) (MmJ 5 bm ms) g bs bg pre T b (.flt c y d) W (gaveF fb) w1) := Lib.hid
        ⟨fb, rfl, hf, Nat.le_trans HT9.out.size hge, HT9.out.plus (Turn.of_only hg (fun k e => by injection e with e; subst e; exact (HT1.out _).2 (.inl rfl))), ⟨v', HBT.out.grown hg (fun e => by injection e with e; have := HNE.out; omega)⟩⟩
      clear hL hf hge hg
      go_wp2_with fail
      exact ⟨rfl, HC.out⟩
    · have HI := Lib.hid hE
      obtain ⟨lv, lv2, lv3, rfl, hlv, hlv2, hlv3⟩ := hE
      obtain ⟨A7, c7, rfl, _⟩ := hlv.slice
      obtain ⟨A8, c8, rfl, _⟩ := hlv2.slice
      obtain ⟨A9, c9, rfl, _⟩ := hlv3.slice
      have HG1 := Lib.hid hg
      have HD1 := Lib.hid hrd
      have HBR2 := Lib.hid (HR2.out.grown hg (fun e => by injection e with e; have := HBR.out; have := HBB.out; have := HNE.out; omega))
      clear hL hg hrd
      have f0 := HBR2.out.frozen 0
      have c0 := HBR2.out.cell 0
      have f1 := HBR2.out.frozen 1
      have c1 := HBR2.out.cell 1
      have f2 := HBR2.out.frozen 2
      have c2 := HBR2.out.cell 2
      go_wp2_with fail
      have hst := only_setCell (g := br) (p := ⟨br, 2, none⟩) (only_setCell (g := br) (p := ⟨br, 1, none⟩) (only_setCell (g := br) (p := ⟨br, 0, none⟩) (only_refl w1 _) rfl (.slice A7 x.params.length c7)) rfl (.slice A8 x.code.length c8)) rfl (.slice A9 x.at_.length c9)
      have hbf : Blk (((w1.setCell ⟨br, 0, none⟩ (.slice A7 x.params.length c7)).setCell ⟨br, 1, none⟩ (.slice A8 x.code.length c8)).setCell ⟨br, 2, none⟩ (.slice A9 x.at_.length c9)) br 50 #[.slice A7 x.params.length c7, .slice A8 x.code.length c8, .slice A9 x.at_.length c9] := (((HBR2.out.set_ 0 (.slice A7 x.params.length c7)).set_ 1 (.slice A8 x.code.length c8)).set_ 2 (.slice A9 x.at_.length c9))
      have HST := Lib.hid hst
      clear hst f0 c0 f1 c1 f2 c2
      generalize (((w1.setCell ⟨br, 0, none⟩ (.slice A7 x.params.length c7)).setCell ⟨br, 1, none⟩ (.slice A8 x.code.length c8)).setCell ⟨br, 2, none⟩ (.slice A9 x.at_.length c9)) = Wf at *
      refine bodyPost_ret (results_cell_row rfl _ _ br 50 #[.slice A7 x.params.length c7, .slice A8 x.code.length c8, .slice A9 x.at_.length c9] _ _ rfl hbf Tryz.underlying50 rfl (by kernel_rfl)) rfl ?_
      have n1 := HNE.out
      have n2 := HBR.out
      have n3 := HBB.out
      have n4 := HT9.out.size
      have n5 := HG1.out.size
      have hkeep : ∀ k t cs', Blk W9 k t cs' → k ≠ g → k ≠ br → Blk Wf k t cs' := fun k t cs' hb hk1 hk2 => (hb.grown HG1.out (fun e => hk1 (by injection e))).grown HST.out (fun e => hk2 (by injection e))
      have hown : ∀ k, v'.ownBlock = some k → base ≤ k ∧ k < W9.heap.size := fun k hk => World.ownsRow.lt HA2.out k hk
      have hA1 := HA2.out.kept HG1.out (by
        cases hv : v'.ownBlock with
        | none => exact .inl rfl
        | some u => exact .inr fun e => by injection e with e; have := hown u hv; omega)
      have hA3 := hA1.kept HST.out (.inr fun e => own_ne hA1 HBR2.out (by decide) e)
      have hbr9 := HR2.out.lt
      refine ⟨_, fun k => k = g ∨ k = bm ∨ v'.ownBlock = some k, rfl, ?_, ⟨v', fun _ => Iff.rfl, hkeep bx _ _ HX2.out n1.2.2.2.1 (by omega), hkeep bp _ _ HP2.out n1.2.2.2.2.1 (by omega), hkeep bm _ _ HBT.out n1.2.2.2.2.2.1 (by omega), by rw [ats_snoc, HZS.out, HPL.out]; exact hA3, n1, by have := HST.out.size; omega⟩, ⟨_, rfl, ?_⟩, ?_, ?_⟩
      · exact HD1.out.grown HST.out (fun e => by injection e with e; omega) (fun j e => by injection e with e; subst e; exact ⟨_, _, HBR2.out, by decide⟩)
      · refine tpl_ok.more (tpl_ok.kept HI.out (KeptS.grown HST.out (fun k hk e => ?_))) (fun k hk _ => ⟨by omega, ?_⟩)
        · injection e with e
          omega
        · rintro (e | e | e)
          · omega
          · omega
          · have := (hown k e).2; omega
      · exact (HT9.out.plus (Turn.of_only HG1.out (fun k e => by injection e with e; subst e; exact (HT1.out _).2 (.inl rfl)))).grown HST.out (fun k e => by injection e with e; omega)
      · rintro k hk hnk (e | e | e)
        · exact hnk ((HT1.out k).2 (.inl e))
        · exact hnk ((HT1.out k).2 (.inr (.inl e)))
        · exact HNT.out k (by have := HTX.out.size; omega) (fun e2 => hnk ((HT1.out k).2 (.inr (.inr e2)))) e
set_option maxRecDepth 100000 in
set_option maxHeartbeats 1000000 in
theorem rclo_Typ {g b bg bm bp bx base : Nat} {ms : Array Value} {bs : List UInt8} {pre : List (Edg × Nat)} {T : Nat → Prop} {W : World} (hi : MmI Edg 6 bm bp bx g base bg ms pre T W) (hr : Rdr W g bs b bg) (hn : pre.length ≤ 1000) :
    Calls Tryz.prog 116 #[.pointer (some ⟨bp, 0, none⟩), .pointer (some ⟨bx, 0, none⟩)] W (CloR (encV EdgE) (MmI Edg 6 bm bp bx g base bg ms) (MmJ 6 bm ms) g bs bg pre T b (edgR bs b) W) := by
  obtain ⟨res, hres⟩ : ∃ r, edgR bs b = r := ⟨_, rfl⟩
  rw [hres]
  have HRES := Lib.hid hres
  clear hres
  obtain ⟨v, h1, h2, h3, h4, h5, h6, h7⟩ := hi
  obtain ⟨zs, hzs⟩ : ∃ zs, ats bg pre = zs := ⟨_, rfl⟩
  have HZL : Hid (zs.length ≤ 1000) := Lib.hid (by rw [← hzs, ats_len]; exact hn)
  rw [hzs] at h5
  have HZS := Lib.hid hzs
  obtain ⟨Av, cv, rfl⟩ := own_shape h5
  have hg0 : W.grownBy (W.alloc (.cells #[.int .i64 0, .int .i64 0] 67)) none := only_alloc (only_refl _ _) _
  have HT1 := Lib.hid h1
  have BX := Lib.hid (h2.kept hg0)
  have BP := Lib.hid (h3.kept hg0)
  have BT := Lib.hid (h4.kept hg0)
  have HAO := Lib.hid (h5.none_ hg0)
  have BR := Lib.hid (Blk.new W 67 #[.int .i64 0, .int .i64 0])
  have HRX := Lib.hid (hr.kept hg0)
  have HBX0 : Hid (base ≤ (W.alloc (.cells #[.int .i64 0, .int .i64 0] 67)).heap.size) := Lib.hid (Nat.le_trans h7 hg0.size)
  have HNE := Lib.hid h6
  have HBB : Hid (base ≤ W.heap.size) := Lib.hid h7
  have HTX : Hid (Turn T W (W.alloc (.cells #[.int .i64 0, .int .i64 0] 67))) := Lib.hid (Turn.none_ hg0)
  have HFI : Hid ((ms.setIfInBounds 6 (.slice Av zs.length cv))[6]? = some (.slice Av zs.length cv)) := Lib.hid (by have := h6.2.2.2.2.2.2.2.2.2; simp [this])
  obtain ⟨pl, hpl⟩ : ∃ pl : Int, (bg : Int) + (b : Int) = pl := ⟨_, rfl⟩
  have HPL := Lib.hid hpl
  clear h1 h2 h3 h4 h5 h6 h7 hg0 hr hn hzs hpl
  go_enter Tryz.func116, Tryz.ntmps116
  go_upto_region 1 with fail
  generalize (W.alloc (.cells #[.int .i64 0, .int .i64 0] 67)) = X at *
  generalize hbr : W.heap.size = br at *
  have HBR : Hid (W.heap.size ≤ br) := Lib.hid (Nat.le_of_eq hbr)
  clear hbr
  refine region_chainW (by kernel_rfl) (by kernel_rfl) (by kernel_rfl) [3, 4, 5, 6, 7, 8, 9, 10, 11, 12, 13] (by kernel_rfl) (by kernel_rfl) (by decide)
    [(0, .pointer (some ⟨bp, 0, none⟩)), (1, .pointer (some ⟨bx, 0, none⟩)), (3, .pointer (some ⟨bm, 0, none⟩)), (4, .pointer (some ⟨bm, 0, none⟩)), (5, .pointer (some ⟨bm, 0, none⟩)), (6, .pointer (some ⟨bm, 6, none⟩)), (7, .slice Av zs.length cv), (8, .pointer (some ⟨g, 0, none⟩))]
    ?h0 [6, 7, 8, 9, 10, 11] (by kernel_rfl) (by kernel_rfl) (by decide) (by kernel_rfl) (TBM X bm 6 base (.slice Av zs.length cv) zs pl) ?hT ?reads ?steps (only_drew (only_refl _ _)) ?hQ
  case h0 =>
    intro p hp hn
    simp only [List.mem_cons, List.not_mem_nil, or_false] at hp
    rcases hp with rfl | rfl | rfl | rfl | rfl | rfl | rfl | rfl
    all_goals first | rfl | exact absurd (by dsimp only; decide) hn
  case hT =>
    intro j f g' W' hj he
    match j, hj with
    | 0, hj => exact hj
    | 1, ⟨h1, h2⟩ => exact ⟨(he 0 6 _ 9 (by decide) rfl rfl rfl).symm.trans h1, h2⟩
    | 2, ⟨k, h1, h2⟩ => exact ⟨k, (he 1 7 _ 10 (by decide) rfl rfl rfl).symm.trans h1, h2⟩
    | 3, ⟨v', Wa, h1, h2⟩ => exact ⟨v', Wa, (he 2 8 _ 11 (by decide) rfl rfl rfl).symm.trans h1, h2⟩
    | 4, ⟨h0, v', Wa, h1, h2⟩ => exact ⟨(he 3 9 _ 12 (by decide) rfl rfl rfl).symm.trans h0, v', Wa, (he 2 8 _ 11 (by decide) rfl rfl rfl).symm.trans h1, h2⟩
    | 5, ⟨h0, v', Wa, h1, h2⟩ => exact ⟨(he 4 10 _ 13 (by decide) rfl rfl rfl).symm.trans h0, v', Wa, (he 2 8 _ 11 (by decide) rfl rfl rfl).symm.trans h1, h2⟩
    | 6, hj => exact hj
  case reads =>
    intro i o ho hn
    have hrd : ∀ j f W', j < 6 → TBM X bm 6 base (.slice Av zs.length cv) zs pl j f W' → ∀ k t cs, Blk X k t cs → t ≠ 3 → Blk W' k t cs := by
      intro j f W' hj hT' k t cs hb ht
      match j, hj, hT' with
      | 0, _, hT' => exact hb.kept hT'
      | 1, _, ⟨_, hg⟩ => exact hb.kept hg
      | 2, _, ⟨_, _, _, hg⟩ => exact hb.kept hg
      | 3, _, ⟨_, Wa, _, hg, hg5, _⟩ => exact (hb.kept hg).grown hg5 (fun e => own_ne (HAO.out.none_ hg) (hb.kept hg) (Ne.symm ht) e.symm)
      | 4, _, ⟨_, _, Wa, _, hg, hg5, _⟩ => exact (hb.kept hg).grown hg5 (fun e => own_ne (HAO.out.none_ hg) (hb.kept hg) (Ne.symm ht) e.symm)
      | 5, _, ⟨_, _, Wa, _, hg, hg5, _⟩ => exact (hb.kept hg).grown hg5 (fun e => own_ne (HAO.out.none_ hg) (hb.kept hg) (Ne.symm ht) e.symm)
    have h9 : i = 0 ∨ i = 1 ∨ i = 2 ∨ i = 3 ∨ i = 4 ∨ i = 5 := by
      have h1 := (Array.getElem?_eq_some_iff.1 ho).1
      simp only [List.size_toArray, List.length_cons, List.length_nil] at h1
      simp only [List.mem_cons, List.not_mem_nil, or_false] at hn
      omega
    rcases h9 with rfl | rfl | rfl | rfl | rfl | rfl
    · cases ho
      exact ⟨3, _, rfl, rfl, fun j f b W' hj hT' henv => rv_loadPM rfl (henv 0 _ (by simp [Op.operands]) rfl) ((hrd j f W' hj hT' bp _ _ BP.out (by decide)).cell 0)⟩
    · cases ho
      exact ⟨4, _, rfl, rfl, fun j f b W' hj hT' henv => rv_loadPM rfl (henv 0 _ (by simp [Op.operands]) rfl) ((hrd j f W' hj hT' bp _ _ BP.out (by decide)).cell 0)⟩
    · cases ho
      exact ⟨5, _, rfl, rfl, fun j f b W' hj hT' henv => rv_nilM rfl (henv 4 _ (by simp [Op.operands]) rfl)⟩
    · cases ho
      exact ⟨6, _, rfl, rfl, fun j f b W' hj hT' henv => rv_fldM6 rfl (henv 5 _ (by simp [Op.operands]) rfl)⟩
    · cases ho
      exact ⟨7, _, rfl, rfl, fun j f b W' hj hT' henv => rv_loadI rfl (henv 6 _ (by simp [Op.operands]) rfl) (((hrd j f W' hj hT' bm _ _ BT.out (by decide)).cell 6).trans HFI.out)⟩
    · cases ho
      exact ⟨8, _, rfl, rfl, fun j f b W' hj hT' henv => rv_loadR rfl (henv 1 _ (by simp [Op.operands]) rfl) ((hrd j f W' hj hT' bx _ _ BX.out (by decide)).cell 0)⟩
  case steps =>
    intro j i o hj ho
    have h4 : j = 0 ∨ j = 1 ∨ j = 2 ∨ j = 3 ∨ j = 4 ∨ j = 5 := by
      have := (List.getElem?_eq_some_iff.1 hj).1
      simp only [List.length_cons, List.length_nil] at this
      omega
    rcases h4 with rfl | rfl | rfl | rfl | rfl | rfl
    · cases hj
      cases ho
      refine ⟨fun t e => by cases e; rfl, fun b W' hb hT1 henv => ?_⟩
      have hg : X.grownBy W' none := hT1
      refine wp_placeM rfl (henv 8 _ (by simp [Op.operands, Call.operands]) rfl) (place_step (HRX.out.kept hg)) ?_
      rintro en W5' ⟨rfl, hg5⟩
      exact ⟨_, rfl, _, rfl, (act_putM _ (by rw [hb]; show _ < 16; decide)).trans (congrArg (Value.int .i64) HPL.out), only_trans hg hg5⟩
    · cases hj
      cases ho
      refine ⟨fun t e => by cases e; rfl, fun b W' hb hT1 henv => ?_⟩
      obtain ⟨h1, hg⟩ := hT1
      exact wp_buildM rfl h1 ⟨_, rfl, W'.heap.size, act_putM _ (by rw [hb]; show _ < 16; decide), Blk.new _ _ _, only_alloc hg _⟩
    · cases hj
      cases ho
      refine ⟨fun t e => by cases e; rfl, fun b W' hb hT1 henv => ?_⟩
      obtain ⟨k, h1, h3, hg⟩ := hT1
      exact wp_appendM (.tmp 7) (.tmp 10) rfl (henv 7 _ (by simp [Op.operands, Call.operands]) rfl) h1 (HAO.out.none_ hg) h3 HZL.out (Nat.le_trans HBX0.out hg.size) (fun v' Wb ho5 hg5 hv5 => ⟨_, rfl, v', W', act_putM _ (by rw [hb]; show _ < 16; decide), hg, hg5, ho5, hv5⟩)
    · cases hj
      cases ho
      refine ⟨fun t e => by cases e; rfl, fun b W' hb hT1 henv => ?_⟩
      obtain ⟨v', Wa, h1, hrest⟩ := hT1
      exact wp_valM (rv_nilM rfl (henv 3 _ (by simp [Op.operands]) rfl)) ⟨_, rfl, act_putM _ (by rw [hb]; show _ < 16; decide), v', Wa, (act_otherM _ (by decide)).trans h1, hrest⟩
    · cases hj
      cases ho
      refine ⟨fun t e => by cases e; rfl, fun b W' hb hT1 henv => ?_⟩
      obtain ⟨h0, v', Wa, h1, hrest⟩ := hT1
      exact wp_valM (rv_fldM6 rfl h0) ⟨_, rfl, act_putM _ (by rw [hb]; show _ < 16; decide), v', Wa, (act_otherM _ (by decide)).trans h1, hrest⟩
    · cases hj
      cases ho
      refine ⟨fun t e => (by cases e), fun b W' hb hT1 henv => ?_⟩
      obtain ⟨h0, v', Wa, h1, hg, hg5, ho5, hv5⟩ := hT1
      obtain ⟨A5, c5, rfl⟩ := own_shape ho5
      have hbb := (BT.out.kept hg).grown hg5 (fun e => own_ne (HAO.out.none_ hg) (BT.out.kept hg) (by decide) e.symm)
      exact wp_storeM rfl h0 h1 hbb HFI.out ⟨undef, rfl, _, Wa, W', rfl, hg, hg5, ho5, hv5⟩
  case hQ =>
    intro vs W' hv hT4
    obtain ⟨v', Wa, Wb, rfl, hg, hg5, ho5, hv5⟩ := hT4
    obtain ⟨q1, q2, q3, q4, q5, q6, q7⟩ := ta_end (fi := 6) hg hg5 ho5 hv5 HAO.out BT.out (by decide) (by decide)
    have HBT := Lib.hid q1
    rw [Array.setIfInBounds_setIfInBounds] at HBT
    have HA2 := Lib.hid q2
    have HX2 := Lib.hid (q3 _ _ _ BX.out (by decide) (by have := HNE.out; omega))
    have HP2 := Lib.hid (q3 _ _ _ BP.out (by decide) (by have := HNE.out; omega))
    have HR2 := Lib.hid (q3 _ _ _ BR.out (by decide) (by have := HBR.out; have := HBB.out; have := HNE.out; omega))
    have HD2 := Lib.hid (q4 _ _ _ _ HRX.out (by have := HNE.out; omega))
    have HTU := Lib.hid q5
    have HNT := Lib.hid q6
    have HSZ := Lib.hid q7
    simp only [List.foldl_cons, List.foldl_nil, List.setIfInBounds_toArray, List.set_cons_zero, List.set_cons_succ]
    clear hv hg hg5 ho5 hv5 q1 q2 q3 q4 q5 q6 q7
    generalize World.setCell _ _ _ = W9 at *
    have cb := HX2.out.cell 0
    have HT9 : Hid (Turn T W W9) := Lib.hid (HTX.out.plus (HTU.out.weak (fun k hk => (HT1.out k).2 (.inr hk))))
    go_wp2_with fail
    refine (rtype_any HD2.out).mono ?_
    rintro en w1 hL
    clear cb
    rw [HRES.out] at hL
    rcases hL.cases with ⟨x, d, v, rfl, rfl, ⟨cs, rfl, hE⟩, hrd, hg⟩ | ⟨c, y, d, fb, rfl, rfl, hf, hge, hg⟩
    rotate_left
    · have HC : Hid (CloR (encV EdgE) (MmI Edg 6 bm bp bx g base bg ms) (MmJ 6 bm ms) g bs bg pre T b (.flt c y d) W (gaveF fb) w1) := Lib.hid
        ⟨fb, rfl, hf, Nat.le_trans HT9.out.size hge, HT9.out.plus (Turn.of_only hg (fun k e => by injection e with e; subst e; exact (HT1.out _).2 (.inl rfl))), ⟨v', HBT.out.grown hg (fun e => by injection e with e; have := HNE.out; omega)⟩⟩
      clear hL hf hge hg
      go_wp2_with fail
      exact ⟨rfl, HC.out⟩
    · have HI := Lib.hid hE
      obtain rfl := hE
      skip
      have HG1 := Lib.hid hg
      have HD1 := Lib.hid hrd
      have HBR2 := Lib.hid (HR2.out.grown hg (fun e => by injection e with e; have := HBR.out; have := HBB.out; have := HNE.out; omega))
      clear hL hg hrd
      have f0 := HBR2.out.frozen 0
      have c0 := HBR2.out.cell 0
      have f1 := HBR2.out.frozen 1
      have c1 := HBR2.out.cell 1
      go_wp2_with fail
      have hst := only_setCell (g := br) (p := ⟨br, 1, none⟩) (only_setCell (g := br) (p := ⟨br, 0, none⟩) (only_refl w1 _) rfl (.int .i64 x.to)) rfl (.int .i64 x.sh)
      have hbf : Blk ((w1.setCell ⟨br, 0, none⟩ (.int .i64 x.to)).setCell ⟨br, 1, none⟩ (.int .i64 x.sh)) br 67 #[.int .i64 x.to, .int .i64 x.sh] := ((HBR2.out.set_ 0 (.int .i64 x.to)).set_ 1 (.int .i64 x.sh))
      have HST := Lib.hid hst
      clear hst f0 c0 f1 c1
      generalize ((w1.setCell ⟨br, 0, none⟩ (.int .i64 x.to)).setCell ⟨br, 1, none⟩ (.int .i64 x.sh)) = Wf at *
      refine bodyPost_ret (results_cell_row rfl _ _ br 67 #[.int .i64 x.to, .int .i64 x.sh] _ _ rfl hbf Tryz.underlying67 rfl (by kernel_rfl)) rfl ?_
      have n1 := HNE.out
      have n2 := HBR.out
      have n3 := HBB.out
      have n4 := HT9.out.size
      have n5 := HG1.out.size
      have hkeep : ∀ k t cs', Blk W9 k t cs' → k ≠ g → k ≠ br → Blk Wf k t cs' := fun k t cs' hb hk1 hk2 => (hb.grown HG1.out (fun e => hk1 (by injection e))).grown HST.out (fun e => hk2 (by injection e))
      have hown : ∀ k, v'.ownBlock = some k → base ≤ k ∧ k < W9.heap.size := fun k hk => World.ownsRow.lt HA2.out k hk
      have hA1 := HA2.out.kept HG1.out (by
        cases hv : v'.ownBlock with
        | none => exact .inl rfl
        | some u => exact .inr fun e => by injection e with e; have := hown u hv; omega)
      have hA3 := hA1.kept HST.out (.inr fun e => own_ne hA1 HBR2.out (by decide) e)
      have hbr9 := HR2.out.lt
      refine ⟨_, fun k => k = g ∨ k = bm ∨ v'.ownBlock = some k, rfl, ?_, ⟨v', fun _ => Iff.rfl, hkeep bx _ _ HX2.out n1.2.2.2.1 (by omega), hkeep bp _ _ HP2.out n1.2.2.2.2.1 (by omega), hkeep bm _ _ HBT.out n1.2.2.2.2.2.1 (by omega), by rw [ats_snoc, HZS.out, HPL.out]; exact hA3, n1, by have := HST.out.size; omega⟩, ⟨_, rfl, ?_⟩, ?_, ?_⟩
      · exact HD1.out.grown HST.out (fun e => by injection e with e; omega) (fun j e => by injection e with e; subst e; exact ⟨_, _, HBR2.out, by decide⟩)
      · refine edg_ok.more (edg_ok.kept HI.out (KeptS.grown HST.out (fun k hk e => ?_))) (fun k hk _ => ⟨by omega, ?_⟩)
        · injection e with e
          omega
        · rintro (e | e | e)
          · omega
          · omega
          · have := (hown k e).2; omega
      · exact (HT9.out.plus (Turn.of_only HG1.out (fun k e => by injection e with e; subst e; exact (HT1.out _).2 (.inl rfl)))).grown HST.out (fun k e => by injection e with e; omega)
      · rintro k hk hnk (e | e | e)
        · exact hnk ((HT1.out k).2 (.inl e))
        · exact hnk ((HT1.out k).2 (.inr (.inl e)))
        · exact HNT.out k (by have := HTX.out.size; omega) (fun e2 => hnk ((HT1.out k).2 (.inr (.inr e2)))) e
set_option maxRecDepth 100000 in
set_option maxHeartbeats 1000000 in
theorem rclo_Sta {g b bg bm bp bx base : Nat} {ms : Array Value} {bs : List UInt8} {pre : List (Sta × Nat)} {T : Nat → Prop} {W : World} (hi : MmI Sta 7 bm bp bx g base bg ms pre T W) (hr : Rdr W g bs b bg) (hn : pre.length ≤ 1000) :
    Calls Tryz.prog 119 #[.pointer (some ⟨bp, 0, none⟩), .pointer (some ⟨bx, 0, none⟩)] W (CloR (encV StaE) (MmI Sta 7 bm bp bx g base bg ms) (MmJ 7 bm ms) g bs bg pre T b (staR bs b) W) := by
  obtain ⟨res, hres⟩ : ∃ r, staR bs b = r := ⟨_, rfl⟩
  rw [hres]
  have HRES := Lib.hid hres
  clear hres
  obtain ⟨v, h1, h2, h3, h4, h5, h6, h7⟩ := hi
  obtain ⟨zs, hzs⟩ : ∃ zs, ats bg pre = zs := ⟨_, rfl⟩
  have HZL : Hid (zs.length ≤ 1000) := Lib.hid (by rw [← hzs, ats_len]; exact hn)
  rw [hzs] at h5
  have HZS := Lib.hid hzs
  obtain ⟨Av, cv, rfl⟩ := own_shape h5
  have hg0 : W.grownBy (W.alloc (.cells #[.int .i64 0, .slice none 0 0] 74)) none := only_alloc (only_refl _ _) _
  have HT1 := Lib.hid h1
  have BX := Lib.hid (h2.kept hg0)
  have BP := Lib.hid (h3.kept hg0)
  have BT := Lib.hid (h4.kept hg0)
  have HAO := Lib.hid (h5.none_ hg0)
  have BR := Lib.hid (Blk.new W 74 #[.int .i64 0, .slice none 0 0])
  have HRX := Lib.hid (hr.kept hg0)
  have HBX0 : Hid (base ≤ (W.alloc (.cells #[.int .i64 0, .slice none 0 0] 74)).heap.size) := Lib.hid (Nat.le_trans h7 hg0.size)
  have HNE := Lib.hid h6
  have HBB : Hid (base ≤ W.heap.size) := Lib.hid h7
  have HTX : Hid (Turn T W (W.alloc (.cells #[.int .i64 0, .slice none 0 0] 74))) := Lib.hid (Turn.none_ hg0)
  have HFI : Hid ((ms.setIfInBounds 7 (.slice Av zs.length cv))[7]? = some (.slice Av zs.length cv)) := Lib.hid (by have := h6.2.2.2.2.2.2.2.2.2; simp [this])
  obtain ⟨pl, hpl⟩ : ∃ pl : Int, (bg : Int) + (b : Int) = pl := ⟨_, rfl⟩
  have HPL := Lib.hid hpl
  clear h1 h2 h3 h4 h5 h6 h7 hg0 hr hn hzs hpl
  go_enter Tryz.func119, Tryz.ntmps119
  go_upto_region 1 with fail
  generalize (W.alloc (.cells #[.int .i64 0, .slice none 0 0] 74)) = X at *
  generalize hbr : W.heap.size = br at *
  have HBR : Hid (W.heap.size ≤ br) := Lib.hid (Nat.le_of_eq hbr)
  clear hbr
  refine region_chainW (by kernel_rfl) (by kernel_rfl) (by kernel_rfl) [3, 4, 5, 6, 7, 8, 9, 10, 11, 12, 13] (by kernel_rfl) (by kernel_rfl) (by decide)
    [(0, .pointer (some ⟨bp, 0, none⟩)), (1, .pointer (some ⟨bx, 0, none⟩)), (3, .pointer (some ⟨bm, 0, none⟩)), (4, .pointer (some ⟨bm, 0, none⟩)), (5, .pointer (some ⟨bm, 0, none⟩)), (6, .pointer (some ⟨bm, 7, none⟩)), (7, .slice Av zs.length cv), (8, .pointer (some ⟨g, 0, none⟩))]
    ?h0 [6, 7, 8, 9, 10, 11] (by kernel_rfl) (by kernel_rfl) (by decide) (by kernel_rfl) (TBM X bm 7 base (.slice Av zs.length cv) zs pl) ?hT ?reads ?steps (only_drew (only_refl _ _)) ?hQ
  case h0 =>
    intro p hp hn
    simp only [List.mem_cons, List.not_mem_nil, or_false] at hp
    rcases hp with rfl | rfl | rfl | rfl | rfl | rfl | rfl | rfl
    all_goals first | rfl | exact absurd (by dsimp only; decide) hn
  case hT =>
    intro j f g' W' hj he
    match j, hj with
    | 0, hj => exact hj
    | 1, ⟨h1, h2⟩ => exact ⟨(he 0 6 _ 9 (by decide) rfl rfl rfl).symm.trans h1, h2⟩
    | 2, ⟨k, h1, h2⟩ => exact ⟨k, (he 1 7 _ 10 (by decide) rfl rfl rfl).symm.trans h1, h2⟩
    | 3, ⟨v', Wa, h1, h2⟩ => exact ⟨v', Wa, (he 2 8 _ 11 (by decide) rfl rfl rfl).symm.trans h1, h2⟩
    | 4, ⟨h0, v', Wa, h1, h2⟩ => exact ⟨(he 3 9 _ 12 (by decide) rfl rfl rfl).symm.trans h0, v', Wa, (he 2 8 _ 11 (by decide) rfl rfl rfl).symm.trans h1, h2⟩
    | 5, ⟨h0, v', Wa, h1, h2⟩ => exact ⟨(he 4 10 _ 13 (by decide) rfl rfl rfl).symm.trans h0, v', Wa, (he 2 8 _ 11 (by decide) rfl rfl rfl).symm.trans h1, h2⟩
    | 6, hj => exact hj
  case reads =>
    intro i o ho hn
    have hrd : ∀ j f W', j < 6 → TBM X bm 7 base (.slice Av zs.length cv) zs pl j f W' → ∀ k t cs, Blk X k t cs → t ≠ 3 → Blk W' k t cs := by
      intro j f W' hj hT' k t cs hb ht
      match j, hj, hT' with
      | 0, _, hT' => exact hb.kept hT'
      | 1, _, ⟨_, hg⟩ => exact hb.kept hg
      | 2, _, ⟨_, _, _, hg⟩ => exact hb.kept hg
      | 3, _, ⟨_, Wa, _, hg, hg5, _⟩ => exact (hb.kept hg).grown hg5 (fun e => own_ne (HAO.out.none_ hg) (hb.kept hg) (Ne.symm ht) e.symm)
      | 4, _, ⟨_, _, Wa, _, hg, hg5, _⟩ => exact (hb.kept hg).grown hg5 (fun e => own_ne (HAO.out.none_ hg) (hb.kept hg) (Ne.symm ht) e.symm)
      | 5, _, ⟨_, _, Wa, _, hg, hg5, _⟩ => exact (hb.kept hg).grown hg5 (fun e => own_ne (HAO.out.none_ hg) (hb.kept hg) (Ne.symm ht) e.symm)
    have h9 : i = 0 ∨ i = 1 ∨ i = 2 ∨ i = 3 ∨ i = 4 ∨ i = 5 := by
      have h1 := (Array.getElem?_eq_some_iff.1 ho).1
      simp only [List.size_toArray, List.length_cons, List.length_nil] at h1
      simp only [List.mem_cons, List.not_mem_nil, or_false] at hn
      omega
    rcases h9 with rfl | rfl | rfl | rfl | rfl | rfl
    · cases ho
      exact ⟨3, _, rfl, rfl, fun j f b W' hj hT' henv => rv_loadPM rfl (henv 0 _ (by simp [Op.operands]) rfl) ((hrd j f W' hj hT' bp _ _ BP.out (by decide)).cell 0)⟩
    · cases ho
      exact ⟨4, _, rfl, rfl, fun j f b W' hj hT' henv => rv_loadPM rfl (henv 0 _ (by simp [Op.operands]) rfl) ((hrd j f W' hj hT' bp _ _ BP.out (by decide)).cell 0)⟩
    · cases ho
      exact ⟨5, _, rfl, rfl, fun j f b W' hj hT' henv => rv_nilM rfl (henv 4 _ (by simp [Op.operands]) rfl)⟩
    · cases ho
      exact ⟨6, _, rfl, rfl, fun j f b W' hj hT' henv => rv_fldM7 rfl (henv 5 _ (by simp [Op.operands]) rfl)⟩
    · cases ho
      exact ⟨7, _, rfl, rfl, fun j f b W' hj hT' henv => rv_loadI rfl (henv 6 _ (by simp [Op.operands]) rfl) (((hrd j f W' hj hT' bm _ _ BT.out (by decide)).cell 7).trans HFI.out)⟩
    · cases ho
      exact ⟨8, _, rfl, rfl, fun j f b W' hj hT' henv => rv_loadR rfl (henv 1 _ (by simp [Op.operands]) rfl) ((hrd j f W' hj hT' bx _ _ BX.out (by decide)).cell 0)⟩
  case steps =>
    intro j i o hj ho
    have h4 : j = 0 ∨ j = 1 ∨ j = 2 ∨ j = 3 ∨ j = 4 ∨ j = 5 := by
      have := (List.getElem?_eq_some_iff.1 hj).1
      simp only [List.length_cons, List.length_nil] at this
      omega
    rcases h4 with rfl | rfl | rfl | rfl | rfl | rfl
    · cases hj
      cases ho
      refine ⟨fun t e => by cases e; rfl, fun b W' hb hT1 henv => ?_⟩
      have hg : X.grownBy W' none := hT1
      refine wp_placeM rfl (henv 8 _ (by simp [Op.operands, Call.operands]) rfl) (place_step (HRX.out.kept hg)) ?_
      rintro en W5' ⟨rfl, hg5⟩
      exact ⟨_, rfl, _, rfl, (act_putM _ (by rw [hb]; show _ < 16; decide)).trans (congrArg (Value.int .i64) HPL.out), only_trans hg hg5⟩
    · cases hj
      cases ho
      refine ⟨fun t e => by cases e; rfl, fun b W' hb hT1 henv => ?_⟩
      obtain ⟨h1, hg⟩ := hT1
      exact wp_buildM rfl h1 ⟨_, rfl, W'.heap.size, act_putM _ (by rw [hb]; show _ < 16; decide), Blk.new _ _ _, only_alloc hg _⟩
    · cases hj
      cases ho
      refine ⟨fun t e => by cases e; rfl, fun b W' hb hT1 henv => ?_⟩
      obtain ⟨k, h1, h3, hg⟩ := hT1
      exact wp_appendM (.tmp 7) (.tmp 10) rfl (henv 7 _ (by simp [Op.operands, Call.operands]) rfl) h1 (HAO.out.none_ hg) h3 HZL.out (Nat.le_trans HBX0.out hg.size) (fun v' Wb ho5 hg5 hv5 => ⟨_, rfl, v', W', act_putM _ (by rw [hb]; show _ < 16; decide), hg, hg5, ho5, hv5⟩)
    · cases hj
      cases ho
      refine ⟨fun t e => by cases e; rfl, fun b W' hb hT1 henv => ?_⟩
      obtain ⟨v', Wa, h1, hrest⟩ := hT1
      exact wp_valM (rv_nilM rfl (henv 3 _ (by simp [Op.operands]) rfl)) ⟨_, rfl, act_putM _ (by rw [hb]; show _ < 16; decide), v', Wa, (act_otherM _ (by decide)).trans h1, hrest⟩
    · cases hj
      cases ho
      refine ⟨fun t e => by cases e; rfl, fun b W' hb hT1 henv => ?_⟩
      obtain ⟨h0, v', Wa, h1, hrest⟩ := hT1
      exact wp_valM (rv_fldM7 rfl h0) ⟨_, rfl, act_putM _ (by rw [hb]; show _ < 16; decide), v', Wa, (act_otherM _ (by decide)).trans h1, hrest⟩
    · cases hj
      cases ho
      refine ⟨fun t e => (by cases e), fun b W' hb hT1 henv => ?_⟩
      obtain ⟨h0, v', Wa, h1, hg, hg5, ho5, hv5⟩ := hT1
      obtain ⟨A5, c5, rfl⟩ := own_shape ho5
      have hbb := (BT.out.kept hg).grown hg5 (fun e => own_ne (HAO.out.none_ hg) (BT.out.kept hg) (by decide) e.symm)
      exact wp_storeM rfl h0 h1 hbb HFI.out ⟨undef, rfl, _, Wa, W', rfl, hg, hg5, ho5, hv5⟩
  case hQ =>
    intro vs W' hv hT4
    obtain ⟨v', Wa, Wb, rfl, hg, hg5, ho5, hv5⟩ := hT4
    obtain ⟨q1, q2, q3, q4, q5, q6, q7⟩ := ta_end (fi := 7) hg hg5 ho5 hv5 HAO.out BT.out (by decide) (by decide)
    have HBT := Lib.hid q1
    rw [Array.setIfInBounds_setIfInBounds] at HBT
    have HA2 := Lib.hid q2
    have HX2 := Lib.hid (q3 _ _ _ BX.out (by decide) (by have := HNE.out; omega))
    have HP2 := Lib.hid (q3 _ _ _ BP.out (by decide) (by have := HNE.out; omega))
    have HR2 := Lib.hid (q3 _ _ _ BR.out (by decide) (by have := HBR.out; have := HBB.out; have := HNE.out; omega))
    have HD2 := Lib.hid (q4 _ _ _ _ HRX.out (by have := HNE.out; omega))
    have HTU := Lib.hid q5
    have HNT := Lib.hid q6
    have HSZ := Lib.hid q7
    simp only [List.foldl_cons, List.foldl_nil, List.setIfInBounds_toArray, List.set_cons_zero, List.set_cons_succ]
    clear hv hg hg5 ho5 hv5 q1 q2 q3 q4 q5 q6 q7
    generalize World.setCell _ _ _ = W9 at *
    have cb := HX2.out.cell 0
    have HT9 : Hid (Turn T W W9) := Lib.hid (HTX.out.plus (HTU.out.weak (fun k hk => (HT1.out k).2 (.inr hk))))
    go_wp2_with fail
    refine (rstart_any HD2.out).mono ?_
    rintro en w1 hL
    clear cb
    rw [HRES.out] at hL
    rcases hL.cases with ⟨x, d, v, rfl, rfl, ⟨cs, rfl, hE⟩, hrd, hg⟩ | ⟨c, y, d, fb, rfl, rfl, hf, hge, hg⟩
    rotate_left
    · have HC : Hid (CloR (encV StaE) (MmI Sta 7 bm bp bx g base bg ms) (MmJ 7 bm ms) g bs bg pre T b (.flt c y d) W (gaveF fb) w1) := Lib.hid
        ⟨fb, rfl, hf, Nat.le_trans HT9.out.size hge, HT9.out.plus (Turn.of_only hg (fun k e => by injection e with e; subst e; exact (HT1.out _).2 (.inl rfl))), ⟨v', HBT.out.grown hg (fun e => by injection e with e; have := HNE.out; omega)⟩⟩
      clear hL hf hge hg
      go_wp2_with fail
      exact ⟨rfl, HC.out⟩
    · have HI := Lib.hid hE
      obtain ⟨lv, rfl, hlv⟩ := hE
      obtain ⟨A7, c7, rfl, _⟩ := hlv.slice
      have HG1 := Lib.hid hg
      have HD1 := Lib.hid hrd
      have HBR2 := Lib.hid (HR2.out.grown hg (fun e => by injection e with e; have := HBR.out; have := HBB.out; have := HNE.out; omega))
      clear hL hg hrd
      have f0 := HBR2.out.frozen 0
      have c0 := HBR2.out.cell 0
      have f1 := HBR2.out.frozen 1
      have c1 := HBR2.out.cell 1
      go_wp2_with fail
      have hst := only_setCell (g := br) (p := ⟨br, 1, none⟩) (only_setCell (g := br) (p := ⟨br, 0, none⟩) (only_refl w1 _) rfl (.int .i64 x.tpl)) rfl (.slice A7 x.args.length c7)
      have hbf : Blk ((w1.setCell ⟨br, 0, none⟩ (.int .i64 x.tpl)).setCell ⟨br, 1, none⟩ (.slice A7 x.args.length c7)) br 74 #[.int .i64 x.tpl, .slice A7 x.args.length c7] := ((HBR2.out.set_ 0 (.int .i64 x.tpl)).set_ 1 (.slice A7 x.args.length c7))
      have HST := Lib.hid hst
      clear hst f0 c0 f1 c1
      generalize ((w1.setCell ⟨br, 0, none⟩ (.int .i64 x.tpl)).setCell ⟨br, 1, none⟩ (.slice A7 x.args.length c7)) = Wf at *
      refine bodyPost_ret (results_cell_row rfl _ _ br 74 #[.int .i64 x.tpl, .slice A7 x.args.length c7] _ _ rfl hbf Tryz.underlying74 rfl (by kernel_rfl)) rfl ?_
      have n1 := HNE.out
      have n2 := HBR.out
      have n3 := HBB.out
      have n4 := HT9.out.size
      have n5 := HG1.out.size
      have hkeep : ∀ k t cs', Blk W9 k t cs' → k ≠ g → k ≠ br → Blk Wf k t cs' := fun k t cs' hb hk1 hk2 => (hb.grown HG1.out (fun e => hk1 (by injection e))).grown HST.out (fun e => hk2 (by injection e))
      have hown : ∀ k, v'.ownBlock = some k → base ≤ k ∧ k < W9.heap.size := fun k hk => World.ownsRow.lt HA2.out k hk
      have hA1 := HA2.out.kept HG1.out (by
        cases hv : v'.ownBlock with
        | none => exact .inl rfl
        | some u => exact .inr fun e => by injection e with e; have := hown u hv; omega)
      have hA3 := hA1.kept HST.out (.inr fun e => own_ne hA1 HBR2.out (by decide) e)
      have hbr9 := HR2.out.lt
      refine ⟨_, fun k => k = g ∨ k = bm ∨ v'.ownBlock = some k, rfl, ?_, ⟨v', fun _ => Iff.rfl, hkeep bx _ _ HX2.out n1.2.2.2.1 (by omega), hkeep bp _ _ HP2.out n1.2.2.2.2.1 (by omega), hkeep bm _ _ HBT.out n1.2.2.2.2.2.1 (by omega), by rw [ats_snoc, HZS.out, HPL.out]; exact hA3, n1, by have := HST.out.size; omega⟩, ⟨_, rfl, ?_⟩, ?_, ?_⟩
      · exact HD1.out.grown HST.out (fun e => by injection e with e; omega) (fun j e => by injection e with e; subst e; exact ⟨_, _, HBR2.out, by decide⟩)
      · refine sta_ok.more (sta_ok.kept HI.out (KeptS.grown HST.out (fun k hk e => ?_))) (fun k hk _ => ⟨by omega, ?_⟩)
        · injection e with e
          omega
        · rintro (e | e | e)
          · omega
          · omega
          · have := (hown k e).2; omega
      · exact (HT9.out.plus (Turn.of_only HG1.out (fun k e => by injection e with e; subst e; exact (HT1.out _).2 (.inl rfl)))).grown HST.out (fun k e => by injection e with e; omega)
      · rintro k hk hnk (e | e | e)
        · exact hnk ((HT1.out k).2 (.inl e))
        · exact hnk ((HT1.out k).2 (.inr (.inl e)))
        · exact HNT.out k (by have := HTX.out.size; omega) (fun e2 => hnk ((HT1.out k).2 (.inr (.inr e2)))) e
end Go.Proofs.YtohhojbeclbedaaGreatDoor

namespace Go.Proofs.YtohhojbeclbedaaGreatDoor
open Go.RowKit

/-- What reading a section's things leaves: the module's block bm has them, and their places. -/
def SecR {α : Type} (E : Enc α) (sz fi0 fi g bm : Nat) (bs : List UInt8) (bg : Nat) (cs : Array Value) (r : Rs (List (α × Nat))) (w : World) (e : Ending) (w' : World) : Prop := match r with
  | .ok l c => e = .returned (.tuple #[]) ∧ Rdr w' g bs c bg ∧ (∃ v vA, Blk w' bm 28 ((cs.setIfInBounds fi vA).setIfInBounds fi0 v) ∧ ListA E sz (fun k => w.heap.size ≤ k) w' v (l.map Prod.fst) ∧ ListA IntE 1 (fun k => w.heap.size ≤ k) w' vA (ats bg l)) ∧ Turn (fun k => k = g ∨ k = bm) w w'
  | .flt c y _ => ∃ fb, e = gaveF fb ∧ Flt w' fb c ((bg : Int) + (y : Int)) ∧ w.heap.size ≤ fb ∧ Turn (fun k => k = g ∨ k = bm) w w' ∧ (∃ cs', Blk w' bm 28 cs' ∧ cs'.size = cs.size)
/-- What stands in the region, behind the call. -/
structure SecP {α : Type} (E : Enc α) (sz fi g bm bp bx : Nat) (bs : List UInt8) (bg : Nat) (cs : Array Value) (l : List (α × Nat)) (c : Nat) (X : World) (v : Value) (W : World) : Prop where
  rd : Rdr W g bs c bg
  x : Blk W bx 54 #[.pointer (some ⟨g, 0, none⟩)]
  p : Blk W bp 99 #[.pointer (some ⟨bm, 0, none⟩)]
  m : ∃ vA, Blk W bm 28 (cs.setIfInBounds fi vA) ∧ AO X.heap.size W vA (ats bg l)
  ls : ListA E sz (fun k => X.heap.size ≤ k) W v (l.map Prod.fst)
  tu : Turn (fun k => k = g ∨ k = bm) X W
def TS_ {α : Type} (E : Enc α) (sz fi0 fi g bm bp bx : Nat) (bs : List UInt8) (bg : Nat) (cs : Array Value) (r : Rs (List (α × Nat))) (X : World) (s : Nat) : Nat → (Tmp → Value) → World → Prop
  | 0, _, W => X.grownBy W none
  | 1, f, W => ∃ l c v, r = .ok l c ∧ f (s + 3) = v ∧ SecP E sz fi g bm bp bx bs bg cs l c X v W
  | 2, f, W => f (s + 4) = .pointer (some ⟨bm, 0, none⟩) ∧ ∃ l c v, r = .ok l c ∧ f (s + 3) = v ∧ SecP E sz fi g bm bp bx bs bg cs l c X v W
  | 3, f, W => f (s + 5) = .pointer (some ⟨bm, fi0, none⟩) ∧ ∃ l c v, r = .ok l c ∧ f (s + 3) = v ∧ SecP E sz fi g bm bp bx bs bg cs l c X v W
  | 4, _, W => ∃ l c v W1, r = .ok l c ∧ W = W1.setCell ⟨bm, fi0, none⟩ v ∧ SecP E sz fi g bm bp bx bs bg cs l c X v W1
  | _, _, _ => False
section
variable {b : Act} {o : Oper} {t : Tmp} {W : World} {K : Act → World → Prop} {Q : Exit → Act → World → Prop}
theorem wp_rall_Nod {t1 t2 : Tmp} {c1 c2 : Value} {lo hi : Int} {ts : Array TypeId} {R : Ending → World → Prop} (ho : o.op = .call { callee := .value (.func 108), args := #[.tmp t1, .const (.int .i64 lo), .const (.int .i64 hi), .tmp t2], argTypes := ts })
    (h1 : b.eval (.tmp t1) = c1) (h2 : b.eval (.tmp t2) = c2) (hc : Calls Tryz.prog 108 #[c1, .int .i64 lo, .int .i64 hi, c2] W R) (hR : ∀ e W', R e W' → (∃ x, e = .returned x ∧ K (b.put o.dst x) W') ∨ (∃ ch, e = .panicked ch ∧ Q (.panic ch) b W')) : o.wp Tryz.prog b W K Q := by
  have h1' : b.tmps[t1]?.getD undef = c1 := by simpa [Act.eval] using h1
  have h2' : b.tmps[t2]?.getD undef = c2 := by simpa [Act.eval] using h2
  obtain ⟨dst, op, type, pos, after, guard⟩ := o
  dsimp only at ho
  subst ho
  have hrun : ∀ args W, (callFunc 108 args).run Tryz.prog W = .ok (.enter 108 args) W := enters_of Tryz.func108 (by kernel_rfl) rfl
  have hr : (execOp b.eval ⟨dst, .call { callee := .value (.func 108), args := #[.tmp t1, .const (.int .i64 lo), .const (.int .i64 hi), .tmp t2], argTypes := ts }, type, pos, after, guard⟩).run Tryz.prog W = .ok (.enter 108 #[c1, .int .i64 lo, .int .i64 hi, c2]) W := by
    simp [execOp, resolve, Deferred.ofValue, invoke, Act.eval, h1', h2', hrun]
  unfold Oper.wp
  rw [hr, Oper.upon_enter]
  refine hc.mono fun e W' h => ?_
  rcases hR e W' h with ⟨x, rfl, hk⟩ | ⟨ch, rfl, hq⟩
  · exact hk
  · exact hq
theorem rv_mk_Nod {t1 t2 : Tmp} {p q : Option Addr} (ho : o.op = .makeFunc (.func 109) #[] #[.tmp t1, .tmp t2]) (h1 : b.eval (.tmp t1) = .pointer p) (h2 : b.eval (.tmp t2) = .pointer q) : (execOp b.eval o).run Tryz.prog W = .ok (.value (.func (.func 109) #[] #[.pointer p, .pointer q])) W := by
  obtain ⟨dst, op, type, pos, after, guard⟩ := o
  dsimp only at ho
  subst ho
  simp only [execOp, List.map_toArray, List.map_cons, List.map_nil, h1, h2]
  rfl
theorem rv_fld0_Nod {g : Nat} (ho : o.op = .fieldAddr 28 (.tmp t) 0) (h1 : b.eval (.tmp t) = .pointer (some ⟨g, 0, none⟩)) : (execOp b.eval o).run Tryz.prog W = .ok (.value (.pointer (some ⟨g, 0, none⟩))) W := by
  obtain ⟨dst, op, type, pos, after, guard⟩ := o
  dsimp only at ho
  subst ho
  simp only [execOp, h1]
  go_simp
theorem wp_store_Nod {u : Tmp} {g fi : Nat} {ty : TypeId} {cs : Array Value} {A0 A : Option Addr} {n0 c0 n c : Nat} (ho : o.op = .store 22 (.tmp t) (.tmp u)) (ht : b.eval (.tmp t) = .pointer (some ⟨g, fi, none⟩)) (h : b.eval (.tmp u) = .slice A n c)
    (hb : Blk W g ty cs) (hc : cs[fi]? = some (.slice A0 n0 c0)) (hK : K (b.put o.dst undef) (W.setCell ⟨g, fi, none⟩ (.slice A n c))) : o.wp Tryz.prog b W K Q := by
  obtain ⟨dst, op, type, pos, after, guard⟩ := o
  dsimp only at ho
  subst ho
  have c5 : W.cell? ⟨g, fi, none⟩ = some (.slice A0 n0 c0) := (hb.cell fi).trans hc
  have f5 := hb.frozen fi
  unfold Oper.wp
  simp only [execOp, h, ht]
  go_simp
  exact hK
theorem wp_rall_Tpl {t1 t2 : Tmp} {c1 c2 : Value} {lo hi : Int} {ts : Array TypeId} {R : Ending → World → Prop} (ho : o.op = .call { callee := .value (.func 112), args := #[.tmp t1, .const (.int .i64 lo), .const (.int .i64 hi), .tmp t2], argTypes := ts })
    (h1 : b.eval (.tmp t1) = c1) (h2 : b.eval (.tmp t2) = c2) (hc : Calls Tryz.prog 112 #[c1, .int .i64 lo, .int .i64 hi, c2] W R) (hR : ∀ e W', R e W' → (∃ x, e = .returned x ∧ K (b.put o.dst x) W') ∨ (∃ ch, e = .panicked ch ∧ Q (.panic ch) b W')) : o.wp Tryz.prog b W K Q := by
  have h1' : b.tmps[t1]?.getD undef = c1 := by simpa [Act.eval] using h1
  have h2' : b.tmps[t2]?.getD undef = c2 := by simpa [Act.eval] using h2
  obtain ⟨dst, op, type, pos, after, guard⟩ := o
  dsimp only at ho
  subst ho
  have hrun : ∀ args W, (callFunc 112 args).run Tryz.prog W = .ok (.enter 112 args) W := enters_of Tryz.func112 (by kernel_rfl) rfl
  have hr : (execOp b.eval ⟨dst, .call { callee := .value (.func 112), args := #[.tmp t1, .const (.int .i64 lo), .const (.int .i64 hi), .tmp t2], argTypes := ts }, type, pos, after, guard⟩).run Tryz.prog W = .ok (.enter 112 #[c1, .int .i64 lo, .int .i64 hi, c2]) W := by
    simp [execOp, resolve, Deferred.ofValue, invoke, Act.eval, h1', h2', hrun]
  unfold Oper.wp
  rw [hr, Oper.upon_enter]
  refine hc.mono fun e W' h => ?_
  rcases hR e W' h with ⟨x, rfl, hk⟩ | ⟨ch, rfl, hq⟩
  · exact hk
  · exact hq
theorem rv_mk_Tpl {t1 t2 : Tmp} {p q : Option Addr} (ho : o.op = .makeFunc (.func 113) #[] #[.tmp t1, .tmp t2]) (h1 : b.eval (.tmp t1) = .pointer p) (h2 : b.eval (.tmp t2) = .pointer q) : (execOp b.eval o).run Tryz.prog W = .ok (.value (.func (.func 113) #[] #[.pointer p, .pointer q])) W := by
  obtain ⟨dst, op, type, pos, after, guard⟩ := o
  dsimp only at ho
  subst ho
  simp only [execOp, List.map_toArray, List.map_cons, List.map_nil, h1, h2]
  rfl
theorem rv_fld0_Tpl {g : Nat} (ho : o.op = .fieldAddr 28 (.tmp t) 1) (h1 : b.eval (.tmp t) = .pointer (some ⟨g, 0, none⟩)) : (execOp b.eval o).run Tryz.prog W = .ok (.value (.pointer (some ⟨g, 1, none⟩))) W := by
  obtain ⟨dst, op, type, pos, after, guard⟩ := o
  dsimp only at ho
  subst ho
  simp only [execOp, h1]
  go_simp
theorem wp_store_Tpl {u : Tmp} {g fi : Nat} {ty : TypeId} {cs : Array Value} {A0 A : Option Addr} {n0 c0 n c : Nat} (ho : o.op = .store 23 (.tmp t) (.tmp u)) (ht : b.eval (.tmp t) = .pointer (some ⟨g, fi, none⟩)) (h : b.eval (.tmp u) = .slice A n c)
    (hb : Blk W g ty cs) (hc : cs[fi]? = some (.slice A0 n0 c0)) (hK : K (b.put o.dst undef) (W.setCell ⟨g, fi, none⟩ (.slice A n c))) : o.wp Tryz.prog b W K Q := by
  obtain ⟨dst, op, type, pos, after, guard⟩ := o
  dsimp only at ho
  subst ho
  have c5 : W.cell? ⟨g, fi, none⟩ = some (.slice A0 n0 c0) := (hb.cell fi).trans hc
  have f5 := hb.frozen fi
  unfold Oper.wp
  simp only [execOp, h, ht]
  go_simp
  exact hK
theorem wp_rall_Typ {t1 t2 : Tmp} {c1 c2 : Value} {lo hi : Int} {ts : Array TypeId} {R : Ending → World → Prop} (ho : o.op = .call { callee := .value (.func 115), args := #[.tmp t1, .const (.int .i64 lo), .const (.int .i64 hi), .tmp t2], argTypes := ts })
    (h1 : b.eval (.tmp t1) = c1) (h2 : b.eval (.tmp t2) = c2) (hc : Calls Tryz.prog 115 #[c1, .int .i64 lo, .int .i64 hi, c2] W R) (hR : ∀ e W', R e W' → (∃ x, e = .returned x ∧ K (b.put o.dst x) W') ∨ (∃ ch, e = .panicked ch ∧ Q (.panic ch) b W')) : o.wp Tryz.prog b W K Q := by
  have h1' : b.tmps[t1]?.getD undef = c1 := by simpa [Act.eval] using h1
  have h2' : b.tmps[t2]?.getD undef = c2 := by simpa [Act.eval] using h2
  obtain ⟨dst, op, type, pos, after, guard⟩ := o
  dsimp only at ho
  subst ho
  have hrun : ∀ args W, (callFunc 115 args).run Tryz.prog W = .ok (.enter 115 args) W := enters_of Tryz.func115 (by kernel_rfl) rfl
  have hr : (execOp b.eval ⟨dst, .call { callee := .value (.func 115), args := #[.tmp t1, .const (.int .i64 lo), .const (.int .i64 hi), .tmp t2], argTypes := ts }, type, pos, after, guard⟩).run Tryz.prog W = .ok (.enter 115 #[c1, .int .i64 lo, .int .i64 hi, c2]) W := by
    simp [execOp, resolve, Deferred.ofValue, invoke, Act.eval, h1', h2', hrun]
  unfold Oper.wp
  rw [hr, Oper.upon_enter]
  refine hc.mono fun e W' h => ?_
  rcases hR e W' h with ⟨x, rfl, hk⟩ | ⟨ch, rfl, hq⟩
  · exact hk
  · exact hq
theorem rv_mk_Typ {t1 t2 : Tmp} {p q : Option Addr} (ho : o.op = .makeFunc (.func 116) #[] #[.tmp t1, .tmp t2]) (h1 : b.eval (.tmp t1) = .pointer p) (h2 : b.eval (.tmp t2) = .pointer q) : (execOp b.eval o).run Tryz.prog W = .ok (.value (.func (.func 116) #[] #[.pointer p, .pointer q])) W := by
  obtain ⟨dst, op, type, pos, after, guard⟩ := o
  dsimp only at ho
  subst ho
  simp only [execOp, List.map_toArray, List.map_cons, List.map_nil, h1, h2]
  rfl
theorem rv_fld0_Typ {g : Nat} (ho : o.op = .fieldAddr 28 (.tmp t) 2) (h1 : b.eval (.tmp t) = .pointer (some ⟨g, 0, none⟩)) : (execOp b.eval o).run Tryz.prog W = .ok (.value (.pointer (some ⟨g, 2, none⟩))) W := by
  obtain ⟨dst, op, type, pos, after, guard⟩ := o
  dsimp only at ho
  subst ho
  simp only [execOp, h1]
  go_simp
theorem wp_store_Typ {u : Tmp} {g fi : Nat} {ty : TypeId} {cs : Array Value} {A0 A : Option Addr} {n0 c0 n c : Nat} (ho : o.op = .store 24 (.tmp t) (.tmp u)) (ht : b.eval (.tmp t) = .pointer (some ⟨g, fi, none⟩)) (h : b.eval (.tmp u) = .slice A n c)
    (hb : Blk W g ty cs) (hc : cs[fi]? = some (.slice A0 n0 c0)) (hK : K (b.put o.dst undef) (W.setCell ⟨g, fi, none⟩ (.slice A n c))) : o.wp Tryz.prog b W K Q := by
  obtain ⟨dst, op, type, pos, after, guard⟩ := o
  dsimp only at ho
  subst ho
  have c5 : W.cell? ⟨g, fi, none⟩ = some (.slice A0 n0 c0) := (hb.cell fi).trans hc
  have f5 := hb.frozen fi
  unfold Oper.wp
  simp only [execOp, h, ht]
  go_simp
  exact hK
theorem wp_rall_Sta {t1 t2 : Tmp} {c1 c2 : Value} {lo hi : Int} {ts : Array TypeId} {R : Ending → World → Prop} (ho : o.op = .call { callee := .value (.func 118), args := #[.tmp t1, .const (.int .i64 lo), .const (.int .i64 hi), .tmp t2], argTypes := ts })
    (h1 : b.eval (.tmp t1) = c1) (h2 : b.eval (.tmp t2) = c2) (hc : Calls Tryz.prog 118 #[c1, .int .i64 lo, .int .i64 hi, c2] W R) (hR : ∀ e W', R e W' → (∃ x, e = .returned x ∧ K (b.put o.dst x) W') ∨ (∃ ch, e = .panicked ch ∧ Q (.panic ch) b W')) : o.wp Tryz.prog b W K Q := by
  have h1' : b.tmps[t1]?.getD undef = c1 := by simpa [Act.eval] using h1
  have h2' : b.tmps[t2]?.getD undef = c2 := by simpa [Act.eval] using h2
  obtain ⟨dst, op, type, pos, after, guard⟩ := o
  dsimp only at ho
  subst ho
  have hrun : ∀ args W, (callFunc 118 args).run Tryz.prog W = .ok (.enter 118 args) W := enters_of Tryz.func118 (by kernel_rfl) rfl
  have hr : (execOp b.eval ⟨dst, .call { callee := .value (.func 118), args := #[.tmp t1, .const (.int .i64 lo), .const (.int .i64 hi), .tmp t2], argTypes := ts }, type, pos, after, guard⟩).run Tryz.prog W = .ok (.enter 118 #[c1, .int .i64 lo, .int .i64 hi, c2]) W := by
    simp [execOp, resolve, Deferred.ofValue, invoke, Act.eval, h1', h2', hrun]
  unfold Oper.wp
  rw [hr, Oper.upon_enter]
  refine hc.mono fun e W' h => ?_
  rcases hR e W' h with ⟨x, rfl, hk⟩ | ⟨ch, rfl, hq⟩
  · exact hk
  · exact hq
theorem rv_mk_Sta {t1 t2 : Tmp} {p q : Option Addr} (ho : o.op = .makeFunc (.func 119) #[] #[.tmp t1, .tmp t2]) (h1 : b.eval (.tmp t1) = .pointer p) (h2 : b.eval (.tmp t2) = .pointer q) : (execOp b.eval o).run Tryz.prog W = .ok (.value (.func (.func 119) #[] #[.pointer p, .pointer q])) W := by
  obtain ⟨dst, op, type, pos, after, guard⟩ := o
  dsimp only at ho
  subst ho
  simp only [execOp, List.map_toArray, List.map_cons, List.map_nil, h1, h2]
  rfl
theorem rv_fld0_Sta {g : Nat} (ho : o.op = .fieldAddr 28 (.tmp t) 3) (h1 : b.eval (.tmp t) = .pointer (some ⟨g, 0, none⟩)) : (execOp b.eval o).run Tryz.prog W = .ok (.value (.pointer (some ⟨g, 3, none⟩))) W := by
  obtain ⟨dst, op, type, pos, after, guard⟩ := o
  dsimp only at ho
  subst ho
  simp only [execOp, h1]
  go_simp
theorem wp_store_Sta {u : Tmp} {g fi : Nat} {ty : TypeId} {cs : Array Value} {A0 A : Option Addr} {n0 c0 n c : Nat} (ho : o.op = .store 25 (.tmp t) (.tmp u)) (ht : b.eval (.tmp t) = .pointer (some ⟨g, fi, none⟩)) (h : b.eval (.tmp u) = .slice A n c)
    (hb : Blk W g ty cs) (hc : cs[fi]? = some (.slice A0 n0 c0)) (hK : K (b.put o.dst undef) (W.setCell ⟨g, fi, none⟩ (.slice A n c))) : o.wp Tryz.prog b W K Q := by
  obtain ⟨dst, op, type, pos, after, guard⟩ := o
  dsimp only at ho
  subst ho
  have c5 : W.cell? ⟨g, fi, none⟩ = some (.slice A0 n0 c0) := (hb.cell fi).trans hc
  have f5 := hb.frozen fi
  unfold Oper.wp
  simp only [execOp, h, ht]
  go_simp
  exact hK
end
end Go.Proofs.YtohhojbeclbedaaGreatDoor

namespace Go.Proofs.YtohhojbeclbedaaGreatDoor
open Go.RowKit

theorem AO.low {base base' : Nat} {W : World} {v : Value} {zs : List Int} (h : AO base W v zs) (hb : base' ≤ base) : AO base' W v zs := by
  refine ⟨h.1, ?_⟩
  rcases h.2 with h0 | ⟨g, cap, cur, e, hb', rest⟩
  · exact .inl h0
  · exact .inr ⟨g, cap, cur, e, Nat.le_trans hb hb', rest⟩
theorem set_same {cs : Array Value} {i : Nat} {v : Value} (h : cs[i]? = some v) : cs.setIfInBounds i v = cs := by
  apply Array.ext_getElem?
  intro j
  rw [Array.getElem?_setIfInBounds]
  split
  · rename_i e
    subst e
    obtain ⟨hi, hv⟩ := Array.getElem?_eq_some_iff.1 h
    rw [h]
    simp [hi]
  · rfl
/-- What stands ahead of such a region. -/
structure SecX (g bm bp bx : Nat) (bs : List UInt8) (bg a : Nat) (cs : Array Value) (X : World) : Prop where
  rd : Rdr X g bs a bg
  x : Blk X bx 54 #[.pointer (some ⟨g, 0, none⟩)]
  p : Blk X bp 99 #[.pointer (some ⟨bm, 0, none⟩)]
  m : Blk X bm 28 cs
  n1 : bx ≠ g
  n2 : bp ≠ g
  n3 : bm ≠ g
  n4 : bx ≠ bm
  n5 : bp ≠ bm
/-- What the list's reading leaves. -/
theorem sec_of {α : Type} {E : Enc α} {sz fi g bm bp bx bg : Nat} {bs : List UInt8} {cs : Array Value} {X W W' : World} {r : Rs (List (α × Nat))} {e : Ending} (hE : E.Ok sz) (h0 : 0 < sz) (hg : X.grownBy W none)
    (h : LstR E sz (MmI α fi bm bp bx g W.heap.size bg cs) (MmJ fi bm cs) g bs bg (fun k => k = g ∨ k = bm ∨ (Value.slice none 0 0).ownBlock = some k) r W e W') :
    (∃ l c v, r = .ok l c ∧ e = .returned v ∧ SecP E sz fi g bm bp bx bs bg cs l c X v W') ∨ (∃ c y d fb, r = .flt c y d ∧ e = gaveF fb ∧ Flt W' fb c ((bg : Int) + (y : Int)) ∧ X.heap.size ≤ fb ∧ Turn (fun k => k = g ∨ k = bm) X W' ∧ (∃ cs', Blk W' bm 28 cs' ∧ cs'.size = cs.size)) := by
  have hT : ∀ k, (k = g ∨ k = bm ∨ (Value.slice none 0 0).ownBlock = some k) → (k = g ∨ k = bm) := fun k hk => by
    rcases hk with e | e | e
    · exact .inl e
    · exact .inr e
    · cases e
  cases r with
  | ok l c =>
    obtain ⟨v, T', e1, e2, ⟨vA, _, k2, k3, k4, k5, _, _⟩, e4, e5, _⟩ := h
    exact .inl ⟨l, c, v, rfl, e1, e2, k2, k3, ⟨vA, k4, k5.low hg.size⟩, e4.more hE h0 (fun b hb _ => Nat.le_trans hg.size hb.1), (Turn.none_ hg).plus (e5.weak hT)⟩
  | flt c y d =>
    obtain ⟨fb, e1, e2, e3, e4, v9, e5⟩ := h
    exact .inr ⟨c, y, d, fb, rfl, e1, e2, Nat.le_trans hg.size e3, (Turn.none_ hg).plus (e4.weak hT), _, e5, by simp⟩
/-- And behind the store. -/
theorem sec_end {α : Type} {E : Enc α} {sz fi fi0 g bm bp bx bg a c : Nat} {bs : List UInt8} {cs : Array Value} {X W : World} {l : List (α × Nat)} {v : Value} (hE : E.Ok sz) (hX : SecX g bm bp bx bs bg a cs X) (h : SecP E sz fi g bm bp bx bs bg cs l c X v W) :
    Rdr (W.setCell ⟨bm, fi0, none⟩ v) g bs c bg ∧ Blk (W.setCell ⟨bm, fi0, none⟩ v) bx 54 #[.pointer (some ⟨g, 0, none⟩)] ∧ Blk (W.setCell ⟨bm, fi0, none⟩ v) bp 99 #[.pointer (some ⟨bm, 0, none⟩)] ∧
    (∃ vA, Blk (W.setCell ⟨bm, fi0, none⟩ v) bm 28 ((cs.setIfInBounds fi vA).setIfInBounds fi0 v) ∧ ListA IntE 1 (fun k => X.heap.size ≤ k) (W.setCell ⟨bm, fi0, none⟩ v) vA (ats bg l)) ∧
    ListA E sz (fun k => X.heap.size ≤ k) (W.setCell ⟨bm, fi0, none⟩ v) v (l.map Prod.fst) ∧ Turn (fun k => k = g ∨ k = bm) X (W.setCell ⟨bm, fi0, none⟩ v) := by
  obtain ⟨vA, hm, ha⟩ := h.m
  have hs : W.grownBy (W.setCell ⟨bm, fi0, none⟩ v) (some bm) := only_setCell (only_refl _ _) rfl _
  have hbm := hX.m.lt
  refine ⟨h.rd.grown hs (fun e => by injection e with e; exact hX.n3 e.symm) (fun j e => by injection e with e; subst e; exact ⟨_, _, hm, by decide⟩), h.x.grown hs (fun e => hX.n4 (by injection e)), h.p.grown hs (fun e => hX.n5 (by injection e)), ⟨vA, hm.set_ fi0 v, ?_⟩, ?_, ?_⟩
  · exact (ha.kept hs (.inr fun e => own_ne ha hm (by decide) e)).list (fun k hk => (World.ownsRow.lt ha k hk).1)
  · exact h.ls.kept hE (KeptS.grown hs (fun b hb e => by injection e with e; omega))
  · exact h.tu.plus (Turn.of_only hs (fun k e => by injection e with e; exact .inr e.symm))
set_option maxRecDepth 100000 in
set_option maxHeartbeats 1000000 in
theorem rsec_1 {g a bg bm : Nat} {bs : List UInt8} {w : World} {cs : Array Value} (h : Rdr w g bs a bg) (hm : Blk w bm 28 cs) (hc : cs[4]? = some (.slice none 0 0) ∧ cs[0]? = some (.slice none 0 0) ∧ 4 < cs.size) :
    Calls Tryz.prog 43 #[.pointer (some ⟨g, 0, none⟩), .pointer (some ⟨bm, 0, none⟩)] w (SecR NodE 6 0 4 g bm bs bg cs (lstR nodR 0 64 bs a) w) := by
  obtain ⟨res, hres⟩ : ∃ r, lstR nodR 0 64 bs a = r := ⟨_, rfl⟩
  rw [hres]
  have HRES := Lib.hid hres
  clear hres
  obtain ⟨cg, hbg⟩ := h.blk
  have hg0 : w.grownBy ((w.alloc (.cells #[.pointer (some ⟨g, 0, none⟩)] 54)).alloc (.cells #[.pointer (some ⟨bm, 0, none⟩)] 99)) none := only_alloc (only_alloc (only_refl _ _) _) _
  have HX : Hid (SecX g bm (w.heap.size + 1) w.heap.size bs bg a cs ((w.alloc (.cells #[.pointer (some ⟨g, 0, none⟩)] 54)).alloc (.cells #[.pointer (some ⟨bm, 0, none⟩)] 99))) := Lib.hid ⟨h.kept hg0, (Blk.new _ _ _).alloc _, blk_new_at (by simp) _ _, hm.kept hg0, by have := h.lt; omega, by have := h.lt; omega, Blk.ne_ hm hbg (by decide), by have := hm.lt; omega, by have := hm.lt; omega⟩
  have HG0 := Lib.hid hg0
  have HC := Lib.hid hc
  have HPAN : Hid (∀ c y d fb W5, res = .flt c y d → Flt W5 fb c ((bg : Int) + (y : Int)) → (((w.alloc (.cells #[.pointer (some ⟨g, 0, none⟩)] 54)).alloc (.cells #[.pointer (some ⟨bm, 0, none⟩)] 99))).heap.size ≤ fb → Turn (fun k => k = g ∨ k = bm) ((w.alloc (.cells #[.pointer (some ⟨g, 0, none⟩)] 54)).alloc (.cells #[.pointer (some ⟨bm, 0, none⟩)] 99)) W5 → (∃ cs', Blk W5 bm 28 cs' ∧ cs'.size = cs.size) → SecR NodE 6 0 4 g bm bs bg cs res w (gaveF fb) W5) := Lib.hid fun c y d fb W5 h1 h2 h3 h4 h5 => by
    rw [h1]
    exact ⟨fb, rfl, h2, Nat.le_trans hg0.size h3, (Turn.none_ hg0).plus h4, h5⟩
  clear h hm hc hg0 hbg
  go_enter Tryz.func43, Tryz.ntmps43
  go_upto_region 1 with fail
  generalize ((w.alloc (.cells #[.pointer (some ⟨g, 0, none⟩)] 54)).alloc (.cells #[.pointer (some ⟨bm, 0, none⟩)] 99)) = X at *
  generalize hbp : w.heap.size + 1 = bp at *
  generalize hbx : w.heap.size = bx at *
  clear hbp hbx
  refine region_chainD (by kernel_rfl) (by kernel_rfl) (by kernel_rfl) [4, 5, 6, 7, 8, 9] (by kernel_rfl) (by kernel_rfl) (by decide)
    [(2, .pointer (some ⟨bx, 0, none⟩)), (3, .pointer (some ⟨bp, 0, none⟩)), (4, .pointer (some ⟨bm, 0, none⟩)), (5, .pointer (some ⟨g, 0, none⟩)), (6, .func (.func 109) #[] #[.pointer (some ⟨bp, 0, none⟩), .pointer (some ⟨bx, 0, none⟩)])]
    ?h0 [3, 4, 5, 6] (by kernel_rfl) (by kernel_rfl) (by decide) (by kernel_rfl) (TS_ NodE 6 0 4 g bm bp bx bs bg cs res X 4) ?hT ?reads ?steps (only_drew (only_refl _ _)) ?hQ
  case h0 =>
    intro p hp hn
    simp only [List.mem_cons, List.not_mem_nil, or_false] at hp
    rcases hp with rfl | rfl | rfl | rfl | rfl
    all_goals first | rfl | exact absurd (by dsimp only; decide) hn
  case hT =>
    intro j f g' W' hj he
    match j, hj with
    | 0, hj => exact hj
    | 1, ⟨l, c, v, h0, h1, h2⟩ => exact ⟨l, c, v, h0, (he 0 3 _ 7 (by decide) rfl rfl rfl).symm.trans h1, h2⟩
    | 2, ⟨h9, l, c, v, h0, h1, h2⟩ => exact ⟨(he 1 4 _ 8 (by decide) rfl rfl rfl).symm.trans h9, l, c, v, h0, (he 0 3 _ 7 (by decide) rfl rfl rfl).symm.trans h1, h2⟩
    | 3, ⟨h9, l, c, v, h0, h1, h2⟩ => exact ⟨(he 2 5 _ 9 (by decide) rfl rfl rfl).symm.trans h9, l, c, v, h0, (he 0 3 _ 7 (by decide) rfl rfl rfl).symm.trans h1, h2⟩
    | 4, hj => exact hj
  case reads =>
    intro i o ho hn
    have hrd : ∀ j f W', j < 4 → TS_ NodE 6 0 4 g bm bp bx bs bg cs res X 4 j f W' → Blk W' bx 54 #[.pointer (some ⟨g, 0, none⟩)] ∧ Blk W' bp 99 #[.pointer (some ⟨bm, 0, none⟩)] := by
      intro j f W' hj hT'
      match j, hj, hT' with
      | 0, _, hT' => exact ⟨HX.out.x.kept hT', HX.out.p.kept hT'⟩
      | 1, _, ⟨_, _, _, _, _, h⟩ => exact ⟨h.x, h.p⟩
      | 2, _, ⟨_, _, _, _, _, _, h⟩ => exact ⟨h.x, h.p⟩
      | 3, _, ⟨_, _, _, _, _, _, h⟩ => exact ⟨h.x, h.p⟩
    have h9 : i = 0 ∨ i = 1 ∨ i = 2 := by
      have h1 := (Array.getElem?_eq_some_iff.1 ho).1
      simp only [List.size_toArray, List.length_cons, List.length_nil] at h1
      simp only [List.mem_cons, List.not_mem_nil, or_false] at hn
      omega
    rcases h9 with rfl | rfl | rfl
    · cases ho
      exact ⟨4, _, rfl, rfl, fun j f b W' hj hT' henv => rv_loadPM rfl (henv 3 _ (by simp [Op.operands]) rfl) ((hrd j f W' hj hT').2.cell 0)⟩
    · cases ho
      exact ⟨5, _, rfl, rfl, fun j f b W' hj hT' henv => rv_loadR rfl (henv 2 _ (by simp [Op.operands]) rfl) ((hrd j f W' hj hT').1.cell 0)⟩
    · cases ho
      exact ⟨6, _, rfl, rfl, fun j f b W' hj hT' henv => rv_mk_Nod rfl (henv 3 _ (by simp [Op.operands]) rfl) (henv 2 _ (by simp [Op.operands]) rfl)⟩
  case steps =>
    intro j i o hj ho
    have h4 : j = 0 ∨ j = 1 ∨ j = 2 ∨ j = 3 := by
      have := (List.getElem?_eq_some_iff.1 hj).1
      simp only [List.length_cons, List.length_nil] at this
      omega
    rcases h4 with rfl | rfl | rfl | rfl
    · cases hj
      cases ho
      refine ⟨fun t e => by cases e; rfl, fun b W' hb hdf hT1 henv => ?_⟩
      have hg : X.grownBy W' none := hT1
      have hx := HX.out
      have hl := (hx.x.kept hg).lt
      have hl2 := (hx.p.kept hg).lt
      have hl3 := (hx.m.kept hg).lt
      refine wp_rall_Nod rfl (henv 5 _ (by simp [Op.operands, Call.operands]) rfl) (henv 6 _ (by simp [Op.operands, Call.operands]) rfl) (rall_Nod (hx.rd.kept hg) _ (MmI Nod 4 bm bp bx g W'.heap.size bg cs) (fun k => k = g ∨ k = bm ∨ (Value.slice none 0 0).ownBlock = some k)
        ⟨.slice none 0 0, fun _ => Iff.rfl, hx.x.kept hg, hx.p.kept hg, by rw [set_same HC.out.1]; exact hx.m.kept hg, AO.nil_ _ _, ⟨hl, hl2, hl3, hx.n1, hx.n2, hx.n3, hx.n4, hx.n5, (hx.rd.kept hg).lt, HC.out.2.2⟩, Nat.le_refl _⟩ mmi_ok 0 64 ⟨by omega, by omega⟩ (by omega) (fun pre T b W hi hr _ hn => rclo_Nod hi hr hn)) ?_
      intro e W5 hL
      rw [HRES.out] at hL
      rcases sec_of nod_ok (by decide) hg hL with ⟨l, c, v, h1, rfl, h3⟩ | ⟨c, y, d, fb, h1, rfl, h3, h4, h5, h6⟩
      · exact .inl ⟨_, rfl, _, rfl, l, c, v, h1, act_putM _ (by rw [hb]; show _ < 10; decide), h3⟩
      · exact .inr ⟨_, rfl, hdf, HPAN.out c y d fb W5 h1 h3 h4 h5 h6⟩
    · cases hj
      cases ho
      refine ⟨fun t e => by cases e; rfl, fun b W' hb hdf hT1 henv => ?_⟩
      obtain ⟨l, c, v, h0, h1, h2⟩ := hT1
      exact wp_valM (rv_nilM rfl (henv 4 _ (by simp [Op.operands]) rfl)) ⟨_, rfl, act_putM _ (by rw [hb]; show _ < 10; decide), l, c, v, h0, (act_otherM _ (by decide)).trans h1, h2⟩
    · cases hj
      cases ho
      refine ⟨fun t e => by cases e; rfl, fun b W' hb hdf hT1 henv => ?_⟩
      obtain ⟨h9, l, c, v, h0, h1, h2⟩ := hT1
      exact wp_valM (rv_fld0_Nod rfl h9) ⟨_, rfl, act_putM _ (by rw [hb]; show _ < 10; decide), l, c, v, h0, (act_otherM _ (by decide)).trans h1, h2⟩
    · cases hj
      cases ho
      refine ⟨fun t e => (by cases e), fun b W' hb hdf hT1 henv => ?_⟩
      obtain ⟨h9, l, c, v, h0, h1, h2⟩ := hT1
      obtain ⟨A5, c5, rfl, _⟩ := id h2.ls
      obtain ⟨vA, hm, _⟩ := h2.m
      exact wp_store_Nod rfl h9 h1 hm (by rw [Array.getElem?_setIfInBounds_ne (by decide)]; exact HC.out.2.1) ⟨undef, rfl, l, c, _, W', h0, rfl, h2⟩
  case hQ =>
    intro vs W' hv hT4
    obtain ⟨l, c, v, W1, h0, rfl, h2⟩ := hT4
    obtain ⟨e1, e2, e3, ⟨vA, e4, e5⟩, e6, e7⟩ := sec_end (fi0 := 0) nod_ok HX.out h2
    have HRF : Hid (SecR NodE 6 0 4 g bm bs bg cs res w (.returned (.tuple #[])) (W1.setCell ⟨bm, 0, none⟩ v)) := Lib.hid (by
      rw [h0]
      exact ⟨rfl, e1, ⟨v, vA, e4, e6.more nod_ok (by decide) (fun b hb _ => Nat.le_trans HG0.out.size hb), e5.more int_ok (by decide) (fun b hb _ => Nat.le_trans HG0.out.size hb)⟩, (Turn.none_ HG0.out).plus e7⟩)
    simp only [List.foldl_cons, List.foldl_nil, List.setIfInBounds_toArray, List.set_cons_zero, List.set_cons_succ]
    clear hv h2 e1 e2 e3 e4 e5 e6 e7
    generalize World.setCell _ _ _ = W9 at *
    go_wp2_with fail
    go_end0
    exact HRF.out
set_option maxRecDepth 100000 in
set_option maxHeartbeats 1000000 in
theorem rsec_2 {g a bg bm : Nat} {bs : List UInt8} {w : World} {cs : Array Value} (h : Rdr w g bs a bg) (hm : Blk w bm 28 cs) (hc : cs[5]? = some (.slice none 0 0) ∧ cs[1]? = some (.slice none 0 0) ∧ 5 < cs.size) :
    Calls Tryz.prog 44 #[.pointer (some ⟨g, 0, none⟩), .pointer (some ⟨bm, 0, none⟩)] w (SecR TplE 3 1 5 g bm bs bg cs (lstR (tplR bg) 0 16 bs a) w) := by
  obtain ⟨res, hres⟩ : ∃ r, lstR (tplR bg) 0 16 bs a = r := ⟨_, rfl⟩
  rw [hres]
  have HRES := Lib.hid hres
  clear hres
  obtain ⟨cg, hbg⟩ := h.blk
  have hg0 : w.grownBy ((w.alloc (.cells #[.pointer (some ⟨g, 0, none⟩)] 54)).alloc (.cells #[.pointer (some ⟨bm, 0, none⟩)] 99)) none := only_alloc (only_alloc (only_refl _ _) _) _
  have HX : Hid (SecX g bm (w.heap.size + 1) w.heap.size bs bg a cs ((w.alloc (.cells #[.pointer (some ⟨g, 0, none⟩)] 54)).alloc (.cells #[.pointer (some ⟨bm, 0, none⟩)] 99))) := Lib.hid ⟨h.kept hg0, (Blk.new _ _ _).alloc _, blk_new_at (by simp) _ _, hm.kept hg0, by have := h.lt; omega, by have := h.lt; omega, Blk.ne_ hm hbg (by decide), by have := hm.lt; omega, by have := hm.lt; omega⟩
  have HG0 := Lib.hid hg0
  have HC := Lib.hid hc
  have HPAN : Hid (∀ c y d fb W5, res = .flt c y d → Flt W5 fb c ((bg : Int) + (y : Int)) → (((w.alloc (.cells #[.pointer (some ⟨g, 0, none⟩)] 54)).alloc (.cells #[.pointer (some ⟨bm, 0, none⟩)] 99))).heap.size ≤ fb → Turn (fun k => k = g ∨ k = bm) ((w.alloc (.cells #[.pointer (some ⟨g, 0, none⟩)] 54)).alloc (.cells #[.pointer (some ⟨bm, 0, none⟩)] 99)) W5 → (∃ cs', Blk W5 bm 28 cs' ∧ cs'.size = cs.size) → SecR TplE 3 1 5 g bm bs bg cs res w (gaveF fb) W5) := Lib.hid fun c y d fb W5 h1 h2 h3 h4 h5 => by
    rw [h1]
    exact ⟨fb, rfl, h2, Nat.le_trans hg0.size h3, (Turn.none_ hg0).plus h4, h5⟩
  clear h hm hc hg0 hbg
  go_enter Tryz.func44, Tryz.ntmps44
  go_upto_region 1 with fail
  generalize ((w.alloc (.cells #[.pointer (some ⟨g, 0, none⟩)] 54)).alloc (.cells #[.pointer (some ⟨bm, 0, none⟩)] 99)) = X at *
  generalize hbp : w.heap.size + 1 = bp at *
  generalize hbx : w.heap.size = bx at *
  clear hbp hbx
  refine region_chainD (by kernel_rfl) (by kernel_rfl) (by kernel_rfl) [4, 5, 6, 7, 8, 9] (by kernel_rfl) (by kernel_rfl) (by decide)
    [(2, .pointer (some ⟨bx, 0, none⟩)), (3, .pointer (some ⟨bp, 0, none⟩)), (4, .pointer (some ⟨bm, 0, none⟩)), (5, .pointer (some ⟨g, 0, none⟩)), (6, .func (.func 113) #[] #[.pointer (some ⟨bp, 0, none⟩), .pointer (some ⟨bx, 0, none⟩)])]
    ?h0 [3, 4, 5, 6] (by kernel_rfl) (by kernel_rfl) (by decide) (by kernel_rfl) (TS_ TplE 3 1 5 g bm bp bx bs bg cs res X 4) ?hT ?reads ?steps (only_drew (only_refl _ _)) ?hQ
  case h0 =>
    intro p hp hn
    simp only [List.mem_cons, List.not_mem_nil, or_false] at hp
    rcases hp with rfl | rfl | rfl | rfl | rfl
    all_goals first | rfl | exact absurd (by dsimp only; decide) hn
  case hT =>
    intro j f g' W' hj he
    match j, hj with
    | 0, hj => exact hj
    | 1, ⟨l, c, v, h0, h1, h2⟩ => exact ⟨l, c, v, h0, (he 0 3 _ 7 (by decide) rfl rfl rfl).symm.trans h1, h2⟩
    | 2, ⟨h9, l, c, v, h0, h1, h2⟩ => exact ⟨(he 1 4 _ 8 (by decide) rfl rfl rfl).symm.trans h9, l, c, v, h0, (he 0 3 _ 7 (by decide) rfl rfl rfl).symm.trans h1, h2⟩
    | 3, ⟨h9, l, c, v, h0, h1, h2⟩ => exact ⟨(he 2 5 _ 9 (by decide) rfl rfl rfl).symm.trans h9, l, c, v, h0, (he 0 3 _ 7 (by decide) rfl rfl rfl).symm.trans h1, h2⟩
    | 4, hj => exact hj
  case reads =>
    intro i o ho hn
    have hrd : ∀ j f W', j < 4 → TS_ TplE 3 1 5 g bm bp bx bs bg cs res X 4 j f W' → Blk W' bx 54 #[.pointer (some ⟨g, 0, none⟩)] ∧ Blk W' bp 99 #[.pointer (some ⟨bm, 0, none⟩)] := by
      intro j f W' hj hT'
      match j, hj, hT' with
      | 0, _, hT' => exact ⟨HX.out.x.kept hT', HX.out.p.kept hT'⟩
      | 1, _, ⟨_, _, _, _, _, h⟩ => exact ⟨h.x, h.p⟩
      | 2, _, ⟨_, _, _, _, _, _, h⟩ => exact ⟨h.x, h.p⟩
      | 3, _, ⟨_, _, _, _, _, _, h⟩ => exact ⟨h.x, h.p⟩
    have h9 : i = 0 ∨ i = 1 ∨ i = 2 := by
      have h1 := (Array.getElem?_eq_some_iff.1 ho).1
      simp only [List.size_toArray, List.length_cons, List.length_nil] at h1
      simp only [List.mem_cons, List.not_mem_nil, or_false] at hn
      omega
    rcases h9 with rfl | rfl | rfl
    · cases ho
      exact ⟨4, _, rfl, rfl, fun j f b W' hj hT' henv => rv_loadPM rfl (henv 3 _ (by simp [Op.operands]) rfl) ((hrd j f W' hj hT').2.cell 0)⟩
    · cases ho
      exact ⟨5, _, rfl, rfl, fun j f b W' hj hT' henv => rv_loadR rfl (henv 2 _ (by simp [Op.operands]) rfl) ((hrd j f W' hj hT').1.cell 0)⟩
    · cases ho
      exact ⟨6, _, rfl, rfl, fun j f b W' hj hT' henv => rv_mk_Tpl rfl (henv 3 _ (by simp [Op.operands]) rfl) (henv 2 _ (by simp [Op.operands]) rfl)⟩
  case steps =>
    intro j i o hj ho
    have h4 : j = 0 ∨ j = 1 ∨ j = 2 ∨ j = 3 := by
      have := (List.getElem?_eq_some_iff.1 hj).1
      simp only [List.length_cons, List.length_nil] at this
      omega
    rcases h4 with rfl | rfl | rfl | rfl
    · cases hj
      cases ho
      refine ⟨fun t e => by cases e; rfl, fun b W' hb hdf hT1 henv => ?_⟩
      have hg : X.grownBy W' none := hT1
      have hx := HX.out
      have hl := (hx.x.kept hg).lt
      have hl2 := (hx.p.kept hg).lt
      have hl3 := (hx.m.kept hg).lt
      refine wp_rall_Tpl rfl (henv 5 _ (by simp [Op.operands, Call.operands]) rfl) (henv 6 _ (by simp [Op.operands, Call.operands]) rfl) (rall_Tpl (hx.rd.kept hg) _ (MmI Tpl 5 bm bp bx g W'.heap.size bg cs) (fun k => k = g ∨ k = bm ∨ (Value.slice none 0 0).ownBlock = some k)
        ⟨.slice none 0 0, fun _ => Iff.rfl, hx.x.kept hg, hx.p.kept hg, by rw [set_same HC.out.1]; exact hx.m.kept hg, AO.nil_ _ _, ⟨hl, hl2, hl3, hx.n1, hx.n2, hx.n3, hx.n4, hx.n5, (hx.rd.kept hg).lt, HC.out.2.2⟩, Nat.le_refl _⟩ mmi_ok 0 16 ⟨by omega, by omega⟩ (by omega) (fun pre T b W hi hr _ hn => rclo_Tpl hi hr hn)) ?_
      intro e W5 hL
      rw [HRES.out] at hL
      rcases sec_of tpl_ok (by decide) hg hL with ⟨l, c, v, h1, rfl, h3⟩ | ⟨c, y, d, fb, h1, rfl, h3, h4, h5, h6⟩
      · exact .inl ⟨_, rfl, _, rfl, l, c, v, h1, act_putM _ (by rw [hb]; show _ < 10; decide), h3⟩
      · exact .inr ⟨_, rfl, hdf, HPAN.out c y d fb W5 h1 h3 h4 h5 h6⟩
    · cases hj
      cases ho
      refine ⟨fun t e => by cases e; rfl, fun b W' hb hdf hT1 henv => ?_⟩
      obtain ⟨l, c, v, h0, h1, h2⟩ := hT1
      exact wp_valM (rv_nilM rfl (henv 4 _ (by simp [Op.operands]) rfl)) ⟨_, rfl, act_putM _ (by rw [hb]; show _ < 10; decide), l, c, v, h0, (act_otherM _ (by decide)).trans h1, h2⟩
    · cases hj
      cases ho
      refine ⟨fun t e => by cases e; rfl, fun b W' hb hdf hT1 henv => ?_⟩
      obtain ⟨h9, l, c, v, h0, h1, h2⟩ := hT1
      exact wp_valM (rv_fld0_Tpl rfl h9) ⟨_, rfl, act_putM _ (by rw [hb]; show _ < 10; decide), l, c, v, h0, (act_otherM _ (by decide)).trans h1, h2⟩
    · cases hj
      cases ho
      refine ⟨fun t e => (by cases e), fun b W' hb hdf hT1 henv => ?_⟩
      obtain ⟨h9, l, c, v, h0, h1, h2⟩ := hT1
      obtain ⟨A5, c5, rfl, _⟩ := id h2.ls
      obtain ⟨vA, hm, _⟩ := h2.m
      exact wp_store_Tpl rfl h9 h1 hm (by rw [Array.getElem?_setIfInBounds_ne (by decide)]; exact HC.out.2.1) ⟨undef, rfl, l, c, _, W', h0, rfl, h2⟩
  case hQ =>
    intro vs W' hv hT4
    obtain ⟨l, c, v, W1, h0, rfl, h2⟩ := hT4
    obtain ⟨e1, e2, e3, ⟨vA, e4, e5⟩, e6, e7⟩ := sec_end (fi0 := 1) tpl_ok HX.out h2
    have HRF : Hid (SecR TplE 3 1 5 g bm bs bg cs res w (.returned (.tuple #[])) (W1.setCell ⟨bm, 1, none⟩ v)) := Lib.hid (by
      rw [h0]
      exact ⟨rfl, e1, ⟨v, vA, e4, e6.more tpl_ok (by decide) (fun b hb _ => Nat.le_trans HG0.out.size hb), e5.more int_ok (by decide) (fun b hb _ => Nat.le_trans HG0.out.size hb)⟩, (Turn.none_ HG0.out).plus e7⟩)
    simp only [List.foldl_cons, List.foldl_nil, List.setIfInBounds_toArray, List.set_cons_zero, List.set_cons_succ]
    clear hv h2 e1 e2 e3 e4 e5 e6 e7
    generalize World.setCell _ _ _ = W9 at *
    go_wp2_with fail
    go_end0
    exact HRF.out
end Go.Proofs.YtohhojbeclbedaaGreatDoor

namespace Go.Proofs.YtohhojbeclbedaaGreatDoor
open Go.RowKit

/-- What reading section 3 leaves. -/
def SecB (g bm : Nat) (bs : List UInt8) (bg : Nat) (cs : Array Value) (r : Rs (List (Edg × Nat) × List (Sta × Nat))) (w : World) (e : Ending) (w' : World) : Prop := match r with
  | .ok x c => e = .returned (.tuple #[]) ∧ Rdr w' g bs c bg ∧ (∃ v vA u uA, Blk w' bm 28 ((((cs.setIfInBounds 6 vA).setIfInBounds 2 v).setIfInBounds 7 uA).setIfInBounds 3 u) ∧ ListA EdgE 2 (fun k => w.heap.size ≤ k) w' v (x.1.map Prod.fst) ∧ ListA IntE 1 (fun k => w.heap.size ≤ k) w' vA (ats bg x.1) ∧ ListA StaE 2 (fun k => w.heap.size ≤ k) w' u (x.2.map Prod.fst) ∧ ListA IntE 1 (fun k => w.heap.size ≤ k) w' uA (ats bg x.2)) ∧ Turn (fun k => k = g ∨ k = bm) w w'
  | .flt c y _ => ∃ fb, e = gaveF fb ∧ Flt w' fb c ((bg : Int) + (y : Int)) ∧ w.heap.size ≤ fb ∧ Turn (fun k => k = g ∨ k = bm) w w' ∧ (∃ cs', Blk w' bm 28 cs' ∧ cs'.size = cs.size)
/-- The things of section 3. -/
def bootL (bs : List UInt8) (a : Nat) : Rs (List (Edg × Nat) × List (Sta × Nat)) := (lstR edgR 0 16 bs a).bind fun cs b => (lstR staR 0 8 bs b).bind fun ss c => .ok (cs, ss) c
set_option maxRecDepth 100000 in
set_option maxHeartbeats 2000000 in
theorem rsec_3 {g a bg bm : Nat} {bs : List UInt8} {w : World} {cs : Array Value} (h : Rdr w g bs a bg) (hm : Blk w bm 28 cs) (hc : (cs[6]? = some (.slice none 0 0) ∧ cs[2]? = some (.slice none 0 0) ∧ 6 < cs.size) ∧ (cs[7]? = some (.slice none 0 0) ∧ cs[3]? = some (.slice none 0 0) ∧ 7 < cs.size)) :
    Calls Tryz.prog 45 #[.pointer (some ⟨g, 0, none⟩), .pointer (some ⟨bm, 0, none⟩)] w (SecB g bm bs bg cs (bootL bs a) w) := by
  obtain ⟨tot, htot⟩ : ∃ r, bootL bs a = r := ⟨_, rfl⟩
  rw [htot]
  unfold bootL at htot
  obtain ⟨res, hres⟩ : ∃ r, lstR edgR 0 16 bs a = r := ⟨_, rfl⟩
  rw [hres] at htot
  have HRES := Lib.hid hres
  have HTOT := Lib.hid htot
  clear hres htot
  obtain ⟨cg, hbg⟩ := h.blk
  have hg0 : w.grownBy ((w.alloc (.cells #[.pointer (some ⟨g, 0, none⟩)] 54)).alloc (.cells #[.pointer (some ⟨bm, 0, none⟩)] 99)) none := only_alloc (only_alloc (only_refl _ _) _) _
  have HX : Hid (SecX g bm (w.heap.size + 1) w.heap.size bs bg a cs ((w.alloc (.cells #[.pointer (some ⟨g, 0, none⟩)] 54)).alloc (.cells #[.pointer (some ⟨bm, 0, none⟩)] 99))) := Lib.hid ⟨h.kept hg0, (Blk.new _ _ _).alloc _, blk_new_at (by simp) _ _, hm.kept hg0, by have := h.lt; omega, by have := h.lt; omega, Blk.ne_ hm hbg (by decide), by have := hm.lt; omega, by have := hm.lt; omega⟩
  have HG0 := Lib.hid hg0
  have HC := Lib.hid hc.1
  have HCB := Lib.hid hc.2
  have HPAN : Hid (∀ c y d fb W5, res = .flt c y d → Flt W5 fb c ((bg : Int) + (y : Int)) → (((w.alloc (.cells #[.pointer (some ⟨g, 0, none⟩)] 54)).alloc (.cells #[.pointer (some ⟨bm, 0, none⟩)] 99))).heap.size ≤ fb → Turn (fun k => k = g ∨ k = bm) ((w.alloc (.cells #[.pointer (some ⟨g, 0, none⟩)] 54)).alloc (.cells #[.pointer (some ⟨bm, 0, none⟩)] 99)) W5 → (∃ cs', Blk W5 bm 28 cs' ∧ cs'.size = cs.size) → SecB g bm bs bg cs tot w (gaveF fb) W5) := Lib.hid fun c y d fb W5 h1 h2 h3 h4 h5 => by
    have hz : tot = .flt c y d := by rw [← HTOT.out, h1]; rfl
    rw [hz]
    exact ⟨fb, rfl, h2, Nat.le_trans hg0.size h3, (Turn.none_ hg0).plus h4, h5⟩
  clear h hm hc hg0 hbg
  go_enter Tryz.func45, Tryz.ntmps45
  go_upto_region 1 with fail
  generalize ((w.alloc (.cells #[.pointer (some ⟨g, 0, none⟩)] 54)).alloc (.cells #[.pointer (some ⟨bm, 0, none⟩)] 99)) = X at *
  generalize hbp : w.heap.size + 1 = bp at *
  generalize hbx : w.heap.size = bx at *
  clear hbp hbx
  refine region_chainD (by kernel_rfl) (by kernel_rfl) (by kernel_rfl) [4, 5, 6, 7, 8, 9] (by kernel_rfl) (by kernel_rfl) (by decide)
    [(2, .pointer (some ⟨bx, 0, none⟩)), (3, .pointer (some ⟨bp, 0, none⟩)), (4, .pointer (some ⟨bm, 0, none⟩)), (5, .pointer (some ⟨g, 0, none⟩)), (6, .func (.func 116) #[] #[.pointer (some ⟨bp, 0, none⟩), .pointer (some ⟨bx, 0, none⟩)])]
    ?h0 [3, 4, 5, 6] (by kernel_rfl) (by kernel_rfl) (by decide) (by kernel_rfl) (TS_ EdgE 2 2 6 g bm bp bx bs bg cs res X 4) ?hT ?reads ?steps (only_drew (only_refl _ _)) ?hQ
  case h0 =>
    intro p hp hn
    simp only [List.mem_cons, List.not_mem_nil, or_false] at hp
    rcases hp with rfl | rfl | rfl | rfl | rfl
    all_goals first | rfl | exact absurd (by dsimp only; decide) hn
  case hT =>
    intro j f g' W' hj he
    match j, hj with
    | 0, hj => exact hj
    | 1, ⟨l, c, v, h0, h1, h2⟩ => exact ⟨l, c, v, h0, (he 0 3 _ 7 (by decide) rfl rfl rfl).symm.trans h1, h2⟩
    | 2, ⟨h9, l, c, v, h0, h1, h2⟩ => exact ⟨(he 1 4 _ 8 (by decide) rfl rfl rfl).symm.trans h9, l, c, v, h0, (he 0 3 _ 7 (by decide) rfl rfl rfl).symm.trans h1, h2⟩
    | 3, ⟨h9, l, c, v, h0, h1, h2⟩ => exact ⟨(he 2 5 _ 9 (by decide) rfl rfl rfl).symm.trans h9, l, c, v, h0, (he 0 3 _ 7 (by decide) rfl rfl rfl).symm.trans h1, h2⟩
    | 4, hj => exact hj
  case reads =>
    intro i o ho hn
    have hrd : ∀ j f W', j < 4 → TS_ EdgE 2 2 6 g bm bp bx bs bg cs res X 4 j f W' → Blk W' bx 54 #[.pointer (some ⟨g, 0, none⟩)] ∧ Blk W' bp 99 #[.pointer (some ⟨bm, 0, none⟩)] := by
      intro j f W' hj hT'
      match j, hj, hT' with
      | 0, _, hT' => exact ⟨HX.out.x.kept hT', HX.out.p.kept hT'⟩
      | 1, _, ⟨_, _, _, _, _, h⟩ => exact ⟨h.x, h.p⟩
      | 2, _, ⟨_, _, _, _, _, _, h⟩ => exact ⟨h.x, h.p⟩
      | 3, _, ⟨_, _, _, _, _, _, h⟩ => exact ⟨h.x, h.p⟩
    have h9 : i = 0 ∨ i = 1 ∨ i = 2 := by
      have h1 := (Array.getElem?_eq_some_iff.1 ho).1
      simp only [List.size_toArray, List.length_cons, List.length_nil] at h1
      simp only [List.mem_cons, List.not_mem_nil, or_false] at hn
      omega
    rcases h9 with rfl | rfl | rfl
    · cases ho
      exact ⟨4, _, rfl, rfl, fun j f b W' hj hT' henv => rv_loadPM rfl (henv 3 _ (by simp [Op.operands]) rfl) ((hrd j f W' hj hT').2.cell 0)⟩
    · cases ho
      exact ⟨5, _, rfl, rfl, fun j f b W' hj hT' henv => rv_loadR rfl (henv 2 _ (by simp [Op.operands]) rfl) ((hrd j f W' hj hT').1.cell 0)⟩
    · cases ho
      exact ⟨6, _, rfl, rfl, fun j f b W' hj hT' henv => rv_mk_Typ rfl (henv 3 _ (by simp [Op.operands]) rfl) (henv 2 _ (by simp [Op.operands]) rfl)⟩
  case steps =>
    intro j i o hj ho
    have h4 : j = 0 ∨ j = 1 ∨ j = 2 ∨ j = 3 := by
      have := (List.getElem?_eq_some_iff.1 hj).1
      simp only [List.length_cons, List.length_nil] at this
      omega
    rcases h4 with rfl | rfl | rfl | rfl
    · cases hj
      cases ho
      refine ⟨fun t e => by cases e; rfl, fun b W' hb hdf hT1 henv => ?_⟩
      have hg : X.grownBy W' none := hT1
      have hx := HX.out
      have hl := (hx.x.kept hg).lt
      have hl2 := (hx.p.kept hg).lt
      have hl3 := (hx.m.kept hg).lt
      refine wp_rall_Typ rfl (henv 5 _ (by simp [Op.operands, Call.operands]) rfl) (henv 6 _ (by simp [Op.operands, Call.operands]) rfl) (rall_Typ (hx.rd.kept hg) _ (MmI Edg 6 bm bp bx g W'.heap.size bg cs) (fun k => k = g ∨ k = bm ∨ (Value.slice none 0 0).ownBlock = some k)
        ⟨.slice none 0 0, fun _ => Iff.rfl, hx.x.kept hg, hx.p.kept hg, by rw [set_same HC.out.1]; exact hx.m.kept hg, AO.nil_ _ _, ⟨hl, hl2, hl3, hx.n1, hx.n2, hx.n3, hx.n4, hx.n5, (hx.rd.kept hg).lt, HC.out.2.2⟩, Nat.le_refl _⟩ mmi_ok 0 16 ⟨by omega, by omega⟩ (by omega) (fun pre T b W hi hr _ hn => rclo_Typ hi hr hn)) ?_
      intro e W5 hL
      rw [HRES.out] at hL
      rcases sec_of edg_ok (by decide) hg hL with ⟨l, c, v, h1, rfl, h3⟩ | ⟨c, y, d, fb, h1, rfl, h3, h4, h5, h6⟩
      · exact .inl ⟨_, rfl, _, rfl, l, c, v, h1, act_putM _ (by rw [hb]; show _ < 16; decide), h3⟩
      · exact .inr ⟨_, rfl, hdf, HPAN.out c y d fb W5 h1 h3 h4 h5 h6⟩
    · cases hj
      cases ho
      refine ⟨fun t e => by cases e; rfl, fun b W' hb hdf hT1 henv => ?_⟩
      obtain ⟨l, c, v, h0, h1, h2⟩ := hT1
      exact wp_valM (rv_nilM rfl (henv 4 _ (by simp [Op.operands]) rfl)) ⟨_, rfl, act_putM _ (by rw [hb]; show _ < 16; decide), l, c, v, h0, (act_otherM _ (by decide)).trans h1, h2⟩
    · cases hj
      cases ho
      refine ⟨fun t e => by cases e; rfl, fun b W' hb hdf hT1 henv => ?_⟩
      obtain ⟨h9, l, c, v, h0, h1, h2⟩ := hT1
      exact wp_valM (rv_fld0_Typ rfl h9) ⟨_, rfl, act_putM _ (by rw [hb]; show _ < 16; decide), l, c, v, h0, (act_otherM _ (by decide)).trans h1, h2⟩
    · cases hj
      cases ho
      refine ⟨fun t e => (by cases e), fun b W' hb hdf hT1 henv => ?_⟩
      obtain ⟨h9, l, c, v, h0, h1, h2⟩ := hT1
      obtain ⟨A5, c5, rfl, _⟩ := id h2.ls
      obtain ⟨vA, hm, _⟩ := h2.m
      exact wp_store_Typ rfl h9 h1 hm (by rw [Array.getElem?_setIfInBounds_ne (by decide)]; exact HC.out.2.1) ⟨undef, rfl, l, c, _, W', h0, rfl, h2⟩
  case hQ =>
    intro vs W' hv hT4
    obtain ⟨l, c, v, W1, h0, rfl, h2⟩ := hT4
    obtain ⟨e1, e2, e3, ⟨vA, e4, e5⟩, e6, e7⟩ := sec_end (fi0 := 2) edg_ok HX.out h2
    obtain ⟨cs2, hcs2⟩ : ∃ x, (cs.setIfInBounds 6 vA).setIfInBounds 2 v = x := ⟨_, rfl⟩
    have HC2 : Hid (cs2[7]? = some (.slice none 0 0) ∧ cs2[3]? = some (.slice none 0 0) ∧ 7 < cs2.size) := Lib.hid (by
      rw [← hcs2]
      refine ⟨?_, ?_, by simpa using HCB.out.2.2⟩
      · rw [Array.getElem?_setIfInBounds_ne (by decide), Array.getElem?_setIfInBounds_ne (by decide)]; exact HCB.out.1
      · rw [Array.getElem?_setIfInBounds_ne (by decide), Array.getElem?_setIfInBounds_ne (by decide)]; exact HCB.out.2.1)
    rw [hcs2] at e4
    have HCS2 := Lib.hid hcs2
    have HX2 : Hid (SecX g bm bp bx bs bg c cs2 (W1.setCell ⟨bm, 2, none⟩ v)) := Lib.hid ⟨e1, e2, e3, e4, HX.out.n1, HX.out.n2, HX.out.n3, HX.out.n4, HX.out.n5⟩
    have HL1 := Lib.hid e6
    have HL2 := Lib.hid e5
    have HTU := Lib.hid e7
    obtain ⟨res2, hres2⟩ : ∃ r, lstR staR 0 8 bs c = r := ⟨_, rfl⟩
    have HRES2 := Lib.hid hres2
    have HTOT2 : Hid ((res2.bind fun ss d => (.ok (l, ss) d : Rs (List (Edg × Nat) × List (Sta × Nat)))) = tot) := Lib.hid (by rw [← HTOT.out, h0, Rs.bind_ok, ← hres2])
    have HPAN2 : Hid (∀ c y d fb W5, res2 = .flt c y d → Flt W5 fb c ((bg : Int) + (y : Int)) → (W1.setCell ⟨bm, 2, none⟩ v).heap.size ≤ fb → Turn (fun k => k = g ∨ k = bm) (W1.setCell ⟨bm, 2, none⟩ v) W5 → (∃ cs', Blk W5 bm 28 cs' ∧ cs'.size = cs2.size) → SecB g bm bs bg cs tot w (gaveF fb) W5) := Lib.hid fun c y d fb W5 h1 h2 h3 h4 ⟨cs9, h5, h6⟩ => by
      have hz : tot = .flt c y d := by rw [← HTOT2.out, h1]; rfl
      rw [hz]
      exact ⟨fb, rfl, h2, Nat.le_trans HG0.out.size (Nat.le_trans HTU.out.size h3), ((Turn.none_ HG0.out).plus HTU.out).plus h4, cs9, h5, h6.trans (by rw [← HCS2.out]; simp)⟩
    simp only [List.foldl_cons, List.foldl_nil, List.setIfInBounds_toArray, List.set_cons_zero, List.set_cons_succ]
    clear hv h0 h2 e1 e2 e3 e4 e5 e6 e7 hcs2 hres2
    generalize (W1.setCell ⟨bm, 2, none⟩ v) = W9 at *
    go_upto_region 2 with fail
    refine region_chainD (by kernel_rfl) (by kernel_rfl) (by kernel_rfl) [10, 11, 12, 13, 14, 15] (by kernel_rfl) (by kernel_rfl) (by decide)
      [(2, .pointer (some ⟨bx, 0, none⟩)), (3, .pointer (some ⟨bp, 0, none⟩)), (10, .pointer (some ⟨bm, 0, none⟩)), (11, .pointer (some ⟨g, 0, none⟩)), (12, .func (.func 119) #[] #[.pointer (some ⟨bp, 0, none⟩), .pointer (some ⟨bx, 0, none⟩)])]
      ?h0 [3, 4, 5, 6] (by kernel_rfl) (by kernel_rfl) (by decide) (by kernel_rfl) (TS_ StaE 2 3 7 g bm bp bx bs bg cs2 res2 W9 10) ?hT ?reads ?steps (only_drew (only_refl _ _)) ?hQ
    case h0 =>
      intro p hp hn
      simp only [List.mem_cons, List.not_mem_nil, or_false] at hp
      rcases hp with rfl | rfl | rfl | rfl | rfl
      all_goals first | rfl | exact absurd (by dsimp only; decide) hn
    case hT =>
      intro j f g' W' hj he
      match j, hj with
      | 0, hj => exact hj
      | 1, ⟨l, c, v, h0, h1, h2⟩ => exact ⟨l, c, v, h0, (he 0 3 _ 13 (by decide) rfl rfl rfl).symm.trans h1, h2⟩
      | 2, ⟨h9, l, c, v, h0, h1, h2⟩ => exact ⟨(he 1 4 _ 14 (by decide) rfl rfl rfl).symm.trans h9, l, c, v, h0, (he 0 3 _ 13 (by decide) rfl rfl rfl).symm.trans h1, h2⟩
      | 3, ⟨h9, l, c, v, h0, h1, h2⟩ => exact ⟨(he 2 5 _ 15 (by decide) rfl rfl rfl).symm.trans h9, l, c, v, h0, (he 0 3 _ 13 (by decide) rfl rfl rfl).symm.trans h1, h2⟩
      | 4, hj => exact hj
    case reads =>
      intro i o ho hn
      have hrd : ∀ j f W', j < 4 → TS_ StaE 2 3 7 g bm bp bx bs bg cs2 res2 W9 10 j f W' → Blk W' bx 54 #[.pointer (some ⟨g, 0, none⟩)] ∧ Blk W' bp 99 #[.pointer (some ⟨bm, 0, none⟩)] := by
        intro j f W' hj hT'
        match j, hj, hT' with
        | 0, _, hT' => exact ⟨HX2.out.x.kept hT', HX2.out.p.kept hT'⟩
        | 1, _, ⟨_, _, _, _, _, h⟩ => exact ⟨h.x, h.p⟩
        | 2, _, ⟨_, _, _, _, _, _, h⟩ => exact ⟨h.x, h.p⟩
        | 3, _, ⟨_, _, _, _, _, _, h⟩ => exact ⟨h.x, h.p⟩
      have h9 : i = 0 ∨ i = 1 ∨ i = 2 := by
        have h1 := (Array.getElem?_eq_some_iff.1 ho).1
        simp only [List.size_toArray, List.length_cons, List.length_nil] at h1
        simp only [List.mem_cons, List.not_mem_nil, or_false] at hn
        omega
      rcases h9 with rfl | rfl | rfl
      · cases ho
        exact ⟨10, _, rfl, rfl, fun j f b W' hj hT' henv => rv_loadPM rfl (henv 3 _ (by simp [Op.operands]) rfl) ((hrd j f W' hj hT').2.cell 0)⟩
      · cases ho
        exact ⟨11, _, rfl, rfl, fun j f b W' hj hT' henv => rv_loadR rfl (henv 2 _ (by simp [Op.operands]) rfl) ((hrd j f W' hj hT').1.cell 0)⟩
      · cases ho
        exact ⟨12, _, rfl, rfl, fun j f b W' hj hT' henv => rv_mk_Sta rfl (henv 3 _ (by simp [Op.operands]) rfl) (henv 2 _ (by simp [Op.operands]) rfl)⟩
    case steps =>
      intro j i o hj ho
      have h4 : j = 0 ∨ j = 1 ∨ j = 2 ∨ j = 3 := by
        have := (List.getElem?_eq_some_iff.1 hj).1
        simp only [List.length_cons, List.length_nil] at this
        omega
      rcases h4 with rfl | rfl | rfl | rfl
      · cases hj
        cases ho
        refine ⟨fun t e => by cases e; rfl, fun b W' hb hdf hT1 henv => ?_⟩
        have hg : W9.grownBy W' none := hT1
        have hx := HX2.out
        have hl := (hx.x.kept hg).lt
        have hl2 := (hx.p.kept hg).lt
        have hl3 := (hx.m.kept hg).lt
        refine wp_rall_Sta rfl (henv 11 _ (by simp [Op.operands, Call.operands]) rfl) (henv 12 _ (by simp [Op.operands, Call.operands]) rfl) (rall_Sta (hx.rd.kept hg) _ (MmI Sta 7 bm bp bx g W'.heap.size bg cs2) (fun k => k = g ∨ k = bm ∨ (Value.slice none 0 0).ownBlock = some k)
          ⟨.slice none 0 0, fun _ => Iff.rfl, hx.x.kept hg, hx.p.kept hg, by rw [set_same HC2.out.1]; exact hx.m.kept hg, AO.nil_ _ _, ⟨hl, hl2, hl3, hx.n1, hx.n2, hx.n3, hx.n4, hx.n5, (hx.rd.kept hg).lt, HC2.out.2.2⟩, Nat.le_refl _⟩ mmi_ok 0 8 ⟨by omega, by omega⟩ (by omega) (fun pre T b W hi hr _ hn => rclo_Sta hi hr hn)) ?_
        intro e W5 hL
        rw [HRES2.out] at hL
        rcases sec_of sta_ok (by decide) hg hL with ⟨l, c, v, h1, rfl, h3⟩ | ⟨c, y, d, fb, h1, rfl, h3, h4, h5, h6⟩
        · exact .inl ⟨_, rfl, _, rfl, l, c, v, h1, act_putM _ (by rw [hb]; show _ < 16; decide), h3⟩
        · exact .inr ⟨_, rfl, hdf, HPAN2.out c y d fb W5 h1 h3 h4 h5 h6⟩
      · cases hj
        cases ho
        refine ⟨fun t e => by cases e; rfl, fun b W' hb hdf hT1 henv => ?_⟩
        obtain ⟨l, c, v, h0, h1, h2⟩ := hT1
        exact wp_valM (rv_nilM rfl (henv 10 _ (by simp [Op.operands]) rfl)) ⟨_, rfl, act_putM _ (by rw [hb]; show _ < 16; decide), l, c, v, h0, (act_otherM _ (by decide)).trans h1, h2⟩
      · cases hj
        cases ho
        refine ⟨fun t e => by cases e; rfl, fun b W' hb hdf hT1 henv => ?_⟩
        obtain ⟨h9, l, c, v, h0, h1, h2⟩ := hT1
        exact wp_valM (rv_fld0_Sta rfl h9) ⟨_, rfl, act_putM _ (by rw [hb]; show _ < 16; decide), l, c, v, h0, (act_otherM _ (by decide)).trans h1, h2⟩
      · cases hj
        cases ho
        refine ⟨fun t e => (by cases e), fun b W' hb hdf hT1 henv => ?_⟩
        obtain ⟨h9, l, c, v, h0, h1, h2⟩ := hT1
        obtain ⟨A5, c5, rfl, _⟩ := id h2.ls
        obtain ⟨vA, hm, _⟩ := h2.m
        exact wp_store_Sta rfl h9 h1 hm (by rw [Array.getElem?_setIfInBounds_ne (by decide)]; exact HC2.out.2.1) ⟨undef, rfl, l, c, _, W', h0, rfl, h2⟩
    case hQ =>
      intro vs W' hv hT4
      obtain ⟨l, c, v, W1, h0, rfl, h2⟩ := hT4
      obtain ⟨e1, e2, e3, ⟨vA, e4, e5⟩, e6, e7⟩ := sec_end (fi0 := 3) sta_ok HX2.out h2
      have HRF : Hid (SecB g bm bs bg cs tot w (.returned (.tuple #[])) (W1.setCell ⟨bm, 3, none⟩ v)) := Lib.hid (by
        rw [← HTOT2.out, h0]
        rw [← HCS2.out] at e4
        have hlt1 := HX.out.m.lt
        have hlt2 := HX.out.rd.lt
        have hk : KeptS (fun k => X.heap.size ≤ k) W9 (W1.setCell ⟨bm, 3, none⟩ v) := KeptS.of_turn e7 (fun b hb hk => by rcases hk with e | e <;> omega)
        exact ⟨rfl, e1, ⟨_, _, _, _, e4, (HL1.out.kept edg_ok hk).more edg_ok (by decide) (fun b hb _ => Nat.le_trans HG0.out.size hb), (HL2.out.kept int_ok hk).more int_ok (by decide) (fun b hb _ => Nat.le_trans HG0.out.size hb),
          e6.more sta_ok (by decide) (fun b hb _ => Nat.le_trans HG0.out.size (Nat.le_trans HTU.out.size hb)), e5.more int_ok (by decide) (fun b hb _ => Nat.le_trans HG0.out.size (Nat.le_trans HTU.out.size hb))⟩, ((Turn.none_ HG0.out).plus HTU.out).plus e7⟩)
      simp only [List.foldl_cons, List.foldl_nil, List.setIfInBounds_toArray, List.set_cons_zero, List.set_cons_succ]
      clear hv h2 e1 e2 e3 e4 e5 e6 e7
      generalize World.setCell _ _ _ = W8 at *
      go_wp2_with fail
      go_end0
      exact HRF.out
end Go.Proofs.YtohhojbeclbedaaGreatDoor

namespace Go.Proofs.YtohhojbeclbedaaGreatDoor
open Go.RowKit

set_option maxRecDepth 100000 in
set_option maxHeartbeats 1000000 in
theorem mrd_catch (bm be fb : Nat) (v0 v1 v2 v3 v4 v5 v6 v7 u : Value) (older : List PanicEntry) (w : World) (hm : Blk w bm 28 #[v0, v1, v2, v3, v4, v5, v6, v7]) (he : Blk w be 43 #[u]) (hne : be ≠ bm) :
    CallsD Tryz.prog 41 #[.pointer (some ⟨bm, 0, none⟩), .pointer (some ⟨be, 0, none⟩)] (.panicking ({ v := .iface 94 (.pointer (some ⟨fb, 0, none⟩)), recovered := false } :: older)) w fun e u' w' =>
      e = .returned (.tuple #[]) ∧ u' = .panicking ({ v := .iface 94 (.pointer (some ⟨fb, 0, none⟩)), recovered := true } :: older) ∧ Blk w' bm 28 #[.slice none 0 0, .slice none 0 0, .slice none 0 0, .slice none 0 0, .slice none 0 0, .slice none 0 0, .slice none 0 0, .slice none 0 0] ∧ Blk w' be 43 #[.iface 94 (.pointer (some ⟨fb, 0, none⟩))] ∧ Turn (fun k => k = bm ∨ k = be) w w' := by
  have h1 := assert_fault (.pointer (some ⟨fb, 0, none⟩)) w
  refine callsD_of_wpS Tryz.func41 rfl fun c₀ cs hu => ?_
  refine wpS_seq (wpS_region ?_)
  simp [wpOpsS, go_sem, recoverD, hu, Tryz.ntmps41, h1]
  refine wpS_seq (wpS_region ?_)
  simp [wpOpsS, go_sem]
  refine wpS_cond (t := true) (by simp [go_sem]) ?_
  refine wpS_of_wp ?_
  simp only [if_true, Array.replicate_succ, Array.replicate_zero, List.push_toArray, List.append_toArray, List.nil_append, List.cons_append, List.setIfInBounds_toArray, List.set_cons_zero, List.set_cons_succ]
  have c0 := hm.cell 0
  have f0 := hm.frozen 0
  have c1 := hm.cell 1
  have f1 := hm.frozen 1
  have c2 := hm.cell 2
  have f2 := hm.frozen 2
  have c3 := hm.cell 3
  have f3 := hm.frozen 3
  have c4 := hm.cell 4
  have f4 := hm.frozen 4
  have c5 := hm.cell 5
  have f5 := hm.frozen 5
  have c6 := hm.cell 6
  have f6 := hm.frozen 6
  have c7 := hm.cell 7
  have f7 := hm.frozen 7
  have ec := he.cell 0
  have ef := he.frozen 0
  go_wp2_with fail
  have g8 := only_setCell (g := bm) (p := ⟨bm, 7, none⟩) (only_setCell (g := bm) (p := ⟨bm, 6, none⟩) (only_setCell (g := bm) (p := ⟨bm, 5, none⟩) (only_setCell (g := bm) (p := ⟨bm, 4, none⟩) (only_setCell (g := bm) (p := ⟨bm, 3, none⟩) (only_setCell (g := bm) (p := ⟨bm, 2, none⟩) (only_setCell (g := bm) (p := ⟨bm, 1, none⟩) (only_setCell (g := bm) (p := ⟨bm, 0, none⟩) (only_refl w _) rfl (.slice none 0 0)) rfl (.slice none 0 0)) rfl (.slice none 0 0)) rfl (.slice none 0 0)) rfl (.slice none 0 0)) rfl (.slice none 0 0)) rfl (.slice none 0 0)) rfl (.slice none 0 0)
  have bb0 : Blk (w.setCell ⟨bm, 0, none⟩ (.slice none 0 0)) bm 28 #[.slice none 0 0, v1, v2, v3, v4, v5, v6, v7] := hm.set_ 0 _
  have bb1 : Blk ((w.setCell ⟨bm, 0, none⟩ (.slice none 0 0)).setCell ⟨bm, 1, none⟩ (.slice none 0 0)) bm 28 #[.slice none 0 0, .slice none 0 0, v2, v3, v4, v5, v6, v7] := bb0.set_ 1 _
  have bb2 : Blk (((w.setCell ⟨bm, 0, none⟩ (.slice none 0 0)).setCell ⟨bm, 1, none⟩ (.slice none 0 0)).setCell ⟨bm, 2, none⟩ (.slice none 0 0)) bm 28 #[.slice none 0 0, .slice none 0 0, .slice none 0 0, v3, v4, v5, v6, v7] := bb1.set_ 2 _
  have bb3 : Blk ((((w.setCell ⟨bm, 0, none⟩ (.slice none 0 0)).setCell ⟨bm, 1, none⟩ (.slice none 0 0)).setCell ⟨bm, 2, none⟩ (.slice none 0 0)).setCell ⟨bm, 3, none⟩ (.slice none 0 0)) bm 28 #[.slice none 0 0, .slice none 0 0, .slice none 0 0, .slice none 0 0, v4, v5, v6, v7] := bb2.set_ 3 _
  have bb4 : Blk (((((w.setCell ⟨bm, 0, none⟩ (.slice none 0 0)).setCell ⟨bm, 1, none⟩ (.slice none 0 0)).setCell ⟨bm, 2, none⟩ (.slice none 0 0)).setCell ⟨bm, 3, none⟩ (.slice none 0 0)).setCell ⟨bm, 4, none⟩ (.slice none 0 0)) bm 28 #[.slice none 0 0, .slice none 0 0, .slice none 0 0, .slice none 0 0, .slice none 0 0, v5, v6, v7] := bb3.set_ 4 _
  have bb5 : Blk ((((((w.setCell ⟨bm, 0, none⟩ (.slice none 0 0)).setCell ⟨bm, 1, none⟩ (.slice none 0 0)).setCell ⟨bm, 2, none⟩ (.slice none 0 0)).setCell ⟨bm, 3, none⟩ (.slice none 0 0)).setCell ⟨bm, 4, none⟩ (.slice none 0 0)).setCell ⟨bm, 5, none⟩ (.slice none 0 0)) bm 28 #[.slice none 0 0, .slice none 0 0, .slice none 0 0, .slice none 0 0, .slice none 0 0, .slice none 0 0, v6, v7] := bb4.set_ 5 _
  have bb6 : Blk (((((((w.setCell ⟨bm, 0, none⟩ (.slice none 0 0)).setCell ⟨bm, 1, none⟩ (.slice none 0 0)).setCell ⟨bm, 2, none⟩ (.slice none 0 0)).setCell ⟨bm, 3, none⟩ (.slice none 0 0)).setCell ⟨bm, 4, none⟩ (.slice none 0 0)).setCell ⟨bm, 5, none⟩ (.slice none 0 0)).setCell ⟨bm, 6, none⟩ (.slice none 0 0)) bm 28 #[.slice none 0 0, .slice none 0 0, .slice none 0 0, .slice none 0 0, .slice none 0 0, .slice none 0 0, .slice none 0 0, v7] := bb5.set_ 6 _
  have b8 : Blk ((((((((w.setCell ⟨bm, 0, none⟩ (.slice none 0 0)).setCell ⟨bm, 1, none⟩ (.slice none 0 0)).setCell ⟨bm, 2, none⟩ (.slice none 0 0)).setCell ⟨bm, 3, none⟩ (.slice none 0 0)).setCell ⟨bm, 4, none⟩ (.slice none 0 0)).setCell ⟨bm, 5, none⟩ (.slice none 0 0)).setCell ⟨bm, 6, none⟩ (.slice none 0 0)).setCell ⟨bm, 7, none⟩ (.slice none 0 0)) bm 28 #[.slice none 0 0, .slice none 0 0, .slice none 0 0, .slice none 0 0, .slice none 0 0, .slice none 0 0, .slice none 0 0, .slice none 0 0] := bb6.set_ 7 _
  clear c0 f0 c1 f1 c2 f2 c3 f3 c4 f4 c5 f5 c6 f6 c7 f7 ec ef bb0 bb1 bb2 bb3 bb4 bb5 bb6
  generalize ((((((((w.setCell ⟨bm, 0, none⟩ (.slice none 0 0)).setCell ⟨bm, 1, none⟩ (.slice none 0 0)).setCell ⟨bm, 2, none⟩ (.slice none 0 0)).setCell ⟨bm, 3, none⟩ (.slice none 0 0)).setCell ⟨bm, 4, none⟩ (.slice none 0 0)).setCell ⟨bm, 5, none⟩ (.slice none 0 0)).setCell ⟨bm, 6, none⟩ (.slice none 0 0)).setCell ⟨bm, 7, none⟩ (.slice none 0 0)) = W8 at *
  have e8 : Blk W8 be 43 #[u] := he.grown g8 (fun e => hne (Option.some.inj e))
  have g9 : W8.grownBy (W8.setCell ⟨be, 0, none⟩ (.iface 94 (.pointer (some ⟨fb, 0, none⟩)))) (some be) := only_setCell (g := be) (p := ⟨be, 0, none⟩) (only_refl _ _) rfl _
  have b9 := b8.grown g9 (fun e => hne (Option.some.inj e).symm)
  have e9 : Blk (W8.setCell ⟨be, 0, none⟩ (.iface 94 (.pointer (some ⟨fb, 0, none⟩)))) be 43 #[.iface 94 (.pointer (some ⟨fb, 0, none⟩))] := e8.set_ 0 _
  have ht : Turn (fun k => k = bm ∨ k = be) w (W8.setCell ⟨be, 0, none⟩ (.iface 94 (.pointer (some ⟨fb, 0, none⟩)))) := (Turn.of_only (S := fun k => k = bm ∨ k = be) g8 (fun k e => .inl (Option.some.inj e).symm)).plus (Turn.of_only g9 (fun k e => .inr (Option.some.inj e).symm))
  clear g8 b8 e8 g9
  generalize (W8.setCell ⟨be, 0, none⟩ (.iface 94 (.pointer (some ⟨fb, 0, none⟩)))) = Wf at *
  simp [bodyPostS, results, Tryz.results41, go_sem]
  exact ⟨b9, e9, ht⟩
set_option maxRecDepth 100000 in
set_option maxHeartbeats 400000 in
theorem mrd_idle (p q : Addr) (w : World) :
    CallsD Tryz.prog 41 #[.pointer (some p), .pointer (some q)] .returning w fun e u' w' => e = .returned (.tuple #[]) ∧ u' = .returning ∧ w' = w := by
  have h1 := assert_nil w
  refine callsD_of_wpS Tryz.func41 rfl fun c₀ cs hu => ?_
  refine wpS_seq (wpS_region ?_)
  simp [wpOpsS, go_sem, recoverD, hu, Tryz.ntmps41, h1]
  refine wpS_seq (wpS_region ?_)
  simp [wpOpsS, go_sem]
  refine wpS_cond (t := false) (by simp [go_sem]) ?_
  refine wpS_of_wp ?_
  simp only [Bool.false_eq_true, if_false]
  refine wp_skip ?_
  simp [bodyPostS, results, Tryz.results41, go_sem]
  cases c₀
  simp_all
set_option maxRecDepth 100000 in
set_option maxHeartbeats 1000000 in
theorem mmustR_no (p q r : Option Addr) (w : World) : Calls Tryz.prog 42 #[.agg #[.pointer p, .pointer q, .pointer r], .nilIface] w fun en w' => en = .returned (.agg #[.pointer p, .pointer q, .pointer r]) ∧ w.grownBy w' none := by
  have hg0 : w.grownBy ((w.alloc (.cells #[.pointer p, .pointer q, .pointer r] 55)).alloc (.cells #[.pointer none, .pointer none, .pointer none] 55)) none := only_alloc (only_alloc (only_refl _ _) _) _
  have HX := Lib.hid ((Blk.new w 55 #[.pointer p, .pointer q, .pointer r]).alloc (.cells #[.pointer none, .pointer none, .pointer none] 55))
  have HY : Hid (Blk ((w.alloc (.cells #[.pointer p, .pointer q, .pointer r] 55)).alloc (.cells #[.pointer none, .pointer none, .pointer none] 55)) (w.heap.size + 1) 55 #[.pointer none, .pointer none, .pointer none]) := Lib.hid (blk_new_at (by simp) _ _)
  have HG := Lib.hid hg0
  clear hg0
  go_enter Tryz.func42, Tryz.ntmps42
  go_upto_region 1 with fail
  generalize ((w.alloc (.cells #[.pointer p, .pointer q, .pointer r] 55)).alloc (.cells #[.pointer none, .pointer none, .pointer none] 55)) = W0 at *
  generalize hbr : w.heap.size + 1 = br at *
  generalize hbx : w.heap.size = bx at *
  have HBR : Hid (w.heap.size ≤ br) := Lib.hid (by omega)
  clear hbr hbx
  go_wp2_with fail
  refine (mgive_no _).mono ?_
  rintro en w1 ⟨rfl, rfl⟩
  have n0 := HX.out.cell 0
  have n1 := HX.out.cell 1
  have n2 := HX.out.cell 2
  have c0 := HY.out.cell 0
  have c1 := HY.out.cell 1
  have c2 := HY.out.cell 2
  have f0 := HY.out.frozen 0
  have f1 := HY.out.frozen 1
  have f2 := HY.out.frozen 2
  go_wp2_with fail
  have hst := only_setCell (g := br) (p := ⟨br, 2, none⟩) (only_setCell (g := br) (p := ⟨br, 1, none⟩) (only_setCell (g := br) (p := ⟨br, 0, none⟩) (only_refl W0 _) rfl (.pointer p)) rfl (.pointer q)) rfl (.pointer r)
  have hbf : Blk (((W0.setCell ⟨br, 0, none⟩ (.pointer p)).setCell ⟨br, 1, none⟩ (.pointer q)).setCell ⟨br, 2, none⟩ (.pointer r)) br 55 #[.pointer p, .pointer q, .pointer r] := (((HY.out.set_ 0 (.pointer p)).set_ 1 (.pointer q)).set_ 2 (.pointer r))
  have HGF := Lib.hid (only_new' (only_weak HG.out none) hst HBR.out)
  clear hst n0 n1 n2 c0 c1 c2 f0 f1 f2
  generalize (((W0.setCell ⟨br, 0, none⟩ (.pointer p)).setCell ⟨br, 1, none⟩ (.pointer q)).setCell ⟨br, 2, none⟩ (.pointer r)) = Wf at *
  refine bodyPost_ret (results_cell_row rfl _ _ br 55 #[.pointer p, .pointer q, .pointer r] _ _ rfl hbf Tryz.underlying55 rfl (by kernel_rfl)) rfl ?_
  exact ⟨rfl, HGF.out⟩
set_option maxRecDepth 100000 in
set_option maxHeartbeats 1000000 in
theorem mmustR_yes (fb : Nat) (w : World) : Calls Tryz.prog 42 #[.agg #[.pointer none, .pointer none, .pointer none], .iface 94 (.pointer (some ⟨fb, 0, none⟩))] w fun en w' => en = gaveF fb ∧ w.grownBy w' none := by
  go_enter Tryz.func42, Tryz.ntmps42
  go_wp2_with fail
  refine (mgive_yes _ _).mono ?_
  rintro en w1 ⟨rfl, rfl⟩
  go_wp2_with fail
  exact ⟨rfl, rfl, only_alloc (only_alloc (only_refl _ _) _) _⟩
/-- A reader stays as blocks are turned that are none of its own. -/
theorem Rdr.turn {T : Nat → Prop} {W W' : World} {g a bg : Nat} {bs : List UInt8} (h : Rdr W g bs a bg) (t : Turn T W W') (hg : ¬ T g) (hT : ∀ k, T k → ¬ IsU8 W k) : Rdr W' g bs a bg := by
  obtain ⟨bb, off, cap, h1, ⟨cs, fr, h4, h5⟩, h3⟩ := h
  have hbl : bb < W.heap.size := (Array.getElem?_eq_some_iff.1 h4).1
  exact ⟨bb, off, cap, h1.turn t hg, ⟨cs, fr, (t.block bb hbl (fun hk => hT bb hk ⟨cs, fr, h4⟩)).trans h4, h5⟩, h3⟩
end Go.Proofs.YtohhojbeclbedaaGreatDoor

/- Texts joined for the claim's sake: CEql, CPt. -/
import Derived.Test.YtmhbmeckdbdhpaaZSAddRow11
import Derived.Test.YtmhbmeckdbdhpaaZSAddRow38
import Derived.Test.YtmhbmeckdbdhpaaZSAddRow36
namespace Go.Proofs.Ytmhbmeckdbdhpaa
open Go.RowKit Go.Shelf

set_option maxHeartbeats 800000 in
theorem cequal_any (zs ys : List Int) (v u : Value) (w : World) (hE : Ints w v zs) (hU : Ints w u ys) (hlen : zs.length = ys.length) (hmx : zs.length ≤ 1000000) :
    Calls Try.prog 52 #[v, u] w fun e w' => e = .returned (.bool (decide (zs = ys))) ∧ w.grownBy w' none := by
  obtain ⟨A, c, rfl, hl, hc⟩ := hE
  obtain ⟨B, d, rfl, _, hd⟩ := hU
  have HC := Lib.hid hc
  have HD := Lib.hid hd
  have HLE := Lib.hid hlen
  have hmI : (zs.length : Int) ≤ 1000000 := by omega
  rw [← hlen]
  clear hc hd hlen hl
  go_enter Try.func52, Try.ntmps52
  go_wp2_with fail
  go_loopw [13] (fun i wr => ∃ k : Nat, k ≤ zs.length ∧ i = .int .i64 (k : Int) ∧ zs.take k = ys.take k ∧ w.grownBy wr none) (fun i _ => zs.length - (intOf i).toNat)
  case atStart => exact ⟨0, Nat.zero_le _, rfl, rfl, only_refl _ _⟩
  case round =>
    obtain ⟨k, hk, rfl, htk, hg⟩ := hrel
    have HG := Lib.hid hg
    have HTK := Lib.hid htk
    clear hg htk
    by_cases hlt : k < zs.length
    · obtain ⟨z, hz⟩ : ∃ z, zs[k]? = some z := ⟨_, List.getElem?_eq_getElem hlt⟩
      obtain ⟨y, hy⟩ : ∃ y, ys[k]? = some y := ⟨_, List.getElem?_eq_getElem (by rw [← HLE.out]; exact hlt)⟩
      obtain ⟨bb, off, rfl, hce⟩ := HC.out (by intro e0; rw [e0] at hlt; simp at hlt)
      obtain ⟨bu, ofu, rfl, hde⟩ := HD.out (by intro e0; rw [e0] at hy; simp at hy)
      have g0 := Keeps.grown HG.out _ _ (hce k _ hz)
      have g1 := Keeps.grown HG.out _ _ (hde k _ hy)
      have HZ := Lib.hid hz
      have HY := Lib.hid hy
      have hk0 : (0 : Int) ≤ (k : Int) := by omega
      have hk1 : (k : Int) < (zs.length : Int) := by omega
      clear hce hde hz hy
      by_cases hzy : z = y
      · have HT2 : Hid (zs.take (k + 1) = ys.take (k + 1)) := Lib.hid (by rw [List.take_add_one, List.take_add_one, HZ.out, HY.out, HTK.out, hzy])
        subst hzy
        go_upto_region 6 with fail
        go_quiet (fail)
        go_wp2_with fail
        go_roundw
        case rel => exact ⟨k + 1, by omega, by go_num, HT2.out, only_drewN HG.out _⟩
        case measure => simp [intOf]; omega
      · have hzd : decide (z = y) = false := decide_eq_false hzy
        have hzb : (z == y) = false := by simp [hzy]
        have hzn : (z != y) = true := by simp [hzy]
        have HNE : Hid (decide (zs = ys) = false) := Lib.hid (decide_eq_false fun e => by
          have h1 := HZ.out
          rw [e, HY.out] at h1
          exact hzy (Option.some.inj h1).symm)
        clear hzy
        go_upto_region 6 with fail
        go_quiet (fail)
        go_wp2_with fail
        go_ret
        exact ⟨by rw [HNE.out]; rfl, only_drewN HG.out _⟩
    · have hge : (zs.length : Int) ≤ (k : Int) := by omega
      have HEQ : Hid (decide (zs = ys) = true) := Lib.hid (decide_eq_true (by
        have := HTK.out
        rw [List.take_of_length_le (by omega), List.take_of_length_le (by have := HLE.out; omega)] at this
        exact this))
      clear hlt hk
      go_wp2_with fail
      go_ret
      exact ⟨by rw [HEQ.out]; rfl, HG.out⟩
end Go.Proofs.Ytmhbmeckdbdhpaa

namespace Go.Proofs.Ytmhbmeckdbdhpaa
open Go.RowKit Go.Shelf Go.Maps

theorem rowN_zeros (n : Nat) : rowN n (List.replicate n 0) = rowN n [] := by
  unfold rowN
  congr 1
  refine List.map_congr_left fun i hi => ?_
  rw [List.getD_eq_getElem?_getD, List.getElem?_replicate, if_pos (List.mem_range.1 hi)]; rfl
set_option maxRecDepth 100000 in
set_option maxHeartbeats 4000000 in
theorem cpart_any {L : List Nd} (hX : TX L) (lv : Value) (w : World) (hV : LaidV w lv L) :
    Calls Try.prog 32 #[lv] w fun en w' => (∃ vo vf, en = .returned (.tuple #[vo, vf]) ∧ Ints w' vo ((numL L).2.map Int.ofNat) ∧ KRow w' vf ((numL L).1.map (knN L (numL L).2))) ∧ w.grownBy w' none := by
  have HV := Lib.hid hV
  have HX := Lib.hid hX
  have hlI : (L.length : Int) ≤ 128 := by have := hX.len; omega
  obtain ⟨v2, vt, vp, rfl, hT, hR, hP⟩ := hV
  have HR := Lib.hid hR
  obtain ⟨A2, k2, rfl, _⟩ := id hT
  obtain ⟨At, kt, rfl, _⟩ := id hR
  obtain ⟨Ap, kp, rfl, _⟩ := id hP
  have e1 : (List.map Int.ofNat (rootsL L)).length = L.length := by rw [List.length_map, roots_len]
  have e2 : (List.map (prioL L) (List.range L.length)).length = L.length := by rw [List.length_map, List.length_range]
  rw [e1, e2] at HV ⊢
  clear hT hR hP hX e1 e2
  go_enter Try.func32, Try.ntmps32
  go_wp2_with fail
  refine wp_scope_straight ?_
  go_upto_region 2 with (refine wpList_make_ints rfl (.tmp 15) (.tmp 15) rfl rfl rfl (n := L.length) rfl (by omega) ?_; intro W3 hb3 hg3 hs3)
  have hg3' : w.grownBy W3 none := only_trans (only_alloc (only_refl _ _) _) hg3
  have hbx : Blk W3 w.heap.size 90 #[.slice A2 L.length k2, .slice At L.length kt, .slice Ap L.length kp] := (Blk.new w _ _).kept hg3
  have hof : Ints W3 (.slice (some ⟨(w.alloc (.cells #[.slice A2 L.length k2, .slice At L.length kt, .slice Ap L.length kp] 90)).heap.size, 0, none⟩) L.length L.length) ((ofK L 0).map Int.ofNat) := by
    refine rowN_ints ?_ (ofK_len HX.out.tw 0) (by omega)
    rw [ofK_0 HX.out.tw, rowN_zeros, ← rowN_nil]; exact hb3
  rw [World.size_alloc] at hof
  have HG3 := Lib.hid hg3'
  have HBX := Lib.hid hbx
  have HOF := Lib.hid hof
  clear hb3 hg3 hs3 hg3' hbx hof
  go_wp2_with fail
  refine wp_label ?_
  go_wp2_with fail
  go_loopw [4] (fun o W => ∃ (k : Nat) (A : Option Addr) (c : Nat), o = .slice A L.length c ∧ k ≤ L.length ∧ Ints W o ((ofK L k).map Int.ofNat) ∧ Blk W w.heap.size 90 #[.slice A2 L.length k2, .slice At L.length kt, .slice Ap L.length kp] ∧ w.grownBy W none) (fun o W => L.length + 2 - rankL L (decI W o) (L.length + 2))
  case atStart => exact ⟨0, _, _, rfl, Nat.zero_le _, HOF.out, HBX.out, HG3.out⟩
  case round =>
    obtain ⟨W0, rfl⟩ : ∃ W0, W0 = wr := ⟨_, rfl⟩
    obtain ⟨k, Ao, co, rfl, hk, hof, hbx, hgr⟩ := hrel
    have HOF := Lib.hid hof
    have HBX := Lib.hid hbx
    have HGR := Lib.hid hgr
    have b0 := hbx.cell 0
    have b1 := hbx.cell 1
    clear hof hbx hgr
    go_upto_region 4 with (refine wpList_make_ints rfl (.tmp 19) (.tmp 19) rfl rfl rfl (n := L.length) rfl (by omega) ?_; intro W4 hb4 hg4 hs4; have HB4 := Lib.hid hb4; have HG4 := Lib.hid hg4; have HS4 := Lib.hid hs4; clear hb4 hg4 hs4)
    have hb4 : Blk W4 W0.heap.size 3 (rowN L.length []) := by rw [← rowN_nil]; exact HB4.out
    have hbx4 := HBX.out.kept HG4.out
    have d1 := hbx4.cell 1
    have hB4 := hbx4.lt
    clear hbx4
    have hmk : (Instr.makeMap 114 none).run Try.prog W4 = .ok (.map (some W4.heap.size)) (W4.alloc (.map #[] 0)) := run_makeMap _ _
    go_wp2_with fail
    generalize hW5 : World.alloc _ _ = W5
    have hin : IN W0 L.length W0.heap.size W4.heap.size (.slice none 0 0) [] [] [] W5 := by
      rw [← hW5]
      exact ⟨only_alloc HG4.out _, Nat.le_refl _, HG4.out.size, hb4.alloc _, KMap.made W4, KOwn.nil_ _ _⟩
    have HIN := Lib.hid hin
    clear hW5 hin hb4 b0 b1 d1 hB4 hmk
    go_loopw [5, 25] (fun f i W => ∃ (q : Nat) (A : Option Addr) (c : Nat), f = .slice A (ptK L k q).length c ∧ q ≤ L.length ∧ i = .int .i64 (q : Int) ∧ IN W0 L.length W0.heap.size W4.heap.size f (ptK L k q) (ptK L k q) (ptL L k q).2 W) (fun _ i _ => L.length - (intOf i).toNat)
    case atStart => exact ⟨0, _, _, rfl, Nat.zero_le _, rfl, HIN.out⟩
    case round =>
      obtain ⟨q, Af, cf, rfl, hq, rfl, hin⟩ := hrel
      have HIQ := Lib.hid hin
      clear hin HIN
      by_cases hlt : q < L.length
      · obtain ⟨m, y, s, hy, hy5, _, _, hrt, _, _⟩ := root_at HX.out.tw hlt
        have HRT := Lib.hid hrt
        obtain ⟨bt, ot, hAt, r0⟩ := ints_at (k := q) (z := (m : Int)) HR.out (by rw [List.getElem?_map, root_get L hlt, hrt]; rfl)
        subst hAt
        have hgq := only_trans HGR.out HIQ.out.gr
        have R0 := Keeps.grown hgq _ _ r0
        have hbt : bt < wr.heap.size := cell_lt R0
        have hbx := HBX.out.kept HIQ.out.gr
        have b0 := hbx.cell 0
        have b1 := hbx.cell 1
        have b2 := hbx.cell 2
        have hq0 : (0 : Int) ≤ (q : Int) := by omega
        have hq1 : (q : Int) < (L.length : Int) := by omega
        obtain ⟨X, hXe⟩ : ∃ X, knN L (ofK L k) m = X := ⟨_, rfl⟩
        have HXE := Lib.hid hXe
        have HKN : Hid (KN X) := Lib.hid (hXe ▸ kn_small HX.out (fun j => by have := ofK_lt HX.out.tw k j; have := HX.out.len; omega) hy)
        have hlk := clook_any HX.out (ofK_len HX.out.tw k) (fun i hi => ofK_root HX.out.tw hi) hy hy5 (HV.out.keep (.grown hgq)) (HOF.out.keep (.grown HIQ.out.gr))
        rw [hXe] at hlk
        have HLK := Lib.hid hlk
        clear hrt r0 hgq hbx hXe hlk hy hy5
        go_upto_region 9 with fail
        refine wp_region_lit ?_
        refine wpList_split 5 _ _ rfl rfl fun Q2 hQ2 => ?_
        have HQ2 := Lib.hid hQ2
        clear hQ2
        go_wp2_with (go_at_call 51; go_must (refine HLK.out.mono ?_; rintro e W7 ⟨rfl, hg7⟩; have HI7 := Lib.hid (HIQ.out.kept hg7); clear hg7 b0 b1 b2 R0 hbt))
        refine HQ2.out _ _ ?_
        clear HQ2
        refine wpList_store_row rfl 97 (.tmp 10) (.tmp 33) rfl W7.heap.size (knA X) rfl rfl 97 (knC 0 false (0, 0) 0 []) (Blk.new W7 _ _) known_size rfl (knC_one _ _ _ _ _) ?_
        simp only [Act.put]
        generalize hW8 : World.setRow _ _ _ = W8
        have hg8 : W7.grownBy W8 none := by rw [← hW8]; exact only_setRow (only_alloc (only_refl _ _) _) (Nat.le_refl _) _
        have hbk : Blk W8 W7.heap.size 97 (knA X) := by rw [← hW8]; exact (Blk.new W7 _ _).row_ _
        have HI8 := Lib.hid (HI7.out.kept hg8)
        have HBK := Lib.hid hbk
        have HNE : Hid ((Value.slice Af (ptK L k q).length cf).ownBlock ≠ some W7.heap.size) := Lib.hid (fun e => by have := (World.ownsRow.lt HI7.out.fo _ e).2; omega)
        clear hW8 hg8 hbk
        go_upto_region 10 with fail
        refine wp_region_lit ?_
        refine wpList_val rfl (rc_move (c := .map (some W4.heap.size)) rfl rfl) ?_
        refine wpList_val rfl (rv_loadK rfl rfl HBK.out) ?_
        by_cases hmem : X ∈ ptK L k q
        · obtain ⟨c, hc⟩ := List.mem_iff_getElem?.1 hmem
          refine wpList_val rfl (rv_look rfl rfl rfl (HI8.out.mp.look_old HKN.out hc)) ?_
          simp only [Act.put, List.setIfInBounds_toArray, List.set_cons_zero, List.set_cons_succ]
          have HPT : Hid (ptL L k (q + 1) = ((ptL L k q).1, (ptL L k q).2 ++ [c])) := Lib.hid (pt_old HX.out.tw hlt (by rw [HRT.out, HXE.out]; exact hc))
          clear hmem hc
          have n0 := rowN_at HI8.out.nx hlt
          have f0 := HI8.out.nx.frozen q
          go_wp2_with fail
          go_roundw
          case rel =>
            have e1 : ptK L k (q + 1) = ptK L k q := by unfold ptK; rw [HPT.out]
            have e2 : (ptL L k (q + 1)).2 = (ptL L k q).2 ++ [c] := by rw [HPT.out]
            have hl := pt_len HX.out.tw (k := k) (q := q) (by omega)
            refine ⟨q + 1, Af, cf, by rw [e1], by omega, by go_num, ?_⟩
            rw [e1, e2]
            have h := HI8.out.num (by rw [hl]; exact hlt) c
            rw [hl] at h
            exact h
          case measure => simp [intOf]; omega
        · refine wpList_val rfl (rv_look rfl rfl rfl (HI8.out.mp.look_new HKN.out hmem)) ?_
          simp only [Act.put, List.setIfInBounds_toArray, List.set_cons_zero, List.set_cons_succ]
          have HPT : Hid (ptL L k (q + 1) = ((ptL L k q).1 ++ [m], (ptL L k q).2 ++ [(ptL L k q).1.length])) := Lib.hid (by have := pt_new HX.out.tw hlt (k := k) (by rw [HRT.out, HXE.out]; exact hmem); rw [HRT.out] at this; exact this)
          have HNM := Lib.hid hmem
          have hfI : ((ptK L k q).length : Int) ≤ 128 := by have := pt_few L k q; omega
          clear hmem
          go_upto_region 13 with fail
          refine region_acts (by kernel_rfl)
            [(7, .map (some W4.heap.size)), (10, .pointer (some ⟨W7.heap.size, 0, none⟩)), (11, .int .i64 ((ptK L k q).length : Int)), (44, .map (some W4.heap.size)), (45, knV X), (46, .int .i64 ((ptK L k q).length : Int)), (47, .slice Af (ptK L k q).length cf), (48, knV X)]
            (by kernel_rfl) [44, 45, 46, 47, 48, 49, 50, 5] (by kernel_rfl) (by kernel_rfl) (by decide) ?h0 [5, 6, 7, 8]
            (TPt W0 L.length W0.heap.size W4.heap.size (.slice Af (ptK L k q).length cf) (ptK L k q) (ptL L k q).2 W7.heap.size X) ?hT ?hd ?reads ?steps ?hT0 ?hQ
          case h0 =>
            intro p hp hn
            simp only [List.mem_cons, List.not_mem_nil, or_false] at hp
            rcases hp with rfl | rfl | rfl | rfl | rfl | rfl | rfl | rfl
            all_goals first | rfl | exact absurd (by dsimp only; decide) hn
          case hT => exact fun d f g W h he => h.congr (he 5 rfl) (he 49 rfl) (he 50 rfl)
          case hd =>
            intro d i f W hi h
            simp only [List.mem_cons, List.not_mem_nil, or_false, not_or] at hi
            obtain ⟨i5, i6, i7, i8⟩ := hi
            exact h.same (doneD_ne d (Ne.symm i5)).symm (doneD_ne d (Ne.symm i6)).symm (doneD_ne d (Ne.symm i7)).symm (doneD_ne d (Ne.symm i8)).symm
          case reads =>
            intro i o ho hn
            have h9 : i = 0 ∨ i = 1 ∨ i = 2 ∨ i = 3 ∨ i = 4 := by
              have h1 := (Array.getElem?_eq_some_iff.1 ho).1
              simp only [List.size_toArray, List.length_cons, List.length_nil] at h1
              simp only [List.mem_cons, List.not_mem_nil, or_false] at hn
              omega
            rcases h9 with rfl | rfl | rfl | rfl | rfl
            · cases ho
              exact ⟨44, _, rfl, rfl, fun d b W' hdi hcl hT' henv => rc_move rfl (henv 7 _ (by simp [Op.operands]) rfl)⟩
            · cases ho
              refine ⟨45, _, rfl, rfl, fun d b W' hdi hcl hT' henv => ?_⟩
              have c8 : d 8 = true → d 7 = true := fun h => hcl 8 _ ⟨7, Ground.chain⟩ h rfl (by simp) rfl
              have d7 : d 7 = false := not_done fun h => by rw [hcl 7 _ ⟨1, Ground.data⟩ h rfl (by simp) rfl] at hdi; cases hdi
              have d8 : d 8 = false := not_done fun h => by rw [c8 h] at d7; cases d7
              refine rv_loadK rfl (henv 10 _ (by simp [Op.operands]) rfl) ?_
              cases d6 : d 6 with
              | false => exact ((tpt_a d6 d7 d8).1 hT').2.1
              | true => exact ((tpt_b d6 d7 d8).1 hT').2
            · cases ho
              exact ⟨46, _, rfl, rfl, fun d b W' hdi hcl hT' henv => rc_move rfl (henv 11 _ (by simp [Op.operands]) rfl)⟩
            · cases ho
              refine ⟨47, _, rfl, rfl, fun d b W' hdi hcl hT' henv => ?_⟩
              have c7 : d 7 = true → d 6 = true := fun h => hcl 7 _ ⟨6, Ground.chain⟩ h rfl (by simp) rfl
              have c8 : d 8 = true → d 7 = true := fun h => hcl 8 _ ⟨7, Ground.chain⟩ h rfl (by simp) rfl
              have d6 : d 6 = false := not_done fun h => by rw [hcl 6 _ ⟨3, Ground.data⟩ h rfl (by simp) rfl] at hdi; cases hdi
              have d7 : d 7 = false := not_done fun h => by rw [c7 h] at d6; cases d6
              have d8 : d 8 = false := not_done fun h => by rw [c8 h] at d7; cases d7
              exact rc_move rfl ((tpt_a d6 d7 d8).1 hT').2.2.1
            · cases ho
              refine ⟨48, _, rfl, rfl, fun d b W' hdi hcl hT' henv => ?_⟩
              have c6 : d 6 = true → d 5 = true := fun h => hcl 6 _ ⟨5, Ground.data⟩ h rfl (by simp) rfl
              have c7 : d 7 = true → d 6 = true := fun h => hcl 7 _ ⟨6, Ground.chain⟩ h rfl (by simp) rfl
              have c8 : d 8 = true → d 7 = true := fun h => hcl 8 _ ⟨7, Ground.chain⟩ h rfl (by simp) rfl
              have d5 : d 5 = false := not_done fun h => by rw [hcl 5 _ ⟨4, Ground.data⟩ h rfl (by simp) rfl] at hdi; cases hdi
              have d6 : d 6 = false := not_done fun h => by rw [c6 h] at d5; cases d5
              have d7 : d 7 = false := not_done fun h => by rw [c7 h] at d6; cases d6
              have d8 : d 8 = false := not_done fun h => by rw [c8 h] at d7; cases d7
              exact rv_loadK rfl (henv 10 _ (by simp [Op.operands]) rfl) ((tpt_a d6 d7 d8).1 hT').2.1
          case steps =>
            intro i o ho hi
            have h4 : i = 5 ∨ i = 6 ∨ i = 7 ∨ i = 8 := by simpa using hi
            rcases h4 with rfl | rfl | rfl | rfl
            · cases ho
              refine ⟨fun t e => by cases e; rfl, fun d b W' hb hdi hpre hcl hT' henv => ?_⟩
              have c6 : d 6 = true → d 5 = true := fun h => hcl 6 _ ⟨5, Ground.data⟩ h rfl (by simp) rfl
              have c7 : d 7 = true → d 6 = true := fun h => hcl 7 _ ⟨6, Ground.chain⟩ h rfl (by simp) rfl
              have c8 : d 8 = true → d 7 = true := fun h => hcl 8 _ ⟨7, Ground.chain⟩ h rfl (by simp) rfl
              have d6 : d 6 = false := not_done fun h => by rw [c6 h] at hdi; cases hdi
              have d7 : d 7 = false := not_done fun h => by rw [c7 h] at d6; cases d6
              have d8 : d 8 = false := not_done fun h => by rw [c8 h] at d7; cases d7
              obtain ⟨hz, hbk, e5, _⟩ := (tpt_a d6 d7 d8).1 hT'
              have hg : W'.grownBy (W'.alloc (.cells (knA X) 97)) none := only_alloc (only_refl _ _) _
              refine wp_buildK rfl (henv 48 _ (by simp [Op.operands]) rfl) ⟨_, rfl, ?_⟩
              exact (tpt_a (by rw [doneD_ne d (by decide)]; exact d6) (by rw [doneD_ne d (by decide)]; exact d7) (by rw [doneD_ne d (by decide)]; exact d8)).2 ⟨hz.kept hg, hbk.kept hg, (act_put_ne _ (by decide)).trans e5, fun _ => ⟨W'.heap.size, act_put_atC _ (by rw [hb]; show _ < 62; decide), Blk.new _ _ _⟩⟩
            · cases ho
              refine ⟨fun t e => by cases e; rfl, fun d b W' hb hdi hpre hcl hT' henv => ?_⟩
              have c7 : d 7 = true → d 6 = true := fun h => hcl 7 _ ⟨6, Ground.chain⟩ h rfl (by simp) rfl
              have c8 : d 8 = true → d 7 = true := fun h => hcl 8 _ ⟨7, Ground.chain⟩ h rfl (by simp) rfl
              have d7 : d 7 = false := not_done fun h => by rw [c7 h] at hdi; cases hdi
              have d8 : d 8 = false := not_done fun h => by rw [c8 h] at d7; cases d7
              have d5 : d 5 = true := hpre ⟨5, Ground.data⟩ (by simp) rfl
              obtain ⟨hz, hbk, e5, h5⟩ := (tpt_a hdi d7 d8).1 hT'
              obtain ⟨g, hg1, hg2⟩ := h5 d5
              refine wp_appendK (.tmp 47) (.tmp 49) rfl (henv 47 _ (by simp [Op.operands, Call.operands]) rfl) hg1 hz.fo hg2 (by have := pt_few L k q; omega) hz.gr.size (fun t' W5 ho5 hg5 => ⟨_, rfl, ?_⟩)
              exact (tpt_b (doneD_at d 6) (by rw [doneD_ne d (by decide)]; exact d7) (by rw [doneD_ne d (by decide)]; exact d8)).2 ⟨⟨t', act_put_atC _ (by rw [hb]; show _ < 62; decide), hz.find hg5 ho5⟩, box_beside hbk HNE.out hg5⟩
            · cases ho
              refine ⟨fun t e => (by cases e), fun d b W' hb hdi hpre hcl hT' henv => ?_⟩
              have c8 : d 8 = true → d 7 = true := fun h => hcl 8 _ ⟨7, Ground.chain⟩ h rfl (by simp) rfl
              have d8 : d 8 = false := not_done fun h => by rw [c8 h] at hdi; cases hdi
              have d6 : d 6 = true := hpre ⟨6, Ground.chain⟩ (by simp) rfl
              obtain ⟨⟨t', e1, hz⟩, _⟩ := (tpt_b d6 hdi d8).1 hT'
              refine wp_keyK rfl (henv 44 _ (by simp [Op.operands]) rfl) (henv 45 _ (by simp [Op.operands]) rfl) (henv 46 _ (by simp [Op.operands]) rfl) hz.mp HKN.out HNM.out (by have := pt_few L k q; omega) (fun W5 hm5 ht5 => ⟨undef, rfl, ?_⟩)
              exact (tpt_c (doneD_at d 7) (by rw [doneD_ne d (by decide)]; exact d8)).2 ⟨t', e1, hz.key ht5 hm5⟩
            · cases ho
              refine ⟨fun t e => by cases e; rfl, fun d b W' hb hdi hpre hcl hT' henv => ?_⟩
              have d7 : d 7 = true := hpre ⟨7, Ground.chain⟩ (by simp) rfl
              obtain ⟨t', e1, hz⟩ := (tpt_c d7 hdi).1 hT'
              exact wp_assign rfl ⟨_, rfl, (tpt_d (doneD_at d 8)).2 ⟨t', (act_put_atC _ (by rw [hb]; show _ < 62; decide)).trans e1, hz⟩⟩
          case hT0 =>
            exact (tpt_a rfl rfl rfl).2 ⟨HI8.out.kept (only_drew (only_refl _ _)), HBK.out.kept (only_drew (only_refl _ _)), rfl, fun h => (by cases h)⟩
          case hQ =>
            intro d vs W' hd hv hT'
            obtain ⟨t', e5, hz⟩ := (tpt_d (hd 8 (by simp))).1 hT'
            obtain ⟨A9, c9, e9⟩ := hz.fo.len
            rw [e9] at e5 hz
            have HZ := Lib.hid hz
            have n0 := rowN_at hz.nx hlt
            have f0 := hz.nx.frozen q
            simp only [List.foldl_cons, List.foldl_nil, List.setIfInBounds_toArray, List.set_cons_zero, List.set_cons_succ]
            rw [e5]
            clear hv hT' hz hd e5 e9
            go_wp2_with fail
            go_roundw
            case rel =>
              have e1 : ptK L k (q + 1) = ptK L k q ++ [X] := by unfold ptK; rw [HPT.out, List.map_append, ← HXE.out]; rfl
              have e2 : (ptL L k (q + 1)).2 = (ptL L k q).2 ++ [(ptK L k q).length] := by rw [HPT.out]; unfold ptK; rw [List.length_map]
              have hl := pt_len HX.out.tw (k := k) (q := q) (by omega)
              refine ⟨q + 1, A9, c9, by rw [e1], by omega, by go_num, ?_⟩
              rw [e1, e2]
              have h := HZ.out.num (by rw [hl]; exact hlt) (ptK L k q).length
              rw [hl] at h
              exact h
            case measure => simp [intOf]; omega
      · have hge : (L.length : Int) ≤ (q : Int) := by omega
        have HQE : Hid (q = L.length) := Lib.hid (by omega)
        have hz := HIQ.out
        have HPA := Lib.hid (pt_all L k)
        have hks : ptK L k L.length = (fsK L (k + 1)).map (knN L (ofK L k)) := by unfold ptK; rw [HPA.out]
        have hnx := hz.nx
        rw [HQE.out, HPA.out] at hnx
        have hni := rowN_ints hnx (ofK_len HX.out.tw (k + 1)) (by have := HX.out.len; omega)
        have hfo := hz.fo.row
        rw [HQE.out, hks] at hfo
        have hgq := HIQ.out.gr
        have heq := cequal_any ((ofK L (k + 1)).map Int.ofNat) ((ofK L k).map Int.ofNat) _ _ wr hni (HOF.out.keep (.grown hgq)) (by rw [List.length_map, List.length_map, ofK_len HX.out.tw, ofK_len HX.out.tw]) (by rw [List.length_map, ofK_len HX.out.tw]; have := HX.out.len; omega)
        have HEQ := Lib.hid heq
        have HNI := Lib.hid hni
        have HFO := Lib.hid hfo
        have HGQ := Lib.hid hgq
        clear hz hks hnx hni hfo hgq heq hlt hq
        by_cases he : ofK L (k + 1) = ofK L k
        · have HE := Lib.hid he
          have HDE : Hid (decide ((ofK L (k + 1)).map Int.ofNat = (ofK L k).map Int.ofNat) = true) := Lib.hid (decide_eq_true (by rw [he]))
          clear he
          go_wp2_with (go_at_call 52; go_must (refine HEQ.out.mono ?_; rw [HDE.out]; rintro e W9 ⟨rfl, hg9⟩; have HG9 := Lib.hid hg9; clear hg9))
          rw [Exit.noGoto_ret]
          refine bodyPost_ret (results_tmp2 rfl _ _ _) rfl ?_
          have hs := num_stop HX.out.tw HE.out
          have e : ptK L k q = (fsK L (k + 1)).map (knN L (ofK L k)) := by rw [HQE.out]; unfold ptK; rw [HPA.out]
          refine ⟨⟨_, _, rfl, ?_, ?_⟩, only_trans (only_trans HGR.out HGQ.out) HG9.out⟩
          · rw [← hs.1]
            exact HOF.out.keep (.grown (only_trans HGQ.out HG9.out))
          · rw [← hs.1, ← hs.2]
            show KRow W9 (.slice Af (ptK L k q).length cf) _
            rw [e]
            exact HFO.out.keep (.grown HG9.out)
        · have HNE := Lib.hid he
          have HDE : Hid (decide ((ofK L (k + 1)).map Int.ofNat = (ofK L k).map Int.ofNat) = false) := Lib.hid (decide_eq_false (fun e => he (mapN_inj e)))
          clear he
          go_wp2_with (go_at_call 52; go_must (refine HEQ.out.mono ?_; rw [HDE.out]; rintro e W9 ⟨rfl, hg9⟩; have HG9 := Lib.hid hg9; clear hg9))
          have hkl := more_lt HX.out.tw HNE.out
          go_roundw
          case rel => exact ⟨k + 1, _, _, rfl, by omega, HNI.out.keep (.grown HG9.out), HBX.out.kept (only_trans HGQ.out HG9.out), only_trans (only_trans HGR.out HGQ.out) HG9.out⟩
          case measure =>
            rw [dec_ints (HNI.out.keep (.grown HG9.out)), dec_ints HOF.out, rank_at HX.out.tw HNE.out _ (by omega)]
            have := rank_ge (L := L) (k := k + 1) (L.length + 2) (by omega)
            omega
end Go.Proofs.Ytmhbmeckdbdhpaa

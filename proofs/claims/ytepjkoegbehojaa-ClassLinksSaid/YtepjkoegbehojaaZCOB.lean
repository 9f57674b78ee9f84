/- class: Of: what it answers. -/
import Derived.Test.YtepjkoegbehojaaZCOA
import Derived.Test.YtepjkoegbehojaaZCLyB
import Derived.Test.YtepjkoegbehojaaZCPt
import Derived.Test.YtepjkoegbehojaaZMgBJ
import Derived.Test.YtepjkoegbehojaaZMgAR
import Derived.Test.YtepjkoegbehojaaZMgAN
namespace Go.Proofs.Ytepjkoegbehojaa
open Go.RowKit Go.Shelf

theorem ocheckB_is {xs : List Nd} {v : Value} {w : World} {a e : Int} (h : orderL xs = (a, e)) (hT : Tbl w v xs) (hxs : xs.length ≤ 1000) : Calls Try.prog 21 #[v] w fun en w' => en = .returned (.tuple #[.int .i64 a, .int .i64 e]) ∧ w.grownBy w' none := by
  have := ocheck_any xs v w hT hxs
  rw [h] at this
  exact this
theorem cof_results {tmps : Array Value} {W : World} {g : Nat} {a0 a1 a2 : Value} {e : Int} (hp : tmps.getD 2 undef = .pointer (some ⟨g, 0, none⟩)) (he : tmps.getD 3 undef = .int .i64 e) (hb : Blk W g 27 #[a0, a1, a2]) :
    (results Try.f9 tmps).run Try.prog W = .ok (.tuple #[.agg #[a0, a1, a2], .int .i64 e]) W := by
  have hp' : tmps[2]?.getD undef = .pointer (some ⟨g, 0, none⟩) := by simpa using hp
  have he' : tmps[3]?.getD undef = .int .i64 e := by simpa using he
  have hs : (Try.prog.info? 27).map (·.size) = some 3 := by kernel_rfl
  simp [results, Try.results9, hp', he', asAddr, run_loadVar_row W g _ 27 _ _ _ hb Try.underlying27 rfl (by exact hs)]

set_option maxRecDepth 100000 in
set_option maxHeartbeats 4000000 in
theorem cof_con : OfC := by
  intro xs v w hT hxs
  obtain ⟨a, e, hae⟩ : ∃ a e, orderL xs = (a, e) := ⟨_, _, rfl⟩
  have HAE := Lib.hid hae
  have HT := Lib.hid hT
  obtain ⟨A, cap, rfl, _⟩ := id hT
  by_cases h0 : e = 0
  · subst h0
    have hK : OKT xs := (ord_of (show (orderL xs).2 = 0 by rw [hae])).ok
    have HK := Lib.hid hK
    have HX := Lib.hid (tx_two hK)
    have HCL : Hid (clsT xs = ⟨(numL (twoL xs)).1.map (clsN (twoL xs) xs.length (numL (twoL xs)).2), (numL (twoL xs)).2.map Int.ofNat, (List.range (twoL xs).length).map (prioL (twoL xs))⟩) := Lib.hid (by unfold clsT; rw [hae, if_pos rfl])
    rw [hae]
    clear hT hae hK
    go_enter Try.func9, Try.ntmps9
    go_upto_region 4 with (go_at_call 21; go_must (refine (ocheckB_is HAE.out (HT.out.keep (.grown (only_alloc (only_refl _ _) _))) hxs).mono ?_; rintro en W1 ⟨rfl, hg1⟩; have HG1 := Lib.hid hg1; have HB1 := Lib.hid ((Blk.new w _ _).kept hg1); clear hg1))
    have HGW := Lib.hid (only_trans (only_alloc (only_refl w none) _) HG1.out)
    go_upto_region 5 with (go_at_call 24; go_must (refine (clay_any xs HK.out _ _ (HT.out.keep (.grown HGW.out))).mono ?_; rintro en W2 ⟨⟨lv, rfl, hl⟩, hg2⟩; have HLV := Lib.hid hl; have HG2 := Lib.hid hg2; obtain ⟨v2, vt, vp, rfl, ⟨A2, c2, rfl, _⟩, ⟨At, ct, rfl, _⟩, hP⟩ := hl; have HP := Lib.hid hP; obtain ⟨Ap, cp, rfl, _⟩ := hP; simp only [List.length_map, roots_len, List.length_range] at HLV HP ⊢; clear hg2))
    generalize hLL : twoL xs = L at *
    have HLL := Lib.hid hLL
    have hlI : (L.length : Int) ≤ 128 := by have := HX.out.len; omega
    clear hLL
    generalize hW3 : World.alloc _ _ = W3
    have hg3 : W2.grownBy W3 none := by rw [← hW3]; exact only_alloc (only_refl _ _) _
    have hb3 : Blk W3 W2.heap.size 61 #[.slice A2 L.length c2, .slice At L.length ct, .slice Ap L.length cp] := by rw [← hW3]; exact Blk.new W2 _ _
    have l0 := hb3.cell 0
    have l1 := hb3.cell 1
    have l2 := hb3.cell 2
    have HB3 := Lib.hid hb3
    have HG3 := Lib.hid hg3
    clear hW3 hb3 hg3
    go_upto_region 6 with (go_at_call 25; go_must (refine (cpart_any HX.out _ _ (HLV.out.keep (.grown HG3.out))).mono ?_; rintro en W4 ⟨⟨vo, vf, rfl, ho, hf⟩, hg4⟩; have HOF := Lib.hid ho; have HFO := Lib.hid hf; have HG4 := Lib.hid hg4; obtain ⟨Ao, co, rfl, _⟩ := ho; obtain ⟨Af, cf, rfl, _⟩ := hf; have hnl := num_len HX.out.tw; simp only [List.length_map, hnl] at HOF HFO ⊢; clear hg4 hnl l0 l1 l2))
    have l2 := (HB3.out.kept HG4.out).cell 2
    have hl2 := (HB3.out.kept HG4.out).lt
    go_upto_region 7 with fail
    obtain ⟨fs, os, hN⟩ : ∃ fs os, numL L = (fs, os) := ⟨_, _, rfl⟩
    rw [hN] at HOF HFO HCL ⊢
    dsimp only at HOF HFO HCL ⊢
    have HN := Lib.hid hN
    have hfl := first_le L
    rw [hN] at hfl
    dsimp only at hfl
    have hfI : (fs.length : Int) ≤ 128 := by omega
    clear hN l2 hl2
    generalize hW5 : World.alloc _ _ = W5
    have hoc : OC W4 (.slice none 0 0) (.slice Ao L.length co) (.slice Ap L.length cp) [] W5 := by
      rw [← hW5]
      exact ⟨only_alloc (only_refl _ _) _, Blk.new W4 _ _, CTw.start _ _⟩
    have HOC := Lib.hid hoc
    clear hW5 hoc
    go_wp2_with fail
    go_loopw [36] (fun i W => ∃ (k : Nat) (vc : Value) (cs : List (Nd × Value)), k ≤ fs.length ∧ i = .int .i64 (k : Int) ∧ cs.map (·.1) = (fs.take k).map (knN L os) ∧ OC W4 vc (.slice Ao L.length co) (.slice Ap L.length cp) cs W) (fun i _ => fs.length - (intOf i).toNat)
    case atStart => exact ⟨0, _, [], Nat.zero_le _, rfl, rfl, HOC.out⟩
    case round =>
      obtain ⟨k, vc, cs, hk, rfl, hcs, hoc⟩ := hrel
      have HOC := Lib.hid hoc
      have HCS := Lib.hid hcs
      have hcl : cs.length = k := by have := congrArg List.length hcs; rw [List.length_map, List.length_map, List.length_take] at this; omega
      have HCLn := Lib.hid hcl
      clear hcs hoc
      by_cases hlt : k < fs.length
      · obtain ⟨m, hm⟩ : ∃ m, fs[k]? = some m := ⟨_, List.getElem?_eq_getElem hlt⟩
        have HM := Lib.hid hm
        obtain ⟨A0, c0, hA0, hr0⟩ := HFO.out
        obtain ⟨bf, ofs, hb0, hr1⟩ := hr0 (by intro e; have h := congrArg List.length e; rw [List.length_map, List.length_nil] at h; omega)
        rw [List.length_map] at hA0
        obtain ⟨rfl, rfl⟩ : Af = A0 ∧ cf = c0 := by simpa using hA0
        subst hb0
        have hrx := hr1 k (knN L os m) (by rw [List.getElem?_map, hm]; rfl)
        obtain ⟨x, hxe⟩ : ∃ x, knN L os m = x := ⟨_, rfl⟩
        rw [hxe] at hrx
        have HXE := Lib.hid hxe
        have HRX : Hid (wr.rangeAt bf (ofs + k * 21) (knA x).toList) := Lib.hid (fun j u hu => Keeps.grown HOC.out.gr _ _ (hrx j u hu))
        have hk0 : (0 : Int) ≤ (k : Int) := by omega
        have hk1 : (k : Int) < (fs.length : Int) := by omega
        clear hm hA0 hr0 hr1 hrx hxe
        go_upto_region 9 with fail
        refine wp_region_lit ?_
        refine wpList_val rfl (rv_indexK (k := k) rfl rfl rfl hlt) ?_
        refine wpList_val rfl (rv_loadKm rfl rfl HRX.out) ?_
        simp only [Act.put, List.setIfInBounds_toArray, List.set_cons_zero, List.set_cons_succ]
        refine wpList_split 1 _ _ rfl rfl fun Q2 hQ2 => ?_
        have HQ2 := Lib.hid hQ2
        clear hQ2
        go_wp2_with fail
        refine HQ2.out _ _ ?_
        clear HQ2
        refine wpList_store_row rfl 68 (.tmp 11) (.tmp 39) rfl wr.heap.size (knA x) rfl rfl 68 (knC 0 false (0, 0) 0 []) (Blk.new wr _ _) known_size rfl (knC_one _ _ _ _ _) ?_
        simp only [Act.put]
        generalize hW8 : World.setRow _ _ _ = W8
        have hg8 : wr.grownBy W8 none := by rw [← hW8]; exact only_setRow (only_alloc (only_refl _ _) _) (Nat.le_refl _) _
        have hbk : Blk W8 wr.heap.size 68 (knA x) := by rw [← hW8]; exact (Blk.new wr _ _).row_ _
        have HO8 := Lib.hid (HOC.out.kept hg8)
        have HBK := Lib.hid hbk
        clear hW8 hg8 hbk
        go_upto_region 10 with fail
        have HKN : Hid (KN x) := Lib.hid (by
          rw [← HXE.out]
          have hL := HX.out.tw
          obtain ⟨i0, hi0, _⟩ := (cls_num hL).first k m (by rw [HN.out]; exact HM.out)
          obtain ⟨y, hy, _⟩ := live_some (roots_live hL m (List.mem_of_getElem? hi0))
          have h0 : 0 < L.length := by have := (List.getElem?_eq_some_iff.1 hy).1; omega
          have hos : os = (numL L).2 := by rw [HN.out]
          rw [hos]
          exact kn_small HX.out (fun j => by have h1 := num_lt hL h0 j; have h2 := first_le L; have h3 := HX.out.len; omega) hy)
        obtain ⟨Av, cv, hvc⟩ := HO8.out.ct.len
        subst hvc
        refine region_chainW (by kernel_rfl) (by kernel_rfl) (by kernel_rfl) [40, 41, 42, 43, 44, 45, 46] (by kernel_rfl) (by kernel_rfl) (by decide)
          [(9, .pointer (some ⟨W4.heap.size, 0, none⟩)), (11, .pointer (some ⟨wr.heap.size, 0, none⟩)), (40, .pointer (some ⟨W4.heap.size, 0, none⟩)), (41, .slice Av cs.length cv), (42, knV x), (46, .pointer (some ⟨W4.heap.size, 0, none⟩))]
          ?h0 [3, 4, 5, 7] (by kernel_rfl) (by kernel_rfl) (by decide) (by kernel_rfl) (TCl W8 W4 (.slice Av cs.length cv) cs x) ?hT ?reads ?steps (only_drew (only_refl _ _)) ?hQ
        case h0 =>
          intro p hp hn
          simp only [List.mem_cons, List.not_mem_nil, or_false] at hp
          rcases hp with rfl | rfl | rfl | rfl | rfl | rfl
          all_goals first | rfl | exact absurd (by dsimp only; decide) hn
        case hT =>
          intro j f g W' hj he
          match j, hj with
          | 0, hj => exact hj
          | 1, ⟨e', h1, h2⟩ => exact ⟨e', (he 0 3 _ 43 (by decide) rfl rfl rfl).symm.trans h1, h2⟩
          | 2, ⟨e', g', h1, h2⟩ => exact ⟨e', g', (he 1 4 _ 44 (by decide) rfl rfl rfl).symm.trans h1, h2⟩
          | 3, ⟨e', v', Wa, h1, h2⟩ => exact ⟨e', v', Wa, (he 2 5 _ 45 (by decide) rfl rfl rfl).symm.trans h1, h2⟩
          | 4, hj => exact hj
        case reads =>
          intro i o ho hn
          have hrd : ∀ j f W', j < 4 → TCl W8 W4 (.slice Av cs.length cv) cs x j f W' → Blk W' W4.heap.size 27 #[.slice Av cs.length cv, .slice Ao L.length co, .slice Ap L.length cp] ∧ Blk W' wr.heap.size 68 (knA x) := by
            intro j f W' hj hT'
            have plain : ∀ {W'}, W8.grownBy W' none → Blk W' W4.heap.size 27 #[.slice Av cs.length cv, .slice Ao L.length co, .slice Ap L.length cp] ∧ Blk W' wr.heap.size 68 (knA x) := fun hg => ⟨(HO8.out.kept hg).bt, HBK.out.kept hg⟩
            match j, hj, hT' with
            | 0, _, hT' => exact plain hT'
            | 1, _, ⟨_, _, _, hg⟩ => exact plain hg
            | 2, _, ⟨_, _, _, _, _, hg⟩ => exact plain hg
            | 3, _, ⟨_, _, Wa, _, hg, hg5, _⟩ =>
              have h8 := HO8.out.kept hg
              exact ⟨(h8.mid hg5).2, (HBK.out.kept hg).grown hg5 (own_cls_ne h8.ct (HBK.out.kept hg) (by decide))⟩
          have h9 : i = 0 ∨ i = 1 ∨ i = 2 ∨ i = 6 := by
            have h1 := (Array.getElem?_eq_some_iff.1 ho).1
            simp only [List.size_toArray, List.length_cons, List.length_nil] at h1
            simp only [List.mem_cons, List.not_mem_nil, or_false] at hn
            omega
          rcases h9 with rfl | rfl | rfl | rfl
          · cases ho
            exact ⟨40, _, rfl, rfl, fun j f b W' hj hT' henv => rc_table0 rfl (henv 9 _ (by simp [Op.operands]) rfl)⟩
          · cases ho
            exact ⟨41, _, rfl, rfl, fun j f b W' hj hT' henv => rv_loadCs rfl (henv 40 _ (by simp [Op.operands]) rfl) ((hrd j f W' hj hT').1.cell 0)⟩
          · cases ho
            exact ⟨42, _, rfl, rfl, fun j f b W' hj hT' henv => rv_loadK rfl (henv 11 _ (by simp [Op.operands]) rfl) (hrd j f W' hj hT').2⟩
          · cases ho
            exact ⟨46, _, rfl, rfl, fun j f b W' hj hT' henv => rc_table0 rfl (henv 9 _ (by simp [Op.operands]) rfl)⟩
        case steps =>
          intro j i o hj ho
          have h4 : j = 0 ∨ j = 1 ∨ j = 2 ∨ j = 3 := by
            have := (List.getElem?_eq_some_iff.1 hj).1
            simp only [List.length_cons, List.length_nil] at this
            omega
          rcases h4 with rfl | rfl | rfl | rfl
          · cases hj
            cases ho
            refine ⟨fun t e => by cases e; rfl, fun b W' hb hT1 henv => ?_⟩
            have hg : W8.grownBy W' none := hT1
            refine wp_told rfl (henv 42 _ (by simp [Op.operands, Call.operands]) rfl) (ctold_any x HKN.out W') ?_
            rintro en W5' ⟨e', rfl, hE, hg5⟩
            exact ⟨_, rfl, _, rfl, e', act_put_atC _ (by rw [hb]; show _ < 69; decide), hE, only_trans hg hg5⟩
          · cases hj
            cases ho
            refine ⟨fun t e => by cases e; rfl, fun b W' hb hT1 henv => ?_⟩
            obtain ⟨e', h1, h2, hg⟩ := hT1
            obtain ⟨A3, c3, rfl, _⟩ := id h2
            exact wp_buildC rfl h1 ⟨_, rfl, _, W'.heap.size, act_put_atC _ (by rw [hb]; show _ < 69; decide), Blk.new _ _ _, h2.kept (only_alloc (only_refl _ _) _), only_alloc hg _⟩
          · cases hj
            cases ho
            refine ⟨fun t e => by cases e; rfl, fun b W' hb hT1 henv => ?_⟩
            obtain ⟨e', g', h1, h2, h3, hg⟩ := hT1
            have h8 := HO8.out.kept hg
            exact wp_appendC (.tmp 41) (.tmp 44) rfl (henv 41 _ (by simp [Op.operands, Call.operands]) rfl) h1 h8.ct h2 h3.up (by have := HCLn.out; omega) h8.gr.size (fun v' Wb ho5 hg5 => ⟨_, rfl, e', v', W', act_put_atC _ (by rw [hb]; show _ < 69; decide), hg, hg5, ho5⟩)
          · cases hj
            cases ho
            refine ⟨fun t e => (by cases e), fun b W' hb hT1 henv => ?_⟩
            obtain ⟨e', v', Wa, h1, hg, hg5, ho5⟩ := hT1
            obtain ⟨A5, c5, rfl⟩ := ho5.len
            have h8 := HO8.out.kept hg
            exact wp_storeCs rfl (henv 46 _ (by simp [Op.operands]) rfl) h1 (h8.mid hg5).2 rfl ⟨undef, rfl, e', _, Wa, W', rfl, hg, hg5, ho5⟩
        case hQ =>
          intro vs W' hv hT4
          obtain ⟨e', v', Wa, Wb, rfl, hg, hg5, ho5⟩ := hT4
          have HP' := Lib.hid ((HO8.out.kept hg).put hg5 ho5)
          simp only [List.foldl_cons, List.foldl_nil, List.setIfInBounds_toArray, List.set_cons_zero, List.set_cons_succ]
          clear hv hg hg5 ho5
          generalize World.setCell _ _ _ = W9 at *
          go_wp2_with fail
          go_roundw
          case rel =>
            refine ⟨k + 1, v', _, by omega, by go_num, ?_, HP'.out⟩
            rw [List.map_append, HCS.out, List.take_add_one, HM.out, List.map_append, ← HXE.out]; rfl
          case measure => simp [intOf]; omega
      · have hge : (fs.length : Int) ≤ (k : Int) := by omega
        have HKE : Hid (k = fs.length) := Lib.hid (by omega)
        have hkd : decide (k < fs.length) = false := decide_eq_false hlt
        have hL := HX.out.tw
        have hkk := HK.out
        have hlen2 : L.length = 2 * xs.length := by rw [← HLL.out]; exact twoL_len xs
        have hpos : 0 < L.length := by have := hkk.pos; omega
        have hfp : 0 < fs.length := by have := num_lt hL hpos 0; rw [HN.out] at this; dsimp only at this; omega
        have hosl : os.length = L.length := by have := num_len hL; rw [HN.out] at this; exact this
        obtain ⟨g, cap2, rfl⟩ : ∃ g cap2, vc = .slice (some ⟨g, 0, none⟩) fs.length cap2 := by
          have hln : cs.length = fs.length := by have := HCLn.out; have := HKE.out; omega
          rcases HOC.out.ct.row.2 with ⟨_, h⟩ | ⟨g, cap, cur, h, _⟩
          · omega
          · rw [hln] at h; exact ⟨g, cap, h⟩
        have HO2 : Hid (∃ cs, cs.map (·.1) = duL L xs.length fs os 0 ∧ OC W4 (.slice (some ⟨g, 0, none⟩) fs.length cap2) (.slice Ao L.length co) (.slice Ap L.length cp) cs wr) := Lib.hid ⟨cs, by rw [du_zero, HCS.out, HKE.out, List.take_length], HOC.out⟩
        have HLN2 := Lib.hid hlen2
        have HOSL := Lib.hid hosl
        clear hlt hk hcl hL hkk hlen2 hpos hfp hosl HOC HCS HCLn
        go_wp2_with fail
        clear hkd
        go_loopw [50] (fun i W => ∃ (q : Nat) (cs : List (Nd × Value)), q ≤ L.length ∧ i = .int .i64 (q : Int) ∧ cs.map (·.1) = duL L xs.length fs os q ∧ OC W4 (.slice (some ⟨g, 0, none⟩) fs.length cap2) (.slice Ao L.length co) (.slice Ap L.length cp) cs W) (fun i _ => L.length - (intOf i).toNat)
        case atStart =>
          obtain ⟨cs, h1, h2⟩ := HO2.out
          exact ⟨0, cs, Nat.zero_le _, rfl, h1, h2⟩
        case round =>
          obtain ⟨q, ds, hq, rfl, hds, hoc⟩ := hrel
          have HOD := Lib.hid hoc
          have HDS := Lib.hid hds
          have hdl : ds.length = fs.length := by have := congrArg List.length hds; rw [List.length_map, du_len] at this; exact this
          have HDL := Lib.hid hdl
          clear hoc hds hdl HO2
          by_cases hlt : q < L.length
          · obtain ⟨c, hc⟩ : ∃ c, os[q]? = some c := ⟨_, List.getElem?_eq_getElem (by rw [HOSL.out]; exact hlt)⟩
            have hcf : c < fs.length := by
              have := (cls_num HX.out.tw).lt (i := q) (c := c) (by rw [HN.out]; exact hc)
              rw [HN.out] at this; exact this
            obtain ⟨m, hm⟩ : ∃ m, fs[c]? = some m := ⟨_, List.getElem?_eq_getElem hcf⟩
            obtain ⟨bo, oo, hAo, c0⟩ := ints_at (k := q) (z := (c : Int)) (zs := os.map Int.ofNat) (A := Ao) (c := co) (by rw [List.length_map, HOSL.out]; exact HOF.out) (by rw [List.getElem?_map, hc]; rfl)
            subst hAo
            have hmt : mtN xs.length q < L.length := by rw [HLN2.out]; exact mt_lt (by rw [← HLN2.out]; exact hlt)
            obtain ⟨dv, hdv⟩ : ∃ dv, os[mtN xs.length q]? = some dv := ⟨_, List.getElem?_eq_getElem (by rw [HOSL.out]; exact hmt)⟩
            obtain ⟨bo', oo', hbo, d0⟩ := ints_at (k := mtN xs.length q) (z := (dv : Int)) (zs := os.map Int.ofNat) (A := some ⟨bo, oo, none⟩) (c := co) (by rw [List.length_map, HOSL.out]; exact HOF.out) (by rw [List.getElem?_map, hdv]; rfl)
            obtain ⟨rfl, rfl⟩ : bo = bo' ∧ oo = oo' := by simpa using hbo
            obtain ⟨p, hp⟩ : ∃ p, ds[c]? = some p := ⟨_, List.getElem?_eq_getElem (by rw [HDL.out]; exact hcf)⟩
            have hpn : p.1 = duN L xs.length os q c m := by
              have h1 : (ds.map (·.1))[c]? = some p.1 := by rw [List.getElem?_map, hp]; rfl
              rw [HDS.out, du_at hm] at h1
              exact (Option.some.inj h1).symm
            have hdm : (dv : Int) = ((os.getD ((m + xs.length) % L.length) 0 : Nat) : Int) := by
              have h := num_mate HK.out (i := q) (c := c) (m := m) (by rw [HLL.out, HN.out]; exact hc) (by rw [HLL.out, HN.out]; exact hm)
              rw [HLL.out, HN.out] at h
              dsimp only at h
              rw [← h, getD_someN hdv]
            have C0 := Keeps.grown HOD.out.gr _ _ c0
            have D0 := Keeps.grown HOD.out.gr _ _ d0
            have HD0 := Lib.hid D0
            have hbol : bo < wr.heap.size := cell_lt C0
            have hq0 : (0 : Int) ≤ (q : Int) := by omega
            have hqI : (q : Int) < (L.length : Int) := by omega
            have hcI : (c : Int) < (fs.length : Int) := by omega
            have HCM : Hid (os[q]? = some c ∧ fs[c]? = some m ∧ ds[c]? = some p ∧ p.1 = duN L xs.length os q c m ∧ (dv : Int) = ((os.getD ((m + xs.length) % L.length) 0 : Nat) : Int) ∧ mtN xs.length q < L.length ∧ c < fs.length) := Lib.hid ⟨hc, hm, hp, hpn, hdm, hmt, hcf⟩
            have hmA : mateA (xs.length : Int) (q : Int) = ((mtN xs.length q : Nat) : Int) := by
              have h1 := HK.out.pos
              have h2 := HLN2.out
              unfold mtN
              by_cases h : q < xs.length
              · rw [if_pos h, mate_low (by omega) (by omega) (by omega)]; omega
              · rw [if_neg h, mate_high (by omega) (by omega) (by omega)]; omega
            have HMA := Lib.hid hmA
            clear hc hcf hm c0 hmt hdv hbo d0 hp hpn hdm D0 hmA
            go_upto_region 15 with fail
            refine region_acts (by kernel_rfl)
              [(0, .slice A xs.length cap), (7, .slice (some ⟨bo, oo, none⟩) L.length co), (9, .pointer (some ⟨W4.heap.size, 0, none⟩)), (12, .int .i64 (q : Int)), (13, .int .i64 (c : Int)), (55, .pointer (some ⟨W4.heap.size, 0, none⟩)), (56, .slice (some ⟨g, 0, none⟩) fs.length cap2), (57, .int .i64 (c : Int)), (58, .slice (some ⟨bo, oo, none⟩) L.length co), (59, .slice A xs.length cap), (60, .int .i64 (xs.length : Int)), (61, .int .i64 (q : Int)), (65, .pointer (some ⟨g, c * 6, none⟩)), (66, .pointer (some ⟨g, c * 6 + 1, none⟩))]
              (by kernel_rfl) [55, 56, 57, 58, 59, 60, 61, 62, 63, 64, 65, 66] (by kernel_rfl) (by kernel_rfl) (by decide) ?h0 [7, 8, 9, 12]
              (TDu wr g c (mtN xs.length q) bo oo (dv : Int)) ?hT ?hd ?reads ?steps ?hT0 ?hQ
            case h0 =>
              intro p hp hn
              simp only [List.mem_cons, List.not_mem_nil, or_false] at hp
              rcases hp with rfl | rfl | rfl | rfl | rfl | rfl | rfl | rfl | rfl | rfl | rfl | rfl | rfl | rfl
              all_goals first | rfl | exact absurd (by dsimp only; decide) hn
            case hT => exact fun d f g W h he => h.congr (he 62 rfl) (he 63 rfl) (he 64 rfl)
            case hd =>
              intro d i f W hi h
              simp only [List.mem_cons, List.not_mem_nil, or_false, not_or] at hi
              obtain ⟨i7, i8, i9, i12⟩ := hi
              exact h.same (doneD_ne d (Ne.symm i7)).symm (doneD_ne d (Ne.symm i8)).symm (doneD_ne d (Ne.symm i9)).symm (doneD_ne d (Ne.symm i12)).symm
            case reads =>
              intro i o ho hn
              have h9 : i = 0 ∨ i = 1 ∨ i = 2 ∨ i = 3 ∨ i = 4 ∨ i = 5 ∨ i = 6 ∨ i = 10 ∨ i = 11 := by
                have h1 := (Array.getElem?_eq_some_iff.1 ho).1
                simp only [List.size_toArray, List.length_cons, List.length_nil] at h1
                simp only [List.mem_cons, List.not_mem_nil, or_false] at hn
                omega
              rcases h9 with rfl | rfl | rfl | rfl | rfl | rfl | rfl | rfl | rfl
              · cases ho
                exact ⟨55, _, rfl, rfl, fun d b W' hdi hcl hT' henv => rc_table0 rfl (henv 9 _ (by simp [Op.operands]) rfl)⟩
              · cases ho
                refine ⟨56, _, rfl, rfl, fun d b W' hdi hcl hT' henv => ?_⟩
                have d12 : d 12 = false := not_done fun h => by
                  have h10 := hcl 12 _ ⟨11, Ground.data⟩ h rfl (by simp) rfl
                  have h11 := hcl 11 _ ⟨10, Ground.data⟩ h10 rfl (by simp) rfl
                  have h12 := hcl 10 _ ⟨1, Ground.data⟩ h11 rfl (by simp) rfl
                  rw [h12] at hdi; cases hdi
                exact rv_loadCs rfl (henv 55 _ (by simp [Op.operands]) rfl) ((HOD.out.kept ((tdu_a d12).1 hT').1).bt.cell 0)
              · cases ho
                exact ⟨57, _, rfl, rfl, fun d b W' hdi hcl hT' henv => rc_move rfl (henv 13 _ (by simp [Op.operands]) rfl)⟩
              · cases ho
                exact ⟨58, _, rfl, rfl, fun d b W' hdi hcl hT' henv => rc_move rfl (henv 7 _ (by simp [Op.operands]) rfl)⟩
              · cases ho
                exact ⟨59, _, rfl, rfl, fun d b W' hdi hcl hT' henv => rc_move rfl (henv 0 _ (by simp [Op.operands]) rfl)⟩
              · cases ho
                exact ⟨60, _, rfl, rfl, fun d b W' hdi hcl hT' henv => rc_len rfl (henv 59 _ (by simp [Op.operands, Call.operands]) rfl)⟩
              · cases ho
                exact ⟨61, _, rfl, rfl, fun d b W' hdi hcl hT' henv => rc_move rfl (henv 12 _ (by simp [Op.operands]) rfl)⟩
              · cases ho
                exact ⟨65, _, rfl, rfl, fun d b W' hdi hcl hT' henv => rv_indexCs0 rfl (henv 56 _ (by simp [Op.operands]) rfl) (henv 57 _ (by simp [Op.operands]) rfl) HCM.out.2.2.2.2.2.2⟩
              · cases ho
                exact ⟨66, _, rfl, rfl, fun d b W' hdi hcl hT' henv => rv_class1 rfl (henv 65 _ (by simp [Op.operands]) rfl)⟩
            case steps =>
              intro i o ho hi
              have h4 : i = 7 ∨ i = 8 ∨ i = 9 ∨ i = 12 := by simpa using hi
              rcases h4 with rfl | rfl | rfl | rfl
              · cases ho
                refine ⟨fun t e => by cases e; rfl, fun d b W' hb hdi hpre hcl hT' henv => ?_⟩
                have d9 : d 9 = true → d 8 = true := fun h => hcl 9 _ ⟨8, Ground.data⟩ h rfl (by simp) rfl
                have d8 : d 8 = true → d 7 = true := fun h => hcl 8 _ ⟨7, Ground.data⟩ h rfl (by simp) rfl
                have d12 : d 12 = false := not_done fun h => by rw [d8 (d9 (hcl 12 _ ⟨9, Ground.data⟩ h rfl (by simp) rfl))] at hdi; cases hdi
                obtain ⟨hg, _, h8, h9⟩ := (tdu_a d12).1 hT'
                have hml := HK.out.le
                have hq2 : (q : Int) ≤ 1000 := by omega
                refine wp_mate rfl (henv 60 _ (by simp [Op.operands, Call.operands]) rfl) (henv 61 _ (by simp [Op.operands, Call.operands]) rfl) (dmate_eq (xs.length : Int) (q : Int) W' (by omega) (by omega) (by omega) (by omega)) ?_
                rintro en W5' ⟨rfl, rfl⟩
                refine ⟨_, rfl, _, rfl, (tdu_a (by rw [doneD_ne d (by decide)]; exact d12)).2 ⟨hg, fun _ => ?_, fun h => ?_, fun h => ?_⟩⟩
                · rw [HMA.out]; exact act_put_atC _ (by rw [hb]; show _ < 69; decide)
                · rw [doneD_ne d (by decide)] at h
                  rw [d8 h] at hdi; cases hdi
                · rw [doneD_ne d (by decide)] at h
                  rw [d8 (d9 h)] at hdi; cases hdi
              · cases ho
                refine ⟨fun t e => by cases e; rfl, fun d b W' hb hdi hpre hcl hT' henv => ?_⟩
                have d9 : d 9 = true → d 8 = true := fun h => hcl 9 _ ⟨8, Ground.data⟩ h rfl (by simp) rfl
                have d12 : d 12 = false := not_done fun h => by rw [d9 (hcl 12 _ ⟨9, Ground.data⟩ h rfl (by simp) rfl)] at hdi; cases hdi
                have d7 : d 7 = true := hpre ⟨7, Ground.data⟩ (by simp) rfl
                obtain ⟨hg, h7, _, h9⟩ := (tdu_a d12).1 hT'
                refine wp_val (rc_indexInts rfl (henv 58 _ (by simp [Op.operands]) rfl) (h7 d7) HCM.out.2.2.2.2.2.1) ⟨_, rfl, (tdu_a (by rw [doneD_ne d (by decide)]; exact d12)).2 ⟨hg, fun _ => (act_put_ne _ (by decide)).trans (h7 d7), fun _ => act_put_atC _ (by rw [hb]; show _ < 69; decide), fun h => ?_⟩⟩
                rw [doneD_ne d (by decide)] at h
                rw [d9 h] at hdi; cases hdi
              · cases ho
                refine ⟨fun t e => by cases e; rfl, fun d b W' hb hdi hpre hcl hT' henv => ?_⟩
                have d12 : d 12 = false := not_done fun h => by rw [hcl 12 _ ⟨9, Ground.data⟩ h rfl (by simp) rfl] at hdi; cases hdi
                have d8 : d 8 = true := hpre ⟨8, Ground.data⟩ (by simp) rfl
                obtain ⟨hg, h7, h8, _⟩ := (tdu_a d12).1 hT'
                refine wp_val (rc_loadInt rfl (h8 d8) (Keeps.grown hg _ _ HD0.out)) ⟨_, rfl, (tdu_a (by rw [doneD_ne d (by decide)]; exact d12)).2 ⟨hg, fun h => ?_, fun _ => (act_put_ne _ (by decide)).trans (h8 d8), fun _ => act_put_atC _ (by rw [hb]; show _ < 69; decide)⟩⟩
                rw [doneD_ne d (by decide)] at h
                exact (act_put_ne _ (by decide)).trans (h7 h)
              · cases ho
                refine ⟨fun t e => (by cases e), fun d b W' hb hdi hpre hcl hT' henv => ?_⟩
                have d9 : d 9 = true := hpre ⟨9, Ground.data⟩ (by simp) rfl
                obtain ⟨hg, _, _, h9⟩ := (tdu_a hdi).1 hT'
                obtain ⟨k0, k1⟩ := (HOD.out.kept hg).cell HCM.out.2.2.1
                exact wp_storeInt rfl (henv 66 _ (by simp [Op.operands]) rfl) (h9 d9) k0 k1 ⟨undef, rfl, (tdu_b (doneD_at d 12)).2 ⟨W', rfl, hg⟩⟩
            case hT0 => exact (tdu_a rfl).2 ⟨only_drew (only_refl _ _), fun h => (by cases h), fun h => (by cases h), fun h => (by cases h)⟩
            case hQ =>
              intro d vs W' hd hv hT'
              obtain ⟨Wa, rfl, hg⟩ := (tdu_b (hd 12 (by simp))).1 hT'
              have HZ := Lib.hid ((HOD.out.kept hg).dual HDL.out HCM.out.2.2.1 (dv : Int))
              simp only [List.foldl_cons, List.foldl_nil, List.setIfInBounds_toArray, List.set_cons_zero, List.set_cons_succ]
              clear hv hT' hg hd
              generalize World.setCell _ _ _ = W9 at *
              go_wp2_with fail
              go_roundw
              case rel =>
                refine ⟨q + 1, _, by omega, by go_num, ?_, HZ.out⟩
                rw [List.map_set, HDS.out, du_succ HCM.out.1 HCM.out.2.1, HCM.out.2.2.2.1, ← HCM.out.2.2.2.2.1]
              case measure => simp [intOf]; omega
          · have hge : (L.length : Int) ≤ (q : Int) := by omega
            have HQE : Hid (q = L.length) := Lib.hid (by omega)
            have hb0 := HB1.out.kept (only_trans (only_trans (only_trans HG2.out HG3.out) HG4.out) HOD.out.gr)
            have HB0 := Lib.hid hb0
            have r0 := hb0.cell 0
            have r1 := hb0.cell 1
            have r2 := hb0.cell 2
            have f0 := hb0.frozen 0
            have f1 := hb0.frozen 1
            have f2 := hb0.frozen 2
            have l0 := HOD.out.bt.cell 0
            have l1 := HOD.out.bt.cell 1
            have l2 := HOD.out.bt.cell 2
            clear hlt hq hb0
            go_wp2_with fail
            obtain ⟨hb9, hg9, hk9⟩ := three_set HB0.out (.slice (some ⟨g, 0, none⟩) fs.length cap2) (.slice Ao L.length co) (.slice Ap L.length cp)
            refine bodyPost_ret (cof_results rfl rfl hb9) rfl ?_
            refine ⟨⟨_, rfl, ?_⟩, only_new (only_trans (only_trans (only_trans (only_trans HGW.out HG2.out) HG3.out) HG4.out) HOD.out.gr) hg9 (Nat.le_refl _)⟩
            rw [HCL.out]
            have ht := HOD.out.ct.tbl
            have hfull : duL L xs.length fs os L.length = fs.map (clsN L xs.length os) := by
              refine du_full (by rw [HOSL.out]; exact Nat.le_refl _) (fun c m hm => ?_) (fun c m hm => ?_)
              · obtain ⟨i0, _, hi0, _⟩ := (cls_num HX.out.tw).first c m (by rw [HN.out]; exact hm)
                rw [HN.out] at hi0
                exact List.mem_of_getElem? hi0
              · obtain ⟨i0, hi0, _⟩ := (cls_num HX.out.tw).first c m (by rw [HN.out]; exact hm)
                obtain ⟨y, hy, _⟩ := live_some (roots_live HX.out.tw m (List.mem_of_getElem? hi0))
                exact ⟨y, hy⟩
            rw [HDS.out, HQE.out, hfull] at ht
            exact ⟨_, _, _, rfl, ht.keepI hk9, (HOF.out.keep (.grown HOD.out.gr)).keepI hk9, (HP.out.keep (.grown (only_trans (only_trans HG3.out HG4.out) HOD.out.gr))).keepI hk9⟩
  · have HCL : Hid (clsT xs = ⟨[], [], []⟩) := Lib.hid (by unfold clsT; rw [hae, if_neg h0])
    rw [hae]
    have he2 : (e == 0) = false := by simp [h0]
    have he3 : (e != 0) = true := by simp [h0]
    have he4 : decide (e = 0) = false := decide_eq_false h0
    clear hT hae
    go_enter Try.func9, Try.ntmps9
    go_upto_region 2 with (go_at_call 21; go_must (refine (ocheckB_is HAE.out (HT.out.keep (.grown (only_alloc (only_refl _ _) _))) hxs).mono ?_; rintro en W1 ⟨rfl, hg1⟩; have HG1 := Lib.hid hg1; have HB1 := Lib.hid ((Blk.new w _ _).kept hg1); clear hg1))
    have r0 := HB1.out.cell 0
    have r1 := HB1.out.cell 1
    have r2 := HB1.out.cell 2
    have f0 := HB1.out.frozen 0
    have f1 := HB1.out.frozen 1
    have f2 := HB1.out.frozen 2
    go_wp2_with fail
    obtain ⟨hb9, hg9, _⟩ := three_set HB1.out (.slice none 0 0) (.slice none 0 0) (.slice none 0 0)
    refine bodyPost_ret (cof_results rfl rfl hb9) rfl ?_
    refine ⟨⟨_, rfl, ?_⟩, only_new (only_trans (only_alloc (only_refl w none) _) HG1.out) hg9 (Nat.le_refl _)⟩
    rw [HCL.out]
    exact ⟨_, _, _, rfl, Tbl.nil_ _, Ints.nil_ _, Ints.nil_ _⟩
end Go.Proofs.Ytepjkoegbehojaa

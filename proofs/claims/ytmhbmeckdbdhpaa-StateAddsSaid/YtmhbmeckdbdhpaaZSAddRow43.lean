/- Texts joined for the claim's sake: COB, SFct. -/
import Derived.Test.YtmhbmeckdbdhpaaZSAddRow39
import Derived.Test.YtmhbmeckdbdhpaaZSAddRow40
import Derived.Test.YtmhbmeckdbdhpaaZSAddRow41
import Derived.Test.YtmhbmeckdbdhpaaZSAddRow13
import Derived.Test.YtmhbmeckdbdhpaaZSAddRow42
import Derived.Test.YtmhbmeckdbdhpaaZSAddRow31
import Derived.Test.YtmhbmeckdbdhpaaZSAddRow15
import Derived.Test.YtmhbmeckdbdhpaaZSAddRow16
import Derived.Test.YtmhbmeckdbdhpaaZSAddRow23
import Derived.Test.YtmhbmeckdbdhpaaZSAddRow17
namespace Go.Proofs.Ytmhbmeckdbdhpaa
open Go.RowKit Go.Shelf

theorem ocheckB_is {xs : List Nd} {v : Value} {w : World} {a e : Int} (h : orderL xs = (a, e)) (hT : Tbl w v xs) (hxs : xs.length ≤ 1000) : Calls Try.prog 30 #[v] w fun en w' => en = .returned (.tuple #[.int .i64 a, .int .i64 e]) ∧ w.grownBy w' none := by
  have := ocheck_any xs v w hT hxs
  rw [h] at this
  exact this
theorem cof_results {tmps : Array Value} {W : World} {g : Nat} {a0 a1 a2 : Value} {e : Int} (hp : tmps.getD 2 undef = .pointer (some ⟨g, 0, none⟩)) (he : tmps.getD 3 undef = .int .i64 e) (hb : Blk W g 32 #[a0, a1, a2]) :
    (results Try.f22 tmps).run Try.prog W = .ok (.tuple #[.agg #[a0, a1, a2], .int .i64 e]) W := by
  have hp' : tmps[2]?.getD undef = .pointer (some ⟨g, 0, none⟩) := by simpa using hp
  have he' : tmps[3]?.getD undef = .int .i64 e := by simpa using he
  have hs : (Try.prog.info? 32).map (·.size) = some 3 := by kernel_rfl
  simp [results, Try.results22, hp', he', asAddr, run_loadVar_row W g _ 32 _ _ _ hb Try.underlying32 rfl (by exact hs)]

set_option maxRecDepth 100000 in
set_option maxHeartbeats 4000000 in
theorem cof_con : OfC := by
  intro xs v w hT hxs
  obtain ⟨a, e, hae⟩ : ∃ a e, orderL xs = (a, e) := ⟨_, _, rfl⟩
  have HAE := Lib.hid hae
  have HT := Lib.hid hT
  obtain ⟨A, cap, rfl, _⟩ := id hT
  by_cases h0 : e = 0
  · subst h0
    have hK : OKT xs := (ord_of (show (orderL xs).2 = 0 by rw [hae])).ok
    have HK := Lib.hid hK
    have HX := Lib.hid (tx_two hK)
    have HCL : Hid (clsT xs = ⟨(numL (twoL xs)).1.map (clsN (twoL xs) xs.length (numL (twoL xs)).2), (numL (twoL xs)).2.map Int.ofNat, (List.range (twoL xs).length).map (prioL (twoL xs))⟩) := Lib.hid (by unfold clsT; rw [hae, if_pos rfl])
    rw [hae]
    clear hT hae hK
    go_enter Try.func22, Try.ntmps22
    go_upto_region 4 with (go_at_call 30; go_must (refine (ocheckB_is HAE.out (HT.out.keep (.grown (only_alloc (only_refl _ _) _))) hxs).mono ?_; rintro en W1 ⟨rfl, hg1⟩; have HG1 := Lib.hid hg1; have HB1 := Lib.hid ((Blk.new w _ _).kept hg1); clear hg1))
    have HGW := Lib.hid (only_trans (only_alloc (only_refl w none) _) HG1.out)
    go_upto_region 5 with (go_at_call 31; go_must (refine (clay_any xs HK.out _ _ (HT.out.keep (.grown HGW.out))).mono ?_; rintro en W2 ⟨⟨lv, rfl, hl⟩, hg2⟩; have HLV := Lib.hid hl; have HG2 := Lib.hid hg2; obtain ⟨v2, vt, vp, rfl, ⟨A2, c2, rfl, _⟩, ⟨At, ct, rfl, _⟩, hP⟩ := hl; have HP := Lib.hid hP; obtain ⟨Ap, cp, rfl, _⟩ := hP; simp only [List.length_map, roots_len, List.length_range] at HLV HP ⊢; clear hg2))
    generalize hLL : twoL xs = L at *
    have HLL := Lib.hid hLL
    have hlI : (L.length : Int) ≤ 128 := by have := HX.out.len; omega
    clear hLL
    generalize hW3 : World.alloc _ _ = W3
    have hg3 : W2.grownBy W3 none := by rw [← hW3]; exact only_alloc (only_refl _ _) _
    have hb3 : Blk W3 W2.heap.size 90 #[.slice A2 L.length c2, .slice At L.length ct, .slice Ap L.length cp] := by rw [← hW3]; exact Blk.new W2 _ _
    have l0 := hb3.cell 0
    have l1 := hb3.cell 1
    have l2 := hb3.cell 2
    have HB3 := Lib.hid hb3
    have HG3 := Lib.hid hg3
    clear hW3 hb3 hg3
    go_upto_region 6 with (go_at_call 32; go_must (refine (cpart_any HX.out _ _ (HLV.out.keep (.grown HG3.out))).mono ?_; rintro en W4 ⟨⟨vo, vf, rfl, ho, hf⟩, hg4⟩; have HOF := Lib.hid ho; have HFO := Lib.hid hf; have HG4 := Lib.hid hg4; obtain ⟨Ao, co, rfl, _⟩ := ho; obtain ⟨Af, cf, rfl, _⟩ := hf; have hnl := num_len HX.out.tw; simp only [List.length_map, hnl] at HOF HFO ⊢; clear hg4 hnl l0 l1 l2))
    have l2 := (HB3.out.kept HG4.out).cell 2
    have hl2 := (HB3.out.kept HG4.out).lt
    go_upto_region 7 with fail
    obtain ⟨fs, os, hN⟩ : ∃ fs os, numL L = (fs, os) := ⟨_, _, rfl⟩
    rw [hN] at HOF HFO HCL ⊢
    dsimp only at HOF HFO HCL ⊢
    have HN := Lib.hid hN
    have hfl := first_le L
    rw [hN] at hfl
    dsimp only at hfl
    have hfI : (fs.length : Int) ≤ 128 := by omega
    clear hN l2 hl2
    generalize hW5 : World.alloc _ _ = W5
    have hoc : OC W4 (.slice none 0 0) (.slice Ao L.length co) (.slice Ap L.length cp) [] W5 := by
      rw [← hW5]
      exact ⟨only_alloc (only_refl _ _) _, Blk.new W4 _ _, CTw.start _ _⟩
    have HOC := Lib.hid hoc
    clear hW5 hoc
    go_wp2_with fail
    go_loopw [36] (fun i W => ∃ (k : Nat) (vc : Value) (cs : List (Nd × Value)), k ≤ fs.length ∧ i = .int .i64 (k : Int) ∧ cs.map (·.1) = (fs.take k).map (knN L os) ∧ OC W4 vc (.slice Ao L.length co) (.slice Ap L.length cp) cs W) (fun i _ => fs.length - (intOf i).toNat)
    case atStart => exact ⟨0, _, [], Nat.zero_le _, rfl, rfl, HOC.out⟩
    case round =>
      obtain ⟨k, vc, cs, hk, rfl, hcs, hoc⟩ := hrel
      have HOC := Lib.hid hoc
      have HCS := Lib.hid hcs
      have hcl : cs.length = k := by have := congrArg List.length hcs; rw [List.length_map, List.length_map, List.length_take] at this; omega
      have HCLn := Lib.hid hcl
      clear hcs hoc
      by_cases hlt : k < fs.length
      · obtain ⟨m, hm⟩ : ∃ m, fs[k]? = some m := ⟨_, List.getElem?_eq_getElem hlt⟩
        have HM := Lib.hid hm
        obtain ⟨A0, c0, hA0, hr0⟩ := HFO.out
        obtain ⟨bf, ofs, hb0, hr1⟩ := hr0 (by intro e; have h := congrArg List.length e; rw [List.length_map, List.length_nil] at h; omega)
        rw [List.length_map] at hA0
        obtain ⟨rfl, rfl⟩ : Af = A0 ∧ cf = c0 := by simpa using hA0
        subst hb0
        have hrx := hr1 k (knN L os m) (by rw [List.getElem?_map, hm]; rfl)
        obtain ⟨x, hxe⟩ : ∃ x, knN L os m = x := ⟨_, rfl⟩
        rw [hxe] at hrx
        have HXE := Lib.hid hxe
        have HRX : Hid (wr.rangeAt bf (ofs + k * 21) (knA x).toList) := Lib.hid (fun j u hu => Keeps.grown HOC.out.gr _ _ (hrx j u hu))
        have hk0 : (0 : Int) ≤ (k : Int) := by omega
        have hk1 : (k : Int) < (fs.length : Int) := by omega
        clear hm hA0 hr0 hr1 hrx hxe
        go_upto_region 9 with fail
        refine wp_region_lit ?_
        refine wpList_val rfl (rv_indexK (k := k) rfl rfl rfl hlt) ?_
        refine wpList_val rfl (rv_loadKm rfl rfl HRX.out) ?_
        simp only [Act.put, List.setIfInBounds_toArray, List.set_cons_zero, List.set_cons_succ]
        refine wpList_split 1 _ _ rfl rfl fun Q2 hQ2 => ?_
        have HQ2 := Lib.hid hQ2
        clear hQ2
        go_wp2_with fail
        refine HQ2.out _ _ ?_
        clear HQ2
        refine wpList_store_row rfl 97 (.tmp 11) (.tmp 39) rfl wr.heap.size (knA x) rfl rfl 97 (knC 0 false (0, 0) 0 []) (Blk.new wr _ _) known_size rfl (knC_one _ _ _ _ _) ?_
        simp only [Act.put]
        generalize hW8 : World.setRow _ _ _ = W8
        have hg8 : wr.grownBy W8 none := by rw [← hW8]; exact only_setRow (only_alloc (only_refl _ _) _) (Nat.le_refl _) _
        have hbk : Blk W8 wr.heap.size 97 (knA x) := by rw [← hW8]; exact (Blk.new wr _ _).row_ _
        have HO8 := Lib.hid (HOC.out.kept hg8)
        have HBK := Lib.hid hbk
        clear hW8 hg8 hbk
        go_upto_region 10 with fail
        have HKN : Hid (KN x) := Lib.hid (by
          rw [← HXE.out]
          have hL := HX.out.tw
          obtain ⟨i0, hi0, _⟩ := (cls_num hL).first k m (by rw [HN.out]; exact HM.out)
          obtain ⟨y, hy, _⟩ := live_some (roots_live hL m (List.mem_of_getElem? hi0))
          have h0 : 0 < L.length := by have := (List.getElem?_eq_some_iff.1 hy).1; omega
          have hos : os = (numL L).2 := by rw [HN.out]
          rw [hos]
          exact kn_small HX.out (fun j => by have h1 := num_lt hL h0 j; have h2 := first_le L; have h3 := HX.out.len; omega) hy)
        obtain ⟨Av, cv, hvc⟩ := HO8.out.ct.len
        subst hvc
        refine region_chainW (by kernel_rfl) (by kernel_rfl) (by kernel_rfl) [40, 41, 42, 43, 44, 45, 46] (by kernel_rfl) (by kernel_rfl) (by decide)
          [(9, .pointer (some ⟨W4.heap.size, 0, none⟩)), (11, .pointer (some ⟨wr.heap.size, 0, none⟩)), (40, .pointer (some ⟨W4.heap.size, 0, none⟩)), (41, .slice Av cs.length cv), (42, knV x), (46, .pointer (some ⟨W4.heap.size, 0, none⟩))]
          ?h0 [3, 4, 5, 7] (by kernel_rfl) (by kernel_rfl) (by decide) (by kernel_rfl) (TCl W8 W4 (.slice Av cs.length cv) cs x) ?hT ?reads ?steps (only_drew (only_refl _ _)) ?hQ
        case h0 =>
          intro p hp hn
          simp only [List.mem_cons, List.not_mem_nil, or_false] at hp
          rcases hp with rfl | rfl | rfl | rfl | rfl | rfl
          all_goals first | rfl | exact absurd (by dsimp only; decide) hn
        case hT =>
          intro j f g W' hj he
          match j, hj with
          | 0, hj => exact hj
          | 1, ⟨e', h1, h2⟩ => exact ⟨e', (he 0 3 _ 43 (by decide) rfl rfl rfl).symm.trans h1, h2⟩
          | 2, ⟨e', g', h1, h2⟩ => exact ⟨e', g', (he 1 4 _ 44 (by decide) rfl rfl rfl).symm.trans h1, h2⟩
          | 3, ⟨e', v', Wa, h1, h2⟩ => exact ⟨e', v', Wa, (he 2 5 _ 45 (by decide) rfl rfl rfl).symm.trans h1, h2⟩
          | 4, hj => exact hj
        case reads =>
          intro i o ho hn
          have hrd : ∀ j f W', j < 4 → TCl W8 W4 (.slice Av cs.length cv) cs x j f W' → Blk W' W4.heap.size 32 #[.slice Av cs.length cv, .slice Ao L.length co, .slice Ap L.length cp] ∧ Blk W' wr.heap.size 97 (knA x) := by
            intro j f W' hj hT'
            have plain : ∀ {W'}, W8.grownBy W' none → Blk W' W4.heap.size 32 #[.slice Av cs.length cv, .slice Ao L.length co, .slice Ap L.length cp] ∧ Blk W' wr.heap.size 97 (knA x) := fun hg => ⟨(HO8.out.kept hg).bt, HBK.out.kept hg⟩
            match j, hj, hT' with
            | 0, _, hT' => exact plain hT'
            | 1, _, ⟨_, _, _, hg⟩ => exact plain hg
            | 2, _, ⟨_, _, _, _, _, hg⟩ => exact plain hg
            | 3, _, ⟨_, _, Wa, _, hg, hg5, _⟩ =>
              have h8 := HO8.out.kept hg
              exact ⟨(h8.mid hg5).2, (HBK.out.kept hg).grown hg5 (own_cls_ne h8.ct (HBK.out.kept hg) (by decide))⟩
          have h9 : i = 0 ∨ i = 1 ∨ i = 2 ∨ i = 6 := by
            have h1 := (Array.getElem?_eq_some_iff.1 ho).1
            simp only [List.size_toArray, List.length_cons, List.length_nil] at h1
            simp only [List.mem_cons, List.not_mem_nil, or_false] at hn
            omega
          rcases h9 with rfl | rfl | rfl | rfl
          · cases ho
            exact ⟨40, _, rfl, rfl, fun j f b W' hj hT' henv => rc_table0 rfl (henv 9 _ (by simp [Op.operands]) rfl)⟩
          · cases ho
            exact ⟨41, _, rfl, rfl, fun j f b W' hj hT' henv => rv_loadCs rfl (henv 40 _ (by simp [Op.operands]) rfl) ((hrd j f W' hj hT').1.cell 0)⟩
          · cases ho
            exact ⟨42, _, rfl, rfl, fun j f b W' hj hT' henv => rv_loadK rfl (henv 11 _ (by simp [Op.operands]) rfl) (hrd j f W' hj hT').2⟩
          · cases ho
            exact ⟨46, _, rfl, rfl, fun j f b W' hj hT' henv => rc_table0 rfl (henv 9 _ (by simp [Op.operands]) rfl)⟩
        case steps =>
          intro j i o hj ho
          have h4 : j = 0 ∨ j = 1 ∨ j = 2 ∨ j = 3 := by
            have := (List.getElem?_eq_some_iff.1 hj).1
            simp only [List.length_cons, List.length_nil] at this
            omega
          rcases h4 with rfl | rfl | rfl | rfl
          · cases hj
            cases ho
            refine ⟨fun t e => by cases e; rfl, fun b W' hb hT1 henv => ?_⟩
            have hg : W8.grownBy W' none := hT1
            refine wp_told rfl (henv 42 _ (by simp [Op.operands, Call.operands]) rfl) (ctold_any x HKN.out W') ?_
            rintro en W5' ⟨e', rfl, hE, hg5⟩
            exact ⟨_, rfl, _, rfl, e', act_put_atC _ (by rw [hb]; show _ < 69; decide), hE, only_trans hg hg5⟩
          · cases hj
            cases ho
            refine ⟨fun t e => by cases e; rfl, fun b W' hb hT1 henv => ?_⟩
            obtain ⟨e', h1, h2, hg⟩ := hT1
            obtain ⟨A3, c3, rfl, _⟩ := id h2
            exact wp_buildC rfl h1 ⟨_, rfl, _, W'.heap.size, act_put_atC _ (by rw [hb]; show _ < 69; decide), Blk.new _ _ _, h2.kept (only_alloc (only_refl _ _) _), only_alloc hg _⟩
          · cases hj
            cases ho
            refine ⟨fun t e => by cases e; rfl, fun b W' hb hT1 henv => ?_⟩
            obtain ⟨e', g', h1, h2, h3, hg⟩ := hT1
            have h8 := HO8.out.kept hg
            exact wp_appendC (.tmp 41) (.tmp 44) rfl (henv 41 _ (by simp [Op.operands, Call.operands]) rfl) h1 h8.ct h2 h3.up (by have := HCLn.out; omega) h8.gr.size (fun v' Wb ho5 hg5 => ⟨_, rfl, e', v', W', act_put_atC _ (by rw [hb]; show _ < 69; decide), hg, hg5, ho5⟩)
          · cases hj
            cases ho
            refine ⟨fun t e => (by cases e), fun b W' hb hT1 henv => ?_⟩
            obtain ⟨e', v', Wa, h1, hg, hg5, ho5⟩ := hT1
            obtain ⟨A5, c5, rfl⟩ := ho5.len
            have h8 := HO8.out.kept hg
            exact wp_storeCs rfl (henv 46 _ (by simp [Op.operands]) rfl) h1 (h8.mid hg5).2 rfl ⟨undef, rfl, e', _, Wa, W', rfl, hg, hg5, ho5⟩
        case hQ =>
          intro vs W' hv hT4
          obtain ⟨e', v', Wa, Wb, rfl, hg, hg5, ho5⟩ := hT4
          have HP' := Lib.hid ((HO8.out.kept hg).put hg5 ho5)
          simp only [List.foldl_cons, List.foldl_nil, List.setIfInBounds_toArray, List.set_cons_zero, List.set_cons_succ]
          clear hv hg hg5 ho5
          generalize World.setCell _ _ _ = W9 at *
          go_wp2_with fail
          go_roundw
          case rel =>
            refine ⟨k + 1, v', _, by omega, by go_num, ?_, HP'.out⟩
            rw [List.map_append, HCS.out, List.take_add_one, HM.out, List.map_append, ← HXE.out]; rfl
          case measure => simp [intOf]; omega
      · have hge : (fs.length : Int) ≤ (k : Int) := by omega
        have HKE : Hid (k = fs.length) := Lib.hid (by omega)
        have hkd : decide (k < fs.length) = false := decide_eq_false hlt
        have hL := HX.out.tw
        have hkk := HK.out
        have hlen2 : L.length = 2 * xs.length := by rw [← HLL.out]; exact twoL_len xs
        have hpos : 0 < L.length := by have := hkk.pos; omega
        have hfp : 0 < fs.length := by have := num_lt hL hpos 0; rw [HN.out] at this; dsimp only at this; omega
        have hosl : os.length = L.length := by have := num_len hL; rw [HN.out] at this; exact this
        obtain ⟨g, cap2, rfl⟩ : ∃ g cap2, vc = .slice (some ⟨g, 0, none⟩) fs.length cap2 := by
          have hln : cs.length = fs.length := by have := HCLn.out; have := HKE.out; omega
          rcases HOC.out.ct.row.2 with ⟨_, h⟩ | ⟨g, cap, cur, h, _⟩
          · omega
          · rw [hln] at h; exact ⟨g, cap, h⟩
        have HO2 : Hid (∃ cs, cs.map (·.1) = duL L xs.length fs os 0 ∧ OC W4 (.slice (some ⟨g, 0, none⟩) fs.length cap2) (.slice Ao L.length co) (.slice Ap L.length cp) cs wr) := Lib.hid ⟨cs, by rw [du_zero, HCS.out, HKE.out, List.take_length], HOC.out⟩
        have HLN2 := Lib.hid hlen2
        have HOSL := Lib.hid hosl
        clear hlt hk hcl hL hkk hlen2 hpos hfp hosl HOC HCS HCLn
        go_wp2_with fail
        clear hkd
        go_loopw [50] (fun i W => ∃ (q : Nat) (cs : List (Nd × Value)), q ≤ L.length ∧ i = .int .i64 (q : Int) ∧ cs.map (·.1) = duL L xs.length fs os q ∧ OC W4 (.slice (some ⟨g, 0, none⟩) fs.length cap2) (.slice Ao L.length co) (.slice Ap L.length cp) cs W) (fun i _ => L.length - (intOf i).toNat)
        case atStart =>
          obtain ⟨cs, h1, h2⟩ := HO2.out
          exact ⟨0, cs, Nat.zero_le _, rfl, h1, h2⟩
        case round =>
          obtain ⟨q, ds, hq, rfl, hds, hoc⟩ := hrel
          have HOD := Lib.hid hoc
          have HDS := Lib.hid hds
          have hdl : ds.length = fs.length := by have := congrArg List.length hds; rw [List.length_map, du_len] at this; exact this
          have HDL := Lib.hid hdl
          clear hoc hds hdl HO2
          by_cases hlt : q < L.length
          · obtain ⟨c, hc⟩ : ∃ c, os[q]? = some c := ⟨_, List.getElem?_eq_getElem (by rw [HOSL.out]; exact hlt)⟩
            have hcf : c < fs.length := by
              have := (cls_num HX.out.tw).lt (i := q) (c := c) (by rw [HN.out]; exact hc)
              rw [HN.out] at this; exact this
            obtain ⟨m, hm⟩ : ∃ m, fs[c]? = some m := ⟨_, List.getElem?_eq_getElem hcf⟩
            obtain ⟨bo, oo, hAo, c0⟩ := ints_at (k := q) (z := (c : Int)) (zs := os.map Int.ofNat) (A := Ao) (c := co) (by rw [List.length_map, HOSL.out]; exact HOF.out) (by rw [List.getElem?_map, hc]; rfl)
            subst hAo
            have hmt : mtN xs.length q < L.length := by rw [HLN2.out]; exact mt_lt (by rw [← HLN2.out]; exact hlt)
            obtain ⟨dv, hdv⟩ : ∃ dv, os[mtN xs.length q]? = some dv := ⟨_, List.getElem?_eq_getElem (by rw [HOSL.out]; exact hmt)⟩
            obtain ⟨bo', oo', hbo, d0⟩ := ints_at (k := mtN xs.length q) (z := (dv : Int)) (zs := os.map Int.ofNat) (A := some ⟨bo, oo, none⟩) (c := co) (by rw [List.length_map, HOSL.out]; exact HOF.out) (by rw [List.getElem?_map, hdv]; rfl)
            obtain ⟨rfl, rfl⟩ : bo = bo' ∧ oo = oo' := by simpa using hbo
            obtain ⟨p, hp⟩ : ∃ p, ds[c]? = some p := ⟨_, List.getElem?_eq_getElem (by rw [HDL.out]; exact hcf)⟩
            have hpn : p.1 = duN L xs.length os q c m := by
              have h1 : (ds.map (·.1))[c]? = some p.1 := by rw [List.getElem?_map, hp]; rfl
              rw [HDS.out, du_at hm] at h1
              exact (Option.some.inj h1).symm
            have hdm : (dv : Int) = ((os.getD ((m + xs.length) % L.length) 0 : Nat) : Int) := by
              have h := num_mate HK.out (i := q) (c := c) (m := m) (by rw [HLL.out, HN.out]; exact hc) (by rw [HLL.out, HN.out]; exact hm)
              rw [HLL.out, HN.out] at h
              dsimp only at h
              rw [← h, getD_someN hdv]
            have C0 := Keeps.grown HOD.out.gr _ _ c0
            have D0 := Keeps.grown HOD.out.gr _ _ d0
            have HD0 := Lib.hid D0
            have hbol : bo < wr.heap.size := cell_lt C0
            have hq0 : (0 : Int) ≤ (q : Int) := by omega
            have hqI : (q : Int) < (L.length : Int) := by omega
            have hcI : (c : Int) < (fs.length : Int) := by omega
            have HCM : Hid (os[q]? = some c ∧ fs[c]? = some m ∧ ds[c]? = some p ∧ p.1 = duN L xs.length os q c m ∧ (dv : Int) = ((os.getD ((m + xs.length) % L.length) 0 : Nat) : Int) ∧ mtN xs.length q < L.length ∧ c < fs.length) := Lib.hid ⟨hc, hm, hp, hpn, hdm, hmt, hcf⟩
            have hmA : mateA (xs.length : Int) (q : Int) = ((mtN xs.length q : Nat) : Int) := by
              have h1 := HK.out.pos
              have h2 := HLN2.out
              unfold mtN
              by_cases h : q < xs.length
              · rw [if_pos h, mate_low (by omega) (by omega) (by omega)]; omega
              · rw [if_neg h, mate_high (by omega) (by omega) (by omega)]; omega
            have HMA := Lib.hid hmA
            clear hc hcf hm c0 hmt hdv hbo d0 hp hpn hdm D0 hmA
            go_upto_region 15 with fail
            refine region_acts (by kernel_rfl)
              [(0, .slice A xs.length cap), (7, .slice (some ⟨bo, oo, none⟩) L.length co), (9, .pointer (some ⟨W4.heap.size, 0, none⟩)), (12, .int .i64 (q : Int)), (13, .int .i64 (c : Int)), (55, .pointer (some ⟨W4.heap.size, 0, none⟩)), (56, .slice (some ⟨g, 0, none⟩) fs.length cap2), (57, .int .i64 (c : Int)), (58, .slice (some ⟨bo, oo, none⟩) L.length co), (59, .slice A xs.length cap), (60, .int .i64 (xs.length : Int)), (61, .int .i64 (q : Int)), (65, .pointer (some ⟨g, c * 6, none⟩)), (66, .pointer (some ⟨g, c * 6 + 1, none⟩))]
              (by kernel_rfl) [55, 56, 57, 58, 59, 60, 61, 62, 63, 64, 65, 66] (by kernel_rfl) (by kernel_rfl) (by decide) ?h0 [7, 8, 9, 12]
              (TDu wr g c (mtN xs.length q) bo oo (dv : Int)) ?hT ?hd ?reads ?steps ?hT0 ?hQ
            case h0 =>
              intro p hp hn
              simp only [List.mem_cons, List.not_mem_nil, or_false] at hp
              rcases hp with rfl | rfl | rfl | rfl | rfl | rfl | rfl | rfl | rfl | rfl | rfl | rfl | rfl | rfl
              all_goals first | rfl | exact absurd (by dsimp only; decide) hn
            case hT => exact fun d f g W h he => h.congr (he 62 rfl) (he 63 rfl) (he 64 rfl)
            case hd =>
              intro d i f W hi h
              simp only [List.mem_cons, List.not_mem_nil, or_false, not_or] at hi
              obtain ⟨i7, i8, i9, i12⟩ := hi
              exact h.same (doneD_ne d (Ne.symm i7)).symm (doneD_ne d (Ne.symm i8)).symm (doneD_ne d (Ne.symm i9)).symm (doneD_ne d (Ne.symm i12)).symm
            case reads =>
              intro i o ho hn
              have h9 : i = 0 ∨ i = 1 ∨ i = 2 ∨ i = 3 ∨ i = 4 ∨ i = 5 ∨ i = 6 ∨ i = 10 ∨ i = 11 := by
                have h1 := (Array.getElem?_eq_some_iff.1 ho).1
                simp only [List.size_toArray, List.length_cons, List.length_nil] at h1
                simp only [List.mem_cons, List.not_mem_nil, or_false] at hn
                omega
              rcases h9 with rfl | rfl | rfl | rfl | rfl | rfl | rfl | rfl | rfl
              · cases ho
                exact ⟨55, _, rfl, rfl, fun d b W' hdi hcl hT' henv => rc_table0 rfl (henv 9 _ (by simp [Op.operands]) rfl)⟩
              · cases ho
                refine ⟨56, _, rfl, rfl, fun d b W' hdi hcl hT' henv => ?_⟩
                have d12 : d 12 = false := not_done fun h => by
                  have h10 := hcl 12 _ ⟨11, Ground.data⟩ h rfl (by simp) rfl
                  have h11 := hcl 11 _ ⟨10, Ground.data⟩ h10 rfl (by simp) rfl
                  have h12 := hcl 10 _ ⟨1, Ground.data⟩ h11 rfl (by simp) rfl
                  rw [h12] at hdi; cases hdi
                exact rv_loadCs rfl (henv 55 _ (by simp [Op.operands]) rfl) ((HOD.out.kept ((tdu_a d12).1 hT').1).bt.cell 0)
              · cases ho
                exact ⟨57, _, rfl, rfl, fun d b W' hdi hcl hT' henv => rc_move rfl (henv 13 _ (by simp [Op.operands]) rfl)⟩
              · cases ho
                exact ⟨58, _, rfl, rfl, fun d b W' hdi hcl hT' henv => rc_move rfl (henv 7 _ (by simp [Op.operands]) rfl)⟩
              · cases ho
                exact ⟨59, _, rfl, rfl, fun d b W' hdi hcl hT' henv => rc_move rfl (henv 0 _ (by simp [Op.operands]) rfl)⟩
              · cases ho
                exact ⟨60, _, rfl, rfl, fun d b W' hdi hcl hT' henv => rc_len rfl (henv 59 _ (by simp [Op.operands, Call.operands]) rfl)⟩
              · cases ho
                exact ⟨61, _, rfl, rfl, fun d b W' hdi hcl hT' henv => rc_move rfl (henv 12 _ (by simp [Op.operands]) rfl)⟩
              · cases ho
                exact ⟨65, _, rfl, rfl, fun d b W' hdi hcl hT' henv => rv_indexCs0 rfl (henv 56 _ (by simp [Op.operands]) rfl) (henv 57 _ (by simp [Op.operands]) rfl) HCM.out.2.2.2.2.2.2⟩
              · cases ho
                exact ⟨66, _, rfl, rfl, fun d b W' hdi hcl hT' henv => rv_class1 rfl (henv 65 _ (by simp [Op.operands]) rfl)⟩
            case steps =>
              intro i o ho hi
              have h4 : i = 7 ∨ i = 8 ∨ i = 9 ∨ i = 12 := by simpa using hi
              rcases h4 with rfl | rfl | rfl | rfl
              · cases ho
                refine ⟨fun t e => by cases e; rfl, fun d b W' hb hdi hpre hcl hT' henv => ?_⟩
                have d9 : d 9 = true → d 8 = true := fun h => hcl 9 _ ⟨8, Ground.data⟩ h rfl (by simp) rfl
                have d8 : d 8 = true → d 7 = true := fun h => hcl 8 _ ⟨7, Ground.data⟩ h rfl (by simp) rfl
                have d12 : d 12 = false := not_done fun h => by rw [d8 (d9 (hcl 12 _ ⟨9, Ground.data⟩ h rfl (by simp) rfl))] at hdi; cases hdi
                obtain ⟨hg, _, h8, h9⟩ := (tdu_a d12).1 hT'
                have hml := HK.out.le
                have hq2 : (q : Int) ≤ 1000 := by omega
                refine wp_mate rfl (henv 60 _ (by simp [Op.operands, Call.operands]) rfl) (henv 61 _ (by simp [Op.operands, Call.operands]) rfl) (dmate_eq (xs.length : Int) (q : Int) W' (by omega) (by omega) (by omega) (by omega)) ?_
                rintro en W5' ⟨rfl, rfl⟩
                refine ⟨_, rfl, _, rfl, (tdu_a (by rw [doneD_ne d (by decide)]; exact d12)).2 ⟨hg, fun _ => ?_, fun h => ?_, fun h => ?_⟩⟩
                · rw [HMA.out]; exact act_put_atC _ (by rw [hb]; show _ < 69; decide)
                · rw [doneD_ne d (by decide)] at h
                  rw [d8 h] at hdi; cases hdi
                · rw [doneD_ne d (by decide)] at h
                  rw [d8 (d9 h)] at hdi; cases hdi
              · cases ho
                refine ⟨fun t e => by cases e; rfl, fun d b W' hb hdi hpre hcl hT' henv => ?_⟩
                have d9 : d 9 = true → d 8 = true := fun h => hcl 9 _ ⟨8, Ground.data⟩ h rfl (by simp) rfl
                have d12 : d 12 = false := not_done fun h => by rw [d9 (hcl 12 _ ⟨9, Ground.data⟩ h rfl (by simp) rfl)] at hdi; cases hdi
                have d7 : d 7 = true := hpre ⟨7, Ground.data⟩ (by simp) rfl
                obtain ⟨hg, h7, _, h9⟩ := (tdu_a d12).1 hT'
                refine wp_val (rc_indexInts rfl (henv 58 _ (by simp [Op.operands]) rfl) (h7 d7) HCM.out.2.2.2.2.2.1) ⟨_, rfl, (tdu_a (by rw [doneD_ne d (by decide)]; exact d12)).2 ⟨hg, fun _ => (act_put_ne _ (by decide)).trans (h7 d7), fun _ => act_put_atC _ (by rw [hb]; show _ < 69; decide), fun h => ?_⟩⟩
                rw [doneD_ne d (by decide)] at h
                rw [d9 h] at hdi; cases hdi
              · cases ho
                refine ⟨fun t e => by cases e; rfl, fun d b W' hb hdi hpre hcl hT' henv => ?_⟩
                have d12 : d 12 = false := not_done fun h => by rw [hcl 12 _ ⟨9, Ground.data⟩ h rfl (by simp) rfl] at hdi; cases hdi
                have d8 : d 8 = true := hpre ⟨8, Ground.data⟩ (by simp) rfl
                obtain ⟨hg, h7, h8, _⟩ := (tdu_a d12).1 hT'
                refine wp_val (rc_loadInt rfl (h8 d8) (Keeps.grown hg _ _ HD0.out)) ⟨_, rfl, (tdu_a (by rw [doneD_ne d (by decide)]; exact d12)).2 ⟨hg, fun h => ?_, fun _ => (act_put_ne _ (by decide)).trans (h8 d8), fun _ => act_put_atC _ (by rw [hb]; show _ < 69; decide)⟩⟩
                rw [doneD_ne d (by decide)] at h
                exact (act_put_ne _ (by decide)).trans (h7 h)
              · cases ho
                refine ⟨fun t e => (by cases e), fun d b W' hb hdi hpre hcl hT' henv => ?_⟩
                have d9 : d 9 = true := hpre ⟨9, Ground.data⟩ (by simp) rfl
                obtain ⟨hg, _, _, h9⟩ := (tdu_a hdi).1 hT'
                obtain ⟨k0, k1⟩ := (HOD.out.kept hg).cell HCM.out.2.2.1
                exact wp_storeInt rfl (henv 66 _ (by simp [Op.operands]) rfl) (h9 d9) k0 k1 ⟨undef, rfl, (tdu_b (doneD_at d 12)).2 ⟨W', rfl, hg⟩⟩
            case hT0 => exact (tdu_a rfl).2 ⟨only_drew (only_refl _ _), fun h => (by cases h), fun h => (by cases h), fun h => (by cases h)⟩
            case hQ =>
              intro d vs W' hd hv hT'
              obtain ⟨Wa, rfl, hg⟩ := (tdu_b (hd 12 (by simp))).1 hT'
              have HZ := Lib.hid ((HOD.out.kept hg).dual HDL.out HCM.out.2.2.1 (dv : Int))
              simp only [List.foldl_cons, List.foldl_nil, List.setIfInBounds_toArray, List.set_cons_zero, List.set_cons_succ]
              clear hv hT' hg hd
              generalize World.setCell _ _ _ = W9 at *
              go_wp2_with fail
              go_roundw
              case rel =>
                refine ⟨q + 1, _, by omega, by go_num, ?_, HZ.out⟩
                rw [List.map_set, HDS.out, du_succ HCM.out.1 HCM.out.2.1, HCM.out.2.2.2.1, ← HCM.out.2.2.2.2.1]
              case measure => simp [intOf]; omega
          · have hge : (L.length : Int) ≤ (q : Int) := by omega
            have HQE : Hid (q = L.length) := Lib.hid (by omega)
            have hb0 := HB1.out.kept (only_trans (only_trans (only_trans HG2.out HG3.out) HG4.out) HOD.out.gr)
            have HB0 := Lib.hid hb0
            have r0 := hb0.cell 0
            have r1 := hb0.cell 1
            have r2 := hb0.cell 2
            have f0 := hb0.frozen 0
            have f1 := hb0.frozen 1
            have f2 := hb0.frozen 2
            have l0 := HOD.out.bt.cell 0
            have l1 := HOD.out.bt.cell 1
            have l2 := HOD.out.bt.cell 2
            clear hlt hq hb0
            go_wp2_with fail
            obtain ⟨hb9, hg9, hk9⟩ := three_set HB0.out (.slice (some ⟨g, 0, none⟩) fs.length cap2) (.slice Ao L.length co) (.slice Ap L.length cp)
            refine bodyPost_ret (cof_results rfl rfl hb9) rfl ?_
            refine ⟨⟨_, rfl, ?_⟩, only_new (only_trans (only_trans (only_trans (only_trans HGW.out HG2.out) HG3.out) HG4.out) HOD.out.gr) hg9 (Nat.le_refl _)⟩
            rw [HCL.out]
            have ht := HOD.out.ct.tbl
            have hfull : duL L xs.length fs os L.length = fs.map (clsN L xs.length os) := by
              refine du_full (by rw [HOSL.out]; exact Nat.le_refl _) (fun c m hm => ?_) (fun c m hm => ?_)
              · obtain ⟨i0, _, hi0, _⟩ := (cls_num HX.out.tw).first c m (by rw [HN.out]; exact hm)
                rw [HN.out] at hi0
                exact List.mem_of_getElem? hi0
              · obtain ⟨i0, hi0, _⟩ := (cls_num HX.out.tw).first c m (by rw [HN.out]; exact hm)
                obtain ⟨y, hy, _⟩ := live_some (roots_live HX.out.tw m (List.mem_of_getElem? hi0))
                exact ⟨y, hy⟩
            rw [HDS.out, HQE.out, hfull] at ht
            exact ⟨_, _, _, rfl, ht.keepI hk9, (HOF.out.keep (.grown HOD.out.gr)).keepI hk9, (HP.out.keep (.grown (only_trans (only_trans HG3.out HG4.out) HOD.out.gr))).keepI hk9⟩
  · have HCL : Hid (clsT xs = ⟨[], [], []⟩) := Lib.hid (by unfold clsT; rw [hae, if_neg h0])
    rw [hae]
    have he2 : (e == 0) = false := by simp [h0]
    have he3 : (e != 0) = true := by simp [h0]
    have he4 : decide (e = 0) = false := decide_eq_false h0
    clear hT hae
    go_enter Try.func22, Try.ntmps22
    go_upto_region 2 with (go_at_call 30; go_must (refine (ocheckB_is HAE.out (HT.out.keep (.grown (only_alloc (only_refl _ _) _))) hxs).mono ?_; rintro en W1 ⟨rfl, hg1⟩; have HG1 := Lib.hid hg1; have HB1 := Lib.hid ((Blk.new w _ _).kept hg1); clear hg1))
    have r0 := HB1.out.cell 0
    have r1 := HB1.out.cell 1
    have r2 := HB1.out.cell 2
    have f0 := HB1.out.frozen 0
    have f1 := HB1.out.frozen 1
    have f2 := HB1.out.frozen 2
    go_wp2_with fail
    obtain ⟨hb9, hg9, _⟩ := three_set HB1.out (.slice none 0 0) (.slice none 0 0) (.slice none 0 0)
    refine bodyPost_ret (cof_results rfl rfl hb9) rfl ?_
    refine ⟨⟨_, rfl, ?_⟩, only_new (only_trans (only_alloc (only_refl w none) _) HG1.out) hg9 (Nat.le_refl _)⟩
    rw [HCL.out]
    exact ⟨_, _, _, rfl, Tbl.nil_ _, Ints.nil_ _, Ints.nil_ _⟩
end Go.Proofs.Ytmhbmeckdbdhpaa

namespace Go.Proofs.Ytmhbmeckdbdhpaa
open Go.RowKit Go.Shelf

theorem fac_info : (Try.prog.info? 35).map (·.size) = some 4 := by kernel_rfl
theorem facts_of_run {tmps : Array Value} {W : World} {g : Nat} {cs : Array Value} {e : Int} (hp : tmps.getD 2 undef = .pointer (some ⟨g, 0, none⟩)) (hb : Blk W g 35 cs) (hc : cs.size = 4) (he : tmps.getD 3 undef = .int .i64 e) : (results Try.f7 tmps).run Try.prog W = .ok (.tuple #[.agg cs, .int .i64 e]) W := by
  have hp' : tmps[2]?.getD undef = .pointer (some ⟨g, 0, none⟩) := by simpa using hp
  have he' : tmps[3]?.getD undef = .int .i64 e := by simpa using he
  simp [results, Try.results7, hp', he', asAddr, run_loadVar_row W g _ 35 _ _ _ hb Try.underlying35 rfl (by rw [hc]; exact fac_info)]
theorem clsT_lens (xs : List Nd) : (clsT xs).cls.length ≤ 1000000 := (wf_clsT xs).small.1
theorem tabv_shape {W : World} {v : Value} {T : ClsT} (h : TabV W v T) : ∃ A1 n1 c1 A2 n2 c2 A3 n3 c3, v = .agg #[.slice A1 n1 c1, .slice A2 n2 c2, .slice A3 n3 c3] := by
  obtain ⟨_, _, _, rfl, ⟨A1, c1, rfl, _⟩, ⟨A2, c2, rfl, _⟩, ⟨A3, c3, rfl, _⟩⟩ := h
  exact ⟨_, _, _, _, _, _, _, _, _, rfl⟩
theorem fac_zero (W : World) : FacV W (.agg #[.slice none 0 0, .slice none 0 0, .slice none 0 0, .slice none 0 0]) emptyC [] := ⟨_, _, _, _, rfl, ⟨_, _, _, rfl, ⟨none, 0, rfl, fun h => absurd rfl h⟩, Ints.nil_ _, Ints.nil_ _⟩, ParsV.nil_ _⟩
/-- What stands as the parameters' slots are made, template by template. -/
structure FcI (wX : World) (Bs b1 b2 b4 b6 : Nat) (cm ct : Array Value) (t1 t2 t3 : Value) (ps : List (List Slt)) (W : World) : Prop where
  gr : wX.grownBy W none
  sz : Bs ≤ W.heap.size
  m : Blk W b1 28 cm
  z : Blk W b2 35 #[.slice none 0 0, .slice none 0 0, .slice none 0 0, .slice none 0 0]
  t : Blk W b4 32 ct
  f : ∃ v vs, Blk W b6 35 #[t1, t2, t3, v] ∧ PO Bs W v vs ps
theorem FcI.kept {wX W W' : World} {Bs b1 b2 b4 b6 : Nat} {cm ct : Array Value} {t1 t2 t3 : Value} {ps : List (List Slt)} (h : FcI wX Bs b1 b2 b4 b6 cm ct t1 t2 t3 ps W) (hg : W.grownBy W' none) : FcI wX Bs b1 b2 b4 b6 cm ct t1 t2 t3 ps W' := by
  obtain ⟨v, vs, h1, h2⟩ := h.f
  exact ⟨only_trans h.gr hg, Nat.le_trans h.sz hg.size, h.m.kept hg, h.z.kept hg, h.t.kept hg, v, vs, h1.kept hg, h2.kept hg⟩
theorem FcI.blk {Bs b : Nat} {t : TypeId} {cs : Array Value} {W W' : World} {v : Value} {vs : List Value} {ps : List (List Slt)} (hpo : PO Bs W v vs ps) (hg : W.grownBy W' v.ownBlock) (hb : Blk W b t cs) (hl : b < Bs) : Blk W' b t cs := hb.grown hg (fun e => by
  have := (own_lt hpo.row b e.symm).1
  omega)
theorem FcI.put {wX W W' : World} {Bs b1 b2 b4 b6 : Nat} {cm ct : Array Value} {t1 t2 t3 v v' : Value} {ps ps' : List (List Slt)} {vs vs' : List Value} (h : FcI wX Bs b1 b2 b4 b6 cm ct t1 t2 t3 ps W) (hb6 : Blk W b6 35 #[t1, t2, t3, v]) (hpo : PO Bs W v vs ps)
    (hg : W.grownBy W' v.ownBlock) (hpo' : PO Bs W' v' vs' ps') (h1 : b1 < b6) (h2 : b2 < b6) (h4 : b4 < b6) (h6 : b6 < Bs) (hx : wX.heap.size ≤ b6) : FcI wX Bs b1 b2 b4 b6 cm ct t1 t2 t3 ps' (W'.setCell ⟨b6, 3, none⟩ v') := by
  have hs : W'.grownBy (W'.setCell ⟨b6, 3, none⟩ v') (some b6) := only_setCell (only_refl _ _) rfl _
  have far : ∀ {b : Nat} {t : TypeId} {cs : Array Value}, Blk W b t cs → b < b6 → Blk (W'.setCell ⟨b6, 3, none⟩ v') b t cs := fun hb hl => (FcI.blk hpo hg hb (by omega)).grown hs (fun e => by injection e with e; omega)
  refine ⟨only_new (grown_row h.gr (fun g e => ?_) hg) hs hx, Nat.le_trans (Nat.le_trans h.sz hg.size) hs.size, far h.m h1, far h.z h2, far h.t h4, v', vs', (FcI.blk hpo hg hb6 h6).set_ 3 v', hpo'.below h6 hs⟩
  have := (own_lt hpo.row g e).1
  omega
set_option maxRecDepth 100000 in
set_option maxHeartbeats 4000000 in
theorem sfacts_any (xs : List Nd) (ts : List (List Prm)) (v0 v1 v2 v3 v4 v5 v6 v7 : Value) (w : World) (hN : Tbl w v0 xs) (hT : TplsV w v1 ts) (hxl : xs.length ≤ 1000) (htl : ts.length ≤ 1000) (hpl : ∀ l ∈ ts, l.length ≤ 1000) :
    Calls Try.prog 7 #[.agg #[v0, v1, v2, v3, v4, v5, v6, v7]] w fun e w' => (∃ fv, e = .returned (.tuple #[fv, .int .i64 (factsA xs ts).1]) ∧ FacV w' fv (factsA xs ts).2.1 (factsA xs ts).2.2) ∧ w.grownBy w' none := by
  have HN := Lib.hid hN
  have HT := Lib.hid hT
  have HXL := Lib.hid hxl
  have HTL := Lib.hid htl
  have HPL := Lib.hid hpl
  obtain ⟨A, c, rfl, _⟩ := hN
  obtain ⟨At, ct, rfl, htc, hct, _⟩ := hT
  obtain ⟨oe, hoe⟩ : ∃ oe, (orderL xs).2 = oe := ⟨_, rfl⟩
  have HOE := Lib.hid hoe
  have htlI : (ts.length : Int) ≤ 1000 := by omega
  clear hoe hxl htl hpl
  go_enter Try.func7, Try.ntmps7
  go_upto_region 2 with (first | (go_at_call 22; go_must (refine (cof_con xs _ _ (HN.out.keep (.grown (only_alloc (only_alloc (only_refl _ _) _) _))) HXL.out).mono ?_; rw [HOE.out]; rintro en W2 ⟨⟨tv, rfl, ht⟩, hg2⟩; have HTV := Lib.hid ht; have HG2 := Lib.hid hg2; obtain ⟨A1, n1, c1, A2, n2, c2, A3, n3, c3, rfl⟩ := tabv_shape ht; clear ht hg2)) | fail)
  obtain ⟨W3, hW3⟩ : ∃ W3, W2.alloc (.cells #[.slice A1 n1 c1, .slice A2 n2 c2, .slice A3 n3 c3] 32) = W3 := ⟨_, rfl⟩
  have hz2 : w.heap.size + 2 ≤ W2.heap.size := by have := HG2.out.size; simpa using this
  have hb1 : Blk W3 w.heap.size 28 #[.slice A xs.length c, .slice At ts.length ct, v2, v3, v4, v5, v6, v7] := by rw [← hW3]; exact (Blk.kept ((Blk.new _ _ _).alloc _) HG2.out).alloc _
  have hb2 : Blk W3 (w.heap.size + 1) 35 #[.slice none 0 0, .slice none 0 0, .slice none 0 0, .slice none 0 0] := by rw [← hW3]; exact (Blk.kept (blk_at (by simp) _ _) HG2.out).alloc _
  have hb4 : Blk W3 W2.heap.size 32 #[.slice A1 n1 c1, .slice A2 n2 c2, .slice A3 n3 c3] := by rw [← hW3]; exact Blk.new _ _ _
  have hg3 : w.grownBy W3 none := by rw [← hW3]; exact only_alloc (only_trans (only_alloc (only_alloc (only_refl _ _) _) _) HG2.out) _
  have HTV3 := Lib.hid (HTV.out.keep (.grown (by rw [← hW3]; exact only_alloc (only_refl _ _) _ : W2.grownBy W3 none)))
  have hz3 : W3.heap.size = W2.heap.size + 1 := by rw [← hW3]; simp
  rw [hW3]
  have HB1 := Lib.hid hb1
  have HB2 := Lib.hid hb2
  have HB4 := Lib.hid hb4
  have HG3 := Lib.hid hg3
  clear hW3 hb1 hb2 hb4 hg3 HTV HG2
  by_cases h0 : oe = 0
  · subst h0
    have e0 := HB4.out.cell 0
    have e1 := HB4.out.cell 1
    have e2 := HB4.out.cell 2
    go_upto_region 5 with fail
    obtain ⟨W4, hW4⟩ : ∃ W4, W3.alloc (.cells #[.slice A1 n1 c1, .slice A2 n2 c2, .slice A3 n3 c3, .slice none 0 0] 35) = W4 := ⟨_, rfl⟩
    have hg4 : W3.grownBy W4 none := by rw [← hW4]; exact only_alloc (only_refl _ _) _
    have hz4 : W4.heap.size = W3.heap.size + 1 := by rw [← hW4]; simp
    have HI : Hid (FcI W3 W4.heap.size w.heap.size (w.heap.size + 1) W2.heap.size W3.heap.size #[.slice A xs.length c, .slice At ts.length ct, v2, v3, v4, v5, v6, v7] #[.slice A1 n1 c1, .slice A2 n2 c2, .slice A3 n3 c3] (.slice A1 n1 c1) (.slice A2 n2 c2) (.slice A3 n3 c3) [] W4) := Lib.hid
      ⟨hg4, Nat.le_refl _, HB1.out.kept hg4, HB2.out.kept hg4, HB4.out.kept hg4, _, [], by rw [← hW4]; exact Blk.new _ _ _, PO.nil_ _ _⟩
    rw [hW4]
    clear e0 e1 e2 hW4 HB1 HB2 HB4
    have m1 := HI.out.m.cell 1
    have hsz4 : w.heap.size < W4.heap.size := by omega
    go_wp2_with fail
    clear m1
    generalize hBs : W4.heap.size = Bs at *
    generalize hb4 : W2.heap.size = b4 at *
    generalize hb6 : W3.heap.size = b6 at *
    generalize hb1 : w.heap.size = b1 at *
    subst hz3
    have HEQ := Lib.hid (And.intro hb1 (And.intro hz2 (And.intro hb6 (And.intro hz4 hBs))))
    clear hb1 hz2 hb6 hz4 hBs hb4 hsz4
    go_loopw [27] (fun i wr => ∃ k : Nat, k ≤ ts.length ∧ i = .int .i64 (k : Int) ∧ FcI W3 Bs b1 (b1 + 1) b4 (b4 + 1) #[.slice A xs.length c, .slice At ts.length ct, v2, v3, v4, v5, v6, v7] #[.slice A1 n1 c1, .slice A2 n2 c2, .slice A3 n3 c3] (.slice A1 n1 c1) (.slice A2 n2 c2) (.slice A3 n3 c3) ((ts.take k).map (·.map (slotA (clsT xs)))) wr ∧ (ts.take k).all (tplB xs.length) = true) (fun i _ => ts.length - (intOf i).toNat)
    case atStart => exact ⟨0, Nat.zero_le _, rfl, HI.out, rfl⟩
    case round =>
      obtain ⟨k, hk, rfl, hi, ha⟩ := hrel
      have HK := Lib.hid hi
      have HA := Lib.hid ha
      by_cases hlt : k < ts.length
      · obtain ⟨l, hl⟩ : ∃ l, ts[k]? = some l := ⟨_, List.getElem?_eq_getElem hlt⟩
        have HLX := Lib.hid hl
        have hll := HPL.out l (List.mem_of_getElem? hl)
        have HLL := Lib.hid hll
        obtain ⟨bt, ot, pv, C, nc, cc, D, nd, cd, rfl, hpv, m0, m1, m2⟩ := HT.out.at_ hl
        have hgw : w.grownBy wr none := only_trans HG3.out hi.gr
        have HPV := Lib.hid (hpv.keep (.grown hgw))
        obtain ⟨Ap, cp, rfl, hpc, hpc2, _⟩ := hpv
        have d0 := Keeps.grown hgw _ _ m0
        have d1 := Keeps.grown hgw _ _ m1
        have d2 := Keeps.grown hgw _ _ m2
        have q0 := hi.m.cell 0
        have hb := cell_lt d0
        have hq := cell_lt (v := .slice A xs.length c) q0
        have hk0 : (0 : Int) ≤ (k : Int) := by omega
        have hk1 : (k : Int) < (ts.length : Int) := by omega
        have hllI : (l.length : Int) ≤ 1000 := by omega
        clear m0 m1 m2 hl hi ha hll hgw
        go_upto_region 8 with fail
        obtain ⟨wa, hwa⟩ : ∃ wa, wr.alloc (.cells #[.slice Ap l.length cp, .slice C nc cc, .slice D nd cd] 65) = wa := ⟨_, rfl⟩
        have hga : wr.grownBy wa none := by rw [← hwa]; exact only_alloc (only_refl _ _) _
        have h8 : Blk wa wr.heap.size 65 #[.slice Ap l.length cp, .slice C nc cc, .slice D nd cd] := by rw [← hwa]; exact Blk.new _ _ _
        rw [hwa]
        have HKa := Lib.hid (HK.out.kept hga)
        have HPa := Lib.hid (HPV.out.keep (.grown hga))
        have H8 := Lib.hid h8
        clear d0 d1 d2 q0 hwa hga HK HPV hb hq
        generalize hb8 : wr.heap.size = b8 at *
        have q0 := HKa.out.m.cell 0
        have t0 := h8.cell 0
        clear h8
        obtain ⟨tb, htb⟩ : ∃ tb, tplB xs.length l = tb := ⟨_, rfl⟩
        have HTB := Lib.hid htb
        clear htb
        cases tb with
        | true =>
          go_upto_region 10 with (first | (go_at_call 23; go_must (refine (shave_any xs.length A c (.slice Ap l.length cp) l _ HPa.out HXL.out HLL.out).mono ?_; rw [HTB.out]; rintro e w5 ⟨rfl, hg⟩; have HG5 := Lib.hid hg; clear hg)) | fail)
          have HK5 := Lib.hid (HKa.out.kept HG5.out)
          have HP5 := Lib.hid (HPa.out.keep (.grown HG5.out))
          have h8 := H8.out.kept HG5.out
          have H85 := Lib.hid h8
          have HTV5 := Lib.hid (HTV3.out.keep (.grown HK5.out.gr))
          have HS0 : Hid (SO w5.heap.size w5 (.slice none 0 0) []) := Lib.hid (SO.nil_ _ _)
          clear q0 t0
          have t0 := h8.cell 0
          clear h8
          go_wp2_with fail
          go_loopw [9, 41] (fun v i wq => ∃ j : Nat, j ≤ l.length ∧ i = .int .i64 (j : Int) ∧ w5.grownBy wq none ∧ SO w5.heap.size wq v ((l.take j).map (slotA (clsT xs)))) (fun _ i _ => l.length - (intOf i).toNat)
          case atStart => exact ⟨0, Nat.zero_le _, rfl, only_refl _ _, HS0.out⟩
          case round =>
            obtain ⟨j, hj, rfl, hgq, hso⟩ := hrel
            have HGQ := Lib.hid hgq
            have HSO := Lib.hid hso
            by_cases hjl : j < l.length
            · obtain ⟨p, hp⟩ : ∃ p, l[j]? = some p := ⟨_, List.getElem?_eq_getElem hjl⟩
              have HPJ := Lib.hid hp
              obtain ⟨bp, op, rfl, hfit, m0, m1, m2⟩ := HP5.out.at_ hp
              have HFIT := Lib.hid hfit
              obtain ⟨ch, pn, po⟩ := p
              dsimp only at m0 m1 m2
              have d0 := Keeps.grown hgq _ _ m0
              have d1 := Keeps.grown hgq _ _ m1
              have d2 := Keeps.grown hgq _ _ m2
              have ht := HK5.out.t.kept hgq
              have e0 := ht.cell 0
              have e1 := ht.cell 1
              have e2 := ht.cell 2
              have hb := cell_lt d0
              have hbt := ht.lt
              have hj0 : (0 : Int) ≤ (j : Int) := by omega
              have hj1 : (j : Int) < (l.length : Int) := by omega
              have HTVq := Lib.hid (HTV5.out.keep (.grown hgq))
              have hsl : ((l.take j).map (slotA (clsT xs))).length ≤ 1000 := by rw [List.length_map, List.length_take]; have := HLL.out; omega
              have HSL := Lib.hid hsl
              have HTK : Hid ((l.take (j + 1)).map (slotA (clsT xs)) = (l.take j).map (slotA (clsT xs)) ++ [slotA (clsT xs) ⟨ch, pn, po⟩]) := Lib.hid (by rw [take_len hp, List.map_append]; rfl)
              obtain ⟨y, hy⟩ : ∃ y, slotA (clsT xs) ⟨ch, pn, po⟩ = y := ⟨_, rfl⟩
              have HY := Lib.hid hy
              obtain ⟨yk, yc, yp⟩ := y
              clear m0 m1 m2 hp hgq hso hfit ht hsl hy t0
              go_wp2_with (first
                | (go_at_call 24; go_must (refine (sslot_any (clsT xs) (.agg #[.slice A1 n1 c1, .slice A2 n2 c2, .slice A3 n3 c3]) ⟨ch, pn, po⟩ _ (wf_clsT xs) (HTVq.out.keep (.grown (only_alloc (only_refl _ _) _))) HFIT.out).mono ?_; rw [HY.out]; rintro e w6 ⟨rfl, hg⟩; have HG6 := Lib.hid (only_trans (only_alloc (only_refl _ _) _) hg); clear hg))
                | (at_builtin; refine wpList_append_slot (y := ⟨yk, yc, yp⟩) rfl (.tmp 45) (.tmp 49) rfl rfl rfl (own_keep0 (own_keep0 HSO.out HG6.out) (only_alloc (only_refl _ _) _)) (Blk.new _ _ _) HSL.out (by have h1 := HGQ.out.size; have h2 := HG6.out.size; simp; omega) ?_; intro v' W' hso' hgr'; have HSO2 := Lib.hid hso'; have HGR2 := Lib.hid hgr'; clear hso' hgr')
                | fail)
              go_roundw
              case rel =>
                exact ⟨j + 1, by omega, by go_num, grown_row (only_alloc (only_trans HGQ.out HG6.out) _) (fun g e => (own_lt HSO.out g e).1) HGR2.out, by rw [HTK.out, HY.out]; exact HSO2.out⟩
              case measure => simp [intOf]; omega
            · have hje : j = l.length := by omega
              subst hje
              rw [List.take_length] at hso
              obtain ⟨Au, nu, cu, rfl⟩ := own_sliceN hso
              have hkr := HK5.out.kept hgq
              obtain ⟨v, vs, hb6, hpo⟩ := hkr.f
              have hlm : (l.map (slotA (clsT xs))).length ≤ 1000 := by rw [List.length_map]; exact HLL.out
              have hsl := SO.slots hso hlm
              have hpl : ((ts.take k).map (·.map (slotA (clsT xs)))).length ≤ 1000 := by rw [List.length_map, List.length_take]; have := HTL.out; omega
              obtain ⟨v5, vs5, hb65, hpo5⟩ := HK5.out.f
              have hv5 : v5 = v := by
                have e1 := (hb65.kept hgq).cell 3
                have e2 := hb6.cell 3
                rw [e1] at e2
                simpa using e2
              rw [hv5] at hpo5
              have HSV : Hid (SlotsV (fun q => Bs ≤ q ∧ some q ≠ v.ownBlock) wr (.slice Au nu cu) (l.map (slotA (clsT xs)))) := Lib.hid (hsl.weak fun b _ hb => ⟨Nat.le_trans HK5.out.sz hb, fun e => by
                have h1 := (own_lt hpo5.row b e.symm).2
                have hb' : w5.heap.size ≤ b := hb
                omega⟩)
              obtain ⟨Av, nv, cv, rfl⟩ := own_sliceN hpo.row
              have x3 := hb6.cell 3
              have HB6 := Lib.hid hb6
              have HPO := Lib.hid hpo
              have HKR := Lib.hid hkr
              have HPLN := Lib.hid hpl
              have hbl := hb6.lt
              have HQE := HEQ.out
              have HTS : Hid ((ts.take (k + 1)).map (·.map (slotA (clsT xs))) = (ts.take k).map (·.map (slotA (clsT xs))) ++ [l.map (slotA (clsT xs))]) := Lib.hid (by rw [take_len HLX.out, List.map_append]; rfl)
              have HTA : Hid ((ts.take (k + 1)).all (tplB xs.length) = true) := Lib.hid (by rw [take_len HLX.out, List.all_append, HA.out]; simp [HTB.out])
              clear hkr hsl hlm hpl hb65 hpo5 hv5 hb6 hpo hso hjl hj hgq t0 HQE
              go_wp2_with (first
                | (at_builtin; refine wpList_append_par rfl (.tmp 53) (.tmp 55) rfl rfl rfl (HPO.out.kept (only_alloc (only_refl _ _) _)) (Blk.new _ _ _) (HSV.out.keep (.grown (only_alloc (only_refl _ _) _))) HPLN.out (by have h1 := HKR.out.sz; simp; omega) ?_; intro v' W' hpo' hgr'; have HPO2 := Lib.hid hpo'; have HGR2 := Lib.hid hgr'; obtain ⟨A9, n9, c9, rfl⟩ := own_sliceN hpo'.row; have hb9 := FcI.blk (HPO.out.kept (only_alloc (only_refl _ _) _)) hgr' (HB6.out.kept (only_alloc (only_refl _ _) _)) (by have := HEQ.out; omega); have z3 := hb9.cell 3; have fz := hb9.frozen 3; clear hpo' hgr' hb9)
                | fail)
              go_roundw
              case rel =>
                exact ⟨k + 1, by omega, by go_num, by rw [HTS.out]; exact (HKR.out.kept (only_alloc (only_refl _ _) _)).put (HB6.out.kept (only_alloc (only_refl _ _) _)) (HPO.out.kept (only_alloc (only_refl _ _) _)) HGR2.out HPO2.out (by have := HEQ.out; omega) (by have := HEQ.out; omega) (by omega) (by have := HEQ.out; omega) (by have := HEQ.out; omega), HTA.out⟩
              case measure => simp [intOf]; omega
        | false =>
          go_upto_region 9 with (first | (go_at_call 23; go_must (refine (shave_any xs.length A c (.slice Ap l.length cp) l _ HPa.out HXL.out HLL.out).mono ?_; rw [HTB.out]; rintro e w5 ⟨rfl, hg⟩; have HG5 := Lib.hid hg; clear hg)) | fail)
          have hz := HKa.out.z.kept HG5.out
          have d0 := hz.cell 0
          have d1 := hz.cell 1
          have d2 := hz.cell 2
          have d3 := hz.cell 3
          have f0 := hz.frozen 0
          have f1 := hz.frozen 1
          have f2 := hz.frozen 2
          have f3 := hz.frozen 3
          have HZ := Lib.hid ((((hz.set_ 0 (.slice none 0 0)).set_ 1 (.slice none 0 0)).set_ 2 (.slice none 0 0)).set_ 3 (.slice none 0 0))
          have HFA : Hid (factsA xs ts = (2, emptyC, [])) := Lib.hid (by
            unfold factsA
            rw [HOE.out, if_pos rfl, if_neg]
            intro h
            rw [List.all_eq_true] at h
            have := h l (List.mem_of_getElem? HLX.out)
            rw [HTB.out] at this
            cases this)
          have HGF : Hid (w.grownBy w5 none) := Lib.hid (only_trans HG3.out (only_trans HKa.out.gr HG5.out))
          clear hz q0 t0
          go_wp2_with fail
          refine bodyPost_ret (facts_of_run rfl HZ.out rfl rfl) rfl ⟨⟨_, by rw [HFA.out], by rw [HFA.out]; exact fac_zero _⟩, ?_⟩
          exact only_setNew (only_setNew (only_setNew (only_setNew HGF.out (by have := HEQ.out.1; simp; omega) _) (by have := HEQ.out.1; simp; omega) _) (by have := HEQ.out.1; simp; omega) _) (by have := HEQ.out.1; simp; omega) _
      · have hke : k = ts.length := by omega
        subst hke
        have hall : ts.all (tplB xs.length) = true := by have := HA.out; rwa [List.take_length] at this
        have HFA : Hid (factsA xs ts = (0, clsT xs, ts.map (·.map (slotA (clsT xs))))) := Lib.hid (by
          unfold factsA
          rw [HOE.out, if_pos rfl, if_pos hall])
        obtain ⟨v, vs, hb6, hpo⟩ := hi.f
        rw [List.take_length] at hpo
        obtain ⟨Av, cv, rfl⟩ : ∃ A c, v = .slice A ts.length c := by
          obtain ⟨A, c, e⟩ := own_slice hpo.row
          exact ⟨A, c, by rw [e, List.length_map]⟩
        have HPO := Lib.hid hpo
        have hz := hi.z
        have HB6 := Lib.hid hb6
        have HZ := Lib.hid hz
        have HGF : Hid (w.grownBy wr none) := Lib.hid (only_trans HG3.out hi.gr)
        have HTF := Lib.hid (HTV3.out.keep (.grown hi.gr))
        clear hz hb6 hpo hi hall ha hlt hk
        go_upto_region 18 with fail
        refine wp_region_lit ?_
        refine wpList_load_row rfl 35 (.tmp 6) rfl (b4 + 1) rfl 35 #[.slice A1 n1 c1, .slice A2 n2 c2, .slice A3 n3 c3, .slice Av ts.length cv] _ _ HB6.out Try.underlying35 rfl fac_info ?_
        refine wpList_store_row rfl 35 (.tmp 2) (.tmp 59) rfl (b1 + 1) #[.slice A1 n1 c1, .slice A2 n2 c2, .slice A3 n3 c3, .slice Av ts.length cv] rfl rfl 35 _ HZ.out fac_info rfl (by simp [Value.oneCell']) ?_
        simp only [Act.put, List.setIfInBounds_toArray, List.set_cons_zero, List.set_cons_succ]
        have HST := Lib.hid (HZ.out.rowM #[.slice A1 n1 c1, .slice A2 n2 c2, .slice A3 n3 c3, .slice Av ts.length cv])
        have hgz : wr.grownBy (wr.setRow (b1 + 1) #[.slice A1 n1 c1, .slice A2 n2 c2, .slice A3 n3 c3, .slice Av ts.length cv]) (some (b1 + 1)) := only_rowM _ _ _
        have HGK : Hid (w.grownBy (wr.setRow (b1 + 1) #[.slice A1 n1 c1, .slice A2 n2 c2, .slice A3 n3 c3, .slice Av ts.length cv]) none) := Lib.hid (only_new HGF.out hgz (by have := HEQ.out.1; omega))
        have HFV : Hid (FacV (wr.setRow (b1 + 1) #[.slice A1 n1 c1, .slice A2 n2 c2, .slice A3 n3 c3, .slice Av ts.length cv]) (.agg #[.slice A1 n1 c1, .slice A2 n2 c2, .slice A3 n3 c3, .slice Av ts.length cv]) (clsT xs) (ts.map (·.map (slotA (clsT xs))))) := Lib.hid
          ⟨_, _, _, _, rfl, HTF.out.far (noInt_slices HZ.out (fun u hu z => by
            simp only [List.mem_cons, List.not_mem_nil, or_false] at hu
            rcases hu with rfl | rfl | rfl | rfl <;> simp)) hgz, (HPO.out.below (by have := HEQ.out; omega) hgz).pars (by rw [List.length_map]; exact HTL.out)⟩
        clear hgz
        generalize (wr.setRow _ _) = wz at *
        go_wp2_with fail
        exact bodyPost_ret (facts_of_run rfl HST.out rfl rfl) rfl ⟨⟨_, by rw [HFA.out], by rw [HFA.out]; exact HFV.out⟩, HGK.out⟩
  · have hne : (oe == 0) = false := by simp [h0]
    have HFA : Hid (factsA xs ts = (oe, emptyC, [])) := Lib.hid (by unfold factsA; rw [HOE.out, if_neg h0])
    have d0 := HB2.out.cell 0
    have d1 := HB2.out.cell 1
    have d2 := HB2.out.cell 2
    have d3 := HB2.out.cell 3
    have f0 := HB2.out.frozen 0
    have f1 := HB2.out.frozen 1
    have f2 := HB2.out.frozen 2
    have f3 := HB2.out.frozen 3
    have hne2 : (oe != 0) = true := by simp [h0]
    have HZ := Lib.hid ((((HB2.out.set_ 0 (.slice none 0 0)).set_ 1 (.slice none 0 0)).set_ 2 (.slice none 0 0)).set_ 3 (.slice none 0 0))
    go_wp2_with fail
    refine bodyPost_ret (facts_of_run rfl HZ.out rfl rfl) rfl ⟨⟨_, by rw [HFA.out], by rw [HFA.out]; exact fac_zero _⟩, ?_⟩
    exact only_setNew (only_setNew (only_setNew (only_setNew HG3.out (by simp) _) (by simp) _) (by simp) _) (by simp) _
end Go.Proofs.Ytmhbmeckdbdhpaa

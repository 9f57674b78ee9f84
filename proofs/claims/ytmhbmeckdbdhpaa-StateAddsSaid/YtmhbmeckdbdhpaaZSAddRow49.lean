/- Texts joined for the claim's sake: SFew, SOw. -/
import Derived.Test.YtmhbmeckdbdhpaaZSAddRow48
import Derived.Deep.CutBlock
import Derived.Deep.CutRange
import Derived.Test.YtmhbmeckdbdhpaaZSAddRow46
namespace Go.Proofs.Ytmhbmeckdbdhpaa
open Go.RowKit Go.Shelf

set_option maxRecDepth 100000 in
set_option maxHeartbeats 4000000 in
theorem fewX_any (xs : List Nd) (ts : List (List Prm)) (v0 v1 v2 v3 v4 v5 v6 v7 : Value) (w : World) (hT : TblC w v0 xs) (hP : TplsV w v1 ts) :
    Calls Try.prog 6 #[.agg #[v0, v1, v2, v3, v4, v5, v6, v7]] w fun e w' => (∃ u0 u1, e = .returned (.agg #[u0, u1, .slice none 0 0, .slice none 0 0, .slice none 0 0, .slice none 0 0, .slice none 0 0, .slice none 0 0]) ∧ Tbl w' u0 (fewX xs) ∧ TplsV w' u1 (fewP ts)) ∧ w.grownBy w' none := by
  have HT := Lib.hid hT
  have HP := Lib.hid hP
  obtain ⟨A, c, rfl, _⟩ := hT
  obtain ⟨At, ct, rfl, htc, hct, _⟩ := hP
  go_enter Try.func6, Try.ntmps6
  go_upto_region 2 with fail
  have H0 : Hid (FwN w (((w.alloc (Obj.cells #[.slice A xs.length c, .slice At ts.length ct, v2, v3, v4, v5, v6, v7] 28)).alloc (Obj.cells #[.slice none 0 0, .slice none 0 0, .slice none 0 0, .slice none 0 0, .slice none 0 0, .slice none 0 0, .slice none 0 0, .slice none 0 0] 28)).alloc (Obj.cells #[.slice none 0 0, .slice none 0 0, .slice none 0 0, .slice none 0 0, .slice none 0 0, .slice none 0 0, .slice none 0 0, .slice none 0 0] 28)) w.heap.size #[.slice A xs.length c, .slice At ts.length ct, v2, v3, v4, v5, v6, v7] xs 0) := Lib.hid
    ⟨only_alloc (only_alloc (only_alloc (only_refl _ _) _) _) _, ((Blk.new _ _ _).alloc _).alloc _, (blk_at (by simp) _ _).alloc _, _, [], blk_at (by simp) _ _, OT.start _ _, rfl, rfl⟩
  generalize World.alloc (World.alloc (World.alloc w _) _) _ = W0 at *
  go_wp2_with fail
  go_loopw [4] (fun i wr => ∃ k : Nat, k ≤ xs.length ∧ k ≤ 10 ∧ i = .int .i64 (k : Int) ∧ FwN w wr w.heap.size #[.slice A xs.length c, .slice At ts.length ct, v2, v3, v4, v5, v6, v7] xs k) (fun i _ => 10 - (intOf i).toNat)
  case atStart => exact ⟨0, Nat.zero_le _, by omega, rfl, H0.out⟩
  case round =>
    clear H0
    obtain ⟨k, hk, hk10, rfl, hi⟩ := hrel
    have hk0 : (0 : Int) ≤ (k : Int) := by omega
    have q0 := hi.m.cell 0
    have HK := Lib.hid hi
    clear hi
    go_upto_region 3 with fail
    obtain ⟨go, hgo⟩ : ∃ go : Bool, decide (k < xs.length ∧ k < 10) = go := ⟨_, rfl⟩
    go_cut [16] from 8 to 37 (fun u W => u = .bool go ∧ W = wr)
    case first =>
      by_cases hlt : k < xs.length
      · have hltI : (k : Int) < (xs.length : Int) := by omega
        by_cases hm' : k < 10
        · have hmI : (k : Int) < 10 := by omega
          have HZ : Hid (go = true) := Lib.hid (by rw [← hgo]; exact decide_eq_true ⟨hlt, hm'⟩)
          clear hgo
          go_wp2_with fail
          go_meet
          rw [HZ.out]
          exact ⟨rfl, rfl⟩
        · have hmI : (10 : Int) ≤ (k : Int) := by omega
          have HZ : Hid (go = false) := Lib.hid (by rw [← hgo]; exact decide_eq_false (fun h => hm' h.2))
          clear hgo
          go_wp2_with fail
          go_meet
          rw [HZ.out]
          exact ⟨by first | rfl | rw [decide_eq_false (by omega)], rfl⟩
      · have hltI : (xs.length : Int) ≤ (k : Int) := by omega
        have HZ : Hid (go = false) := Lib.hid (by rw [← hgo]; exact decide_eq_false (fun h => hlt h.1))
        clear hgo
        go_wp2_with fail
        go_meet
        rw [HZ.out]
        exact ⟨rfl, rfl⟩
    case rest =>
      obtain ⟨rfl, rfl⟩ := hcut
      cases go with
      | true =>
        have HGO := Lib.hid (of_decide_eq_true hgo)
        clear hgo
        obtain ⟨x, hx⟩ : ∃ x, xs[k]? = some x := ⟨_, List.getElem?_eq_getElem HGO.out.1⟩
        have hk1 : (k : Int) < (xs.length : Int) := by have := HGO.out.1; omega
        have HX := Lib.hid hx
        obtain ⟨A', c', hA, hcl⟩ := HT.out
        obtain ⟨bb, off, hAb, hcl2⟩ := hcl (by intro e0; rw [e0] at hx; simp at hx)
        obtain ⟨⟨v', hE, m0, m1, m2, m3, m4, m5⟩, hcap⟩ := hcl2 k x hx
        obtain ⟨rfl, rfl⟩ : A = A' ∧ c = c' := by simpa using hA
        subst hAb
        clear hA hcl hcl2 hx
        obtain ⟨kind, prio, chan, ⟨pa, ps⟩, next⟩ := x
        dsimp only at m0 m1 m2 m3 m4 m5 hE
        have hE3 := hE
        obtain ⟨A2, c2, rfl, hl3, _⟩ := hE3
        have hc2 := hcap _ _ _ m5
        have HGR := Lib.hid HK.out.gr
        have HM := Lib.hid HK.out.m
        have HZR := Lib.hid HK.out.z
        obtain ⟨vo, ns, hbo, hot, hns, hmp⟩ := HK.out.o
        have HBO := Lib.hid hbo
        have HO := Lib.hid hot
        have HNS := Lib.hid hns
        have HMP := Lib.hid hmp
        obtain ⟨Ao, co, rfl⟩ := hot.len
        have n0 := Keeps.grown HGR.out _ _ m0
        have n1 := Keeps.grown HGR.out _ _ m1
        have n2 := Keeps.grown HGR.out _ _ m2
        have n3 := Keeps.grown HGR.out _ _ m3
        have n4 := Keeps.grown HGR.out _ _ m4
        have n5 := Keeps.grown HGR.out _ _ m5
        have o0 := hbo.cell 0
        have ho0 := hbo.lt
        have hlq := cell_lt q0
        have hln := cell_lt n0
        have HN1 : Hid (ns.length ≤ 1000) := Lib.hid (by have := HNS.out; omega)
        have hlI : (next.length : Int) ≤ 9223372036854775807 := by omega
        clear hbo hot hns hmp
        by_cases h9 : next.length ≤ 9
        · have h9' : (next.length : Int) ≤ 9 := by omega
          have HE : Hid (EdgesO w.heap.size wc (.slice A2 next.length c2) (next.take 9)) := by
            rw [List.take_of_length_le h9]
            exact Lib.hid ((hE.old (Nat.le_refl _)).kept HGR.out)
          clear hE m0 m1 m2 m3 m4 m5 hcap
          go_wp2_with (first
            | (at_builtin; refine wpList_append_node (nd := ⟨kind, prio, chan, (pa, ps), next.take 9⟩) rfl (.tmp 33) (.tmp 35) rfl rfl rfl ((HO.out.kept (only_alloc (only_refl _ _) _)).kept (only_alloc (only_refl _ _) _)) (blk_at (by simp) _ _) ((HE.out.kept (only_alloc (only_refl _ _) _)).kept (only_alloc (only_refl _ _) _)) HN1.out (by have := HGR.out.size; simp; omega) ?_
               intro v2 W2 hot2 hgr2
               have HOT2 := Lib.hid hot2
               have HGR2 := Lib.hid hgr2
               obtain ⟨A9, n9, c9, rfl⟩ := own_sliceN hot2.row
               have hb9 := (((HBO.out.kept (only_alloc (only_refl _ _) _)).kept (only_alloc (only_refl _ _) _))).farM (by decide) ((HO.out.kept (only_alloc (only_refl _ _) _)).kept (only_alloc (only_refl _ _) _)).row hgr2
               have z3 := hb9.cell 0
               have fz := hb9.frozen 0
               clear hot2 hgr2 hb9)
            | fail)
          go_roundw
          case rel => exact ⟨k + 1, by have := HGO.out; omega, by have := HGO.out; omega, by go_num, FwN.put rfl HX.out (only_alloc (only_alloc HGR.out _) _) ((HM.out.kept (only_alloc (only_refl _ _) _)).kept (only_alloc (only_refl _ _) _)) ((HZR.out.kept (only_alloc (only_refl _ _) _)).kept (only_alloc (only_refl _ _) _)) ((HBO.out.kept (only_alloc (only_refl _ _) _)).kept (only_alloc (only_refl _ _) _)) ((HO.out.kept (only_alloc (only_refl _ _) _)).kept (only_alloc (only_refl _ _) _)) HNS.out HMP.out HOT2.out HGR2.out⟩
          case measure => have := HGO.out; simp [intOf]; omega
        · have h9' : (9 : Int) < (next.length : Int) := by omega
          have HE : Hid (EdgesO w.heap.size wc (.slice A2 9 c2) (next.take 9)) := Lib.hid (((hE.takeF (by omega)).old (Nat.le_refl _)).kept HGR.out)
          clear hE m0 m1 m2 m3 m4 m5 hcap
          go_wp2_with (first
            | (at_builtin; refine wpList_append_node (nd := ⟨kind, prio, chan, (pa, ps), next.take 9⟩) rfl (.tmp 33) (.tmp 35) rfl rfl rfl ((HO.out.kept (only_alloc (only_refl _ _) _)).kept (only_alloc (only_refl _ _) _)) (blk_at (by simp) _ _) ((HE.out.kept (only_alloc (only_refl _ _) _)).kept (only_alloc (only_refl _ _) _)) HN1.out (by have := HGR.out.size; simp; omega) ?_
               intro v2 W2 hot2 hgr2
               have HOT2 := Lib.hid hot2
               have HGR2 := Lib.hid hgr2
               obtain ⟨A9, n9, c9, rfl⟩ := own_sliceN hot2.row
               have hb9 := (((HBO.out.kept (only_alloc (only_refl _ _) _)).kept (only_alloc (only_refl _ _) _))).farM (by decide) ((HO.out.kept (only_alloc (only_refl _ _) _)).kept (only_alloc (only_refl _ _) _)).row hgr2
               have z3 := hb9.cell 0
               have fz := hb9.frozen 0
               clear hot2 hgr2 hb9)
            | fail)
          go_roundw
          case rel => exact ⟨k + 1, by have := HGO.out; omega, by have := HGO.out; omega, by go_num, FwN.put rfl HX.out (only_alloc (only_alloc HGR.out _) _) ((HM.out.kept (only_alloc (only_refl _ _) _)).kept (only_alloc (only_refl _ _) _)) ((HZR.out.kept (only_alloc (only_refl _ _) _)).kept (only_alloc (only_refl _ _) _)) ((HBO.out.kept (only_alloc (only_refl _ _) _)).kept (only_alloc (only_refl _ _) _)) ((HO.out.kept (only_alloc (only_refl _ _) _)).kept (only_alloc (only_refl _ _) _)) HNS.out HMP.out HOT2.out HGR2.out⟩
          case measure => have := HGO.out; simp [intOf]; omega
      | false =>
        have HGO := Lib.hid (of_decide_eq_false hgo)
        clear hgo
        have HF : Hid (xs.take k = xs.take 10) := Lib.hid (by
          have := HGO.out
          by_cases h : k < xs.length
          · rw [show k = 10 by omega]
          · rw [List.take_of_length_le (by omega), List.take_of_length_le (by omega)])
        obtain ⟨u, ns, hbo, hot, hns, hmp⟩ := HK.out.o
        have HMP : Hid (ns.map (·.1) = fewX xs) := Lib.hid (by rw [hmp, HF.out]; rfl)
        have H1 : Hid (FwT w wc w.heap.size #[.slice A xs.length c, .slice At ts.length ct, v2, v3, v4, v5, v6, v7] u ns ts 0) := Lib.hid ⟨HK.out.gr, HK.out.m, HK.out.z, hot, _, [], hbo, TO.nil_ _ _, rfl, fun i x l h => by simp at h⟩
        clear hbo hot hns hmp HK q0 HF HGO
        go_wp2_with fail
        go_loopw [6] (fun i wr => ∃ k : Nat, k ≤ ts.length ∧ k ≤ 4 ∧ i = .int .i64 (k : Int) ∧ FwT w wr w.heap.size #[.slice A xs.length c, .slice At ts.length ct, v2, v3, v4, v5, v6, v7] u ns ts k) (fun i _ => 4 - (intOf i).toNat)
        case atStart => exact ⟨0, Nat.zero_le _, by omega, rfl, H1.out⟩
        case round =>
          clear H1
          obtain ⟨k, hk, hk4, rfl, hi⟩ := hrel
          have hk0 : (0 : Int) ≤ (k : Int) := by omega
          have q0 := hi.m.cell 1
          have HK := Lib.hid hi
          clear hi
          go_upto_region 9 with fail
          obtain ⟨go, hgo⟩ : ∃ go : Bool, decide (k < ts.length ∧ k < 4) = go := ⟨_, rfl⟩
          go_cut [46] from 38 to 65 (fun u W => u = .bool go ∧ W = wr)
          case first =>
            by_cases hlt : k < ts.length
            · have hltI : (k : Int) < (ts.length : Int) := by omega
              by_cases hm' : k < 4
              · have hmI : (k : Int) < 4 := by omega
                have HZ : Hid (go = true) := Lib.hid (by rw [← hgo]; exact decide_eq_true ⟨hlt, hm'⟩)
                clear hgo
                go_wp2_with fail
                go_meet
                rw [HZ.out]
                exact ⟨rfl, rfl⟩
              · have hmI : (4 : Int) ≤ (k : Int) := by omega
                have HZ : Hid (go = false) := Lib.hid (by rw [← hgo]; exact decide_eq_false (fun h => hm' h.2))
                clear hgo
                go_wp2_with fail
                go_meet
                rw [HZ.out]
                exact ⟨by first | rfl | rw [decide_eq_false (by omega)], rfl⟩
            · have hltI : (ts.length : Int) ≤ (k : Int) := by omega
              have HZ : Hid (go = false) := Lib.hid (by rw [← hgo]; exact decide_eq_false (fun h => hlt h.1))
              clear hgo
              go_wp2_with fail
              go_meet
              rw [HZ.out]
              exact ⟨rfl, rfl⟩
          case rest =>
            obtain ⟨rfl, rfl⟩ := hcut
            cases go with
            | true =>
              have HGO := Lib.hid (of_decide_eq_true hgo)
              clear hgo
              obtain ⟨l, hl⟩ : ∃ l, ts[k]? = some l := ⟨_, List.getElem?_eq_getElem HGO.out.1⟩
              have hk1 : (k : Int) < (ts.length : Int) := by have := HGO.out.1; omega
              have HL := Lib.hid hl
              obtain ⟨bt, ot, pv, C, nc, cc, D, nd, cd, rfl, hpv, m0, m1, m2⟩ := HP.out.at_ hl
              have HPV := Lib.hid hpv
              obtain ⟨Ap, cp, rfl, hpc, hpc2, _⟩ := hpv
              have HGR := Lib.hid HK.out.gr
              have HM := Lib.hid HK.out.m
              have HZR := Lib.hid HK.out.z
              have HNO := Lib.hid HK.out.n
              obtain ⟨vo, us, hbo, hot, hus, hel⟩ := HK.out.o
              have HBO := Lib.hid hbo
              have HO := Lib.hid hot
              have HUS := Lib.hid hus
              have HEL := Lib.hid hel
              obtain ⟨Ao, co, rfl⟩ := own_slice hot
              have d0 := Keeps.grown HGR.out _ _ m0
              have hlq := cell_lt q0
              have hln := cell_lt d0
              obtain ⟨m, hm⟩ : ∃ m, m = min l.length 10 := ⟨_, rfl⟩
              have HMM := Lib.hid hm
              have HPW : Hid (PrmsV w (.slice Ap m cp) (l.take 10)) := Lib.hid (by
                have := HPV.out.take (m := m) (by omega)
                by_cases h : l.length ≤ 10
                · rw [List.take_of_length_le h]
                  rwa [List.take_of_length_le (by omega)] at this
                · rw [show m = 10 by omega] at this ⊢
                  exact this)
              clear hbo hot hus hel m0 m1 m2 hl hm
              go_upto_region 12 with fail
              have HWD : Hid (FwT w wc.drew w.heap.size #[.slice A xs.length c, .slice (some ⟨bt, ot, none⟩) ts.length ct, v2, v3, v4, v5, v6, v7] u ns ts k) := Lib.hid ⟨only_drew HGR.out, HM.out.kept (only_drew (only_refl _ _)), HZR.out.kept (only_drew (only_refl _ _)), HNO.out.kept (only_drew (only_refl _ _)), _, us, HBO.out.kept (only_drew (only_refl _ _)), own_keep0 HO.out (only_drew (only_refl _ _)), HUS.out, HEL.out⟩
              have HBD : Hid (Blk wc.drew (w.heap.size + 1 + 1) 28 #[u, .slice Ao us.length co, .slice none 0 0, .slice none 0 0, .slice none 0 0, .slice none 0 0, .slice none 0 0, .slice none 0 0]) := Lib.hid (HBO.out.kept (only_drew (only_refl _ _)))
              have HOD : Hid (TO w.heap.size wc.drew (.slice Ao us.length co) us) := Lib.hid (own_keep0 HO.out (only_drew (only_refl _ _)))
              generalize hd : wc.drew = D0 at *
              refine region_chainU (by kernel_rfl) (by kernel_rfl) (by kernel_rfl) [55, 56, 57, 58, 59, 60, 61, 62, 63, 64, 65] (by kernel_rfl) (by kernel_rfl) (by decide)
                [(3, .pointer (some ⟨w.heap.size + 1 + 1, 0, none⟩)), (7, .slice Ap l.length cp), (55, .pointer (some ⟨w.heap.size + 1 + 1, 1, none⟩)), (56, .slice Ao us.length co), (57, .slice Ap l.length cp), (58, .slice Ap l.length cp), (59, .int .i64 (l.length : Int)), (60, .int .i64 (m : Int)), (61, .slice Ap m cp), (62, .agg (tpC (.slice Ap m cp))), (65, .pointer (some ⟨w.heap.size + 1 + 1, 1, none⟩))]
                ?h0 [8, 9, 11] (by kernel_rfl) (by kernel_rfl) (by decide) (by kernel_rfl) (FwC w D0 #[.slice A xs.length c, .slice (some ⟨bt, ot, none⟩) ts.length ct, v2, v3, v4, v5, v6, v7] u ns ts k us (.slice Ao us.length co) (.slice Ap m cp)) ?hT ?reads ?steps ⟨fun _ => hd, fun e => (by cases e), fun e => (by cases e), fun e => (by cases e)⟩ ?hQ
              case h0 =>
                intro p hp hn
                simp only [List.mem_cons, List.not_mem_nil, or_false] at hp
                rcases hp with rfl | rfl | rfl | rfl | rfl | rfl | rfl | rfl | rfl | rfl | rfl
                all_goals first | rfl | exact absurd (by dsimp only; decide) hn
              case hT =>
                intro j f g W' hj hfg
                refine ⟨hj.1, fun e => ?_, fun e => ?_, hj.2.2.2⟩
                · subst e
                  have := hfg 0 8 _ 63 (by omega) rfl rfl rfl
                  rw [← this]
                  exact hj.2.1 rfl
                · subst e
                  have := hfg 1 9 _ 64 (by omega) rfl rfl rfl
                  rw [← this]
                  exact hj.2.2.1 rfl
              case reads =>
                intro i' o ho hn
                have h9 : i' = 0 ∨ i' = 1 ∨ i' = 2 ∨ i' = 3 ∨ i' = 4 ∨ i' = 5 ∨ i' = 6 ∨ i' = 7 ∨ i' = 10 := by
                  have h1 := (Array.getElem?_eq_some_iff.1 ho).1
                  simp only [List.size_toArray, List.length_cons, List.length_nil] at h1
                  simp only [List.mem_cons, List.not_mem_nil, or_false] at hn
                  omega
                rcases h9 with rfl | rfl | rfl | rfl | rfl | rfl | rfl | rfl | rfl
                all_goals cases ho
                · exact ⟨55, _, rfl, rfl, fun j f b W' _ hj henv => rs_ftpls rfl (henv 3 _ (by simp [Op.operands]) rfl)⟩
                · exact ⟨56, _, rfl, rfl, fun j f b W' hl hj henv => rs_ldTpls rfl (henv 55 _ (by simp [Op.operands]) rfl) (hj.cell hl HBD.out HOD.out)⟩
                · exact ⟨57, _, rfl, rfl, fun j f b W' _ hj henv => rs_move rfl (henv 7 _ (by simp [Op.operands]) rfl)⟩
                · exact ⟨58, _, rfl, rfl, fun j f b W' _ hj henv => rs_move rfl (henv 7 _ (by simp [Op.operands]) rfl)⟩
                · exact ⟨59, _, rfl, rfl, fun j f b W' _ hj henv => rs_lenP rfl (henv 58 _ (by simp [Op.operands, Call.operands]) rfl)⟩
                · exact ⟨60, _, rfl, rfl, fun j f b W' _ hj henv => rs_min rfl (henv 59 _ (by simp [Op.operands, Call.operands]) rfl) HMM.out⟩
                · exact ⟨61, _, rfl, rfl, fun j f b W' _ hj henv => rs_cutP rfl (henv 57 _ (by simp [Op.operands]) rfl) (henv 60 _ (by simp [Op.operands]) rfl) (by have := HMM.out; omega)⟩
                · exact ⟨62, _, rfl, rfl, fun j f b W' _ hj henv => rs_bldT rfl (henv 61 _ (by simp [Op.operands]) rfl)⟩
                · exact ⟨65, _, rfl, rfl, fun j f b W' _ hj henv => rs_ftpls rfl (henv 3 _ (by simp [Op.operands]) rfl)⟩
              case steps =>
                intro j i' o hj ho
                have h4 : j = 0 ∨ j = 1 ∨ j = 2 := by
                  have := (List.getElem?_eq_some_iff.1 hj).1
                  simp at this
                  omega
                rcases h4 with rfl | rfl | rfl
                all_goals cases hj
                all_goals cases ho
                · refine ⟨fun t e => (by cases e; rfl), fun b W' hb hT1 henv => ?_⟩
                  have hw := hT1.1 rfl
                  subst hw
                  exact ws_rowT rfl (henv 62 _ (by simp [Op.operands]) rfl) ⟨_, rfl, fun e => (by cases e), fun _ => ⟨put_atF _ (by rw [hb]; simp), rfl⟩, fun e => (by cases e), fun e => (by cases e)⟩
                · refine ⟨fun t e => (by cases e; rfl), fun b W' hb hT1 henv => ?_⟩
                  obtain ⟨h63, rfl⟩ := hT1.2.1 rfl
                  refine ws_appT rfl (henv 56 _ (by simp [Op.operands, Call.operands]) rfl) h63 (own_keep0 HOD.out (only_alloc (only_refl _ _) _)) (Blk.new _ _ _) rfl (by have := HUS.out; omega) (by have := HWD.out.gr.size; simp; omega) fun v' W' h1 h2 => ⟨v', rfl, fun e => (by cases e), fun e => (by cases e), fun _ => ⟨?_, h2⟩, fun e => (by cases e)⟩
                  have e1 : (b.put (some 64) v').tmps.getD 64 undef = v' := put_atF _ (by rw [hb]; simp)
                  show World.ownsRow W' w.heap.size 65 3 ((b.put (some 64) v').tmps.getD 64 undef) (us ++ [Value.slice Ap m cp]).length (tpAll (us ++ [Value.slice Ap m cp]))
                  rw [e1, List.length_append, tpAll_snoc]
                  exact h1
                · refine ⟨fun t e => (by cases e), fun b W' hb hT1 henv => ?_⟩
                  obtain ⟨h1, h2⟩ := hT1.2.2.1 rfl
                  dsimp only at h1
                  have h64 : b.eval (.tmp 64) = b.tmps.getD 64 undef := rfl
                  generalize b.tmps.getD 64 undef = v9 at h1 h64
                  have h19 := h1
                  obtain ⟨A9, n9, c9, rfl⟩ := own_sliceN h19
                  have hbd := (HBD.out.kept (only_alloc (only_refl _ _) _)).farM (by decide) (own_keep0 HOD.out (only_alloc (only_refl _ _) _)) h2
                  exact ws_stT rfl (henv 65 _ (by simp [Op.operands]) rfl) h64 (hbd.cell 1) (hbd.frozen 1) ⟨undef, rfl, fun e => (by cases e), fun e => (by cases e), fun e => (by cases e), fun _ =>
                    FwT.put rfl HL.out (only_alloc HWD.out.gr _) (HWD.out.m.kept (only_alloc (only_refl _ _) _)) (HWD.out.z.kept (only_alloc (only_refl _ _) _)) (HWD.out.n.kept (only_alloc (only_refl _ _) _)) (HBD.out.kept (only_alloc (only_refl _ _) _)) (own_keep0 HOD.out (only_alloc (only_refl _ _) _)) HUS.out HEL.out HPW.out h1 h2⟩
              case hQ =>
                intro vs W' hv hT4
                have HW := Lib.hid (hT4.2.2.2 rfl)
                clear hv hT4 HWD HBD HOD hd
                simp only [List.foldl_cons, List.foldl_nil, List.setIfInBounds_toArray, List.set_cons_zero, List.set_cons_succ]
                go_wp2_with fail
                go_roundw
                case rel => exact ⟨k + 1, by have := HGO.out; omega, by have := HGO.out; omega, by go_num, HW.out⟩
                case measure => have := HGO.out; simp [intOf]; omega
            | false =>
              have HGO := Lib.hid (of_decide_eq_false hgo)
              clear hgo
              obtain ⟨vo, us, hbo, hot, hus, hel⟩ := HK.out.o
              have HBO := Lib.hid hbo
              have HZR := Lib.hid HK.out.z
              obtain ⟨An, nn, cn, rfl⟩ := own_sliceN HK.out.n.row
              obtain ⟨Ao, no, co, rfl⟩ := own_sliceN hot
              obtain ⟨WZ, hWZ⟩ : ∃ WZ, wc.setRow (w.heap.size + 1) #[.slice An nn cn, .slice Ao no co, .slice none 0 0, .slice none 0 0, .slice none 0 0, .slice none 0 0, .slice none 0 0, .slice none 0 0] = WZ := ⟨_, rfl⟩
              have hgz : wc.grownBy WZ (some (w.heap.size + 1)) := by rw [← hWZ]; exact only_rowM _ _ _
              have HGF : Hid (w.grownBy WZ none) := Lib.hid (only_new HK.out.gr hgz (by omega))
              have HTB : Hid (Tbl WZ (.slice An nn cn) (fewX xs)) := Lib.hid (by rw [← HMP.out]; exact (HK.out.n.far HZR.out (by omega) hgz).tbl)
              have HPL : Hid (TplsV WZ (.slice Ao no co) (fewP ts)) := Lib.hid (by
                have e : ts.take k = ts.take 4 := by
                  have := HGO.out
                  by_cases h : k < ts.length
                  · rw [show k = 4 by omega]
                  · rw [List.take_of_length_le (by omega), List.take_of_length_le (by omega)]
                have hrw : TO w.heap.size WZ (.slice Ao no co) us := row_farM hot HZR.out (by decide) hgz
                refine hrw.tpls (by unfold fewP; rw [List.length_map, ← e, List.length_take]; omega) fun i y l hy hl => ?_
                unfold fewP at hl
                rw [List.getElem?_map] at hl
                obtain ⟨l0, h0, rfl⟩ := Option.map_eq_some_iff.1 hl
                exact (hel i y l0 hy (by rw [e]; exact h0)).keep (.grown HGF.out))
              have HZB : Hid (Blk WZ (w.heap.size + 1) 28 #[.slice An nn cn, .slice Ao no co, .slice none 0 0, .slice none 0 0, .slice none 0 0, .slice none 0 0, .slice none 0 0, .slice none 0 0]) := Lib.hid (by rw [← hWZ]; exact HZR.out.rowM _)
              clear hbo hus hel hot HK q0 HGO hk hk4 hgz
              go_upto_region 13 with fail
              refine wp_region_lit ?_
              refine wpList_load_row rfl 28 (.tmp 3) rfl (w.heap.size + 1 + 1) rfl 28 #[.slice An nn cn, .slice Ao no co, .slice none 0 0, .slice none 0 0, .slice none 0 0, .slice none 0 0, .slice none 0 0, .slice none 0 0] _ _ HBO.out Try.underlying28 rfl mod_info ?_
              refine wpList_store_row rfl 28 (.tmp 2) (.tmp 66) rfl (w.heap.size + 1) #[.slice An nn cn, .slice Ao no co, .slice none 0 0, .slice none 0 0, .slice none 0 0, .slice none 0 0, .slice none 0 0, .slice none 0 0] rfl rfl 28 _ HZR.out mod_info rfl (by simp [Value.oneCell']) ?_
              rw [hWZ]
              simp only [Act.put, List.setIfInBounds_toArray, List.set_cons_zero, List.set_cons_succ]
              clear hWZ
              go_wp2_with fail
              exact bodyPost_ret (few_run rfl HZB.out rfl) rfl ⟨⟨_, _, rfl, HTB.out, HPL.out⟩, HGF.out⟩
end Go.Proofs.Ytmhbmeckdbdhpaa

namespace Go.Proofs.Ytmhbmeckdbdhpaa
open Go.RowKit Go.Shelf

section
variable {vals : List (Tmp × Value)} {w : World} {o : Oper}
theorem sv_assign {t : Tmp} {c : Value} (ho : o.op = .assign (.tmp t)) (hv : vals.lookup t = some c) : OpVal Try.prog o vals w c := sv_of fun b W hg hr => by
  have he := hr t _ (by rw [ho]; simp [Op.operands]) hv
  obtain ⟨dst, op, type, pos, after, guard⟩ := o
  dsimp only at ho
  subst ho
  simp only [execOp, he]
  go_simp
theorem sv_arr0 {t : Tmp} {g : Nat} (ho : o.op = .indexAddr 49 (.tmp t) (.const (.int .i64 0))) (hv : vals.lookup t = some (.pointer (some ⟨g, 0, none⟩))) : OpVal Try.prog o vals w (.pointer (some ⟨g, 0, none⟩)) := sv_of fun b W hg hr => by
  have he := hr t _ (by rw [ho]; simp [Op.operands]) hv
  have h2 : b.eval (.const (.int .i64 0)) = .int .i64 0 := rfl
  obtain ⟨dst, op, type, pos, after, guard⟩ := o
  dsimp only at ho
  subst ho
  simp only [execOp, he, h2]
  go_simp
theorem sv_arr1 {t : Tmp} {g : Nat} (ho : o.op = .indexAddr 49 (.tmp t) (.const (.int .i64 1))) (hv : vals.lookup t = some (.pointer (some ⟨g, 0, none⟩))) : OpVal Try.prog o vals w (.pointer (some ⟨g, 1, none⟩)) := sv_of fun b W hg hr => by
  have he := hr t _ (by rw [ho]; simp [Op.operands]) hv
  have h2 : b.eval (.const (.int .i64 1)) = .int .i64 1 := rfl
  obtain ⟨dst, op, type, pos, after, guard⟩ := o
  dsimp only at ho
  subst ho
  simp only [execOp, he, h2]
  go_simp
theorem sv_rem {t : Tmp} {z : Int} (ho : o.op = .binOp .rem 3 (.tmp t) (.const (.int .i64 501)) 3) (hv : vals.lookup t = some (.int .i64 z)) : OpVal Try.prog o vals w (.int .i64 (z.tmod 501)) := sv_of fun b W hg hr => by
  have he := hr t _ (by rw [ho]; simp [Op.operands]) hv
  have h2 : b.eval (.const (.int .i64 501)) = .int .i64 501 := rfl
  obtain ⟨dst, op, type, pos, after, guard⟩ := o
  dsimp only at ho
  subst ho
  simp only [execOp, he, h2]
  go_simp
theorem sv_neSlot {s t : Tmp} {x : Slt} {ty : TypeId} (ho : o.op = .binOp .neq 42 (.tmp s) (.tmp t) ty) (hv : vals.lookup s = some (slV x)) (hu : vals.lookup t = some (slV x)) : OpVal Try.prog o vals w (.bool false) := sv_of fun b W hg hr => by
  have he := hr s _ (by rw [ho]; simp [Op.operands]) hv
  have h2 := hr t _ (by rw [ho]; simp [Op.operands]) hu
  obtain ⟨dst, op, type, pos, after, guard⟩ := o
  dsimp only at ho
  subst ho
  simp only [execOp, he, h2]
  go_simp
theorem sv_lss {s t : Tmp} {y z : Int} {ty : TypeId} (ho : o.op = .binOp .lss 3 (.tmp s) (.tmp t) ty) (hv : vals.lookup s = some (.int .i64 y)) (hu : vals.lookup t = some (.int .i64 z)) {r : Value} (hr' : r = .bool (decide (y < z))) : OpVal Try.prog o vals w r := sv_of fun b W hg hr => by
  have he := hr s _ (by rw [ho]; simp [Op.operands]) hv
  have h2 := hr t _ (by rw [ho]; simp [Op.operands]) hu
  subst hr'
  obtain ⟨dst, op, type, pos, after, guard⟩ := o
  dsimp only at ho
  subst ho
  simp only [execOp, he, h2]
  go_simp
theorem sv_neqI {s t : Tmp} {y : Int} {ty : TypeId} (ho : o.op = .binOp .neq 3 (.tmp s) (.tmp t) ty) (hv : vals.lookup s = some (.int .i64 y)) (hu : vals.lookup t = some (.int .i64 y)) : OpVal Try.prog o vals w (.bool false) := sv_of fun b W hg hr => by
  have he := hr s _ (by rw [ho]; simp [Op.operands]) hv
  have h2 := hr t _ (by rw [ho]; simp [Op.operands]) hu
  obtain ⟨dst, op, type, pos, after, guard⟩ := o
  dsimp only at ho
  subst ho
  simp only [execOp, he, h2]
  go_simp
theorem sv_pickT {t s : Tmp} {y z : Bool} {r : Value} (ho : o.op = .pick (.tmp t) (.const (.bool true)) (.tmp s)) (hv : vals.lookup t = some (.bool y)) (hs : y = false → vals.lookup s = some (.bool z)) (hr' : r = .bool (y || z)) : OpVal Try.prog o vals w r := sv_of fun b W hg hr => by
  have he := hr t _ (by rw [ho]; simp [Op.operands]) hv
  have he2 : y = false → b.eval (.tmp s) = .bool z := fun e => hr s _ (by rw [ho]; simp [Op.operands]) (hs e)
  subst hr'
  obtain ⟨dst, op, type, pos, after, guard⟩ := o
  dsimp only at ho
  subst ho
  cases y with
  | false =>
    have he3 := he2 rfl
    simp only [execOp, he, he3]
    go_simp
  | true =>
    simp only [execOp, he]
    go_simp
theorem sv_ext0 {t : Tmp} {c d : Value} (ho : o.op = .extract (.tmp t) 0) (hv : vals.lookup t = some (.tuple #[c, d])) : OpVal Try.prog o vals w c := sv_of fun b W hg hr => by
  have he := hr t _ (by rw [ho]; simp [Op.operands]) hv
  obtain ⟨dst, op, type, pos, after, guard⟩ := o
  dsimp only at ho
  subst ho
  simp only [execOp, he]
  go_simp
theorem sv_ext1 {t : Tmp} {c d : Value} (ho : o.op = .extract (.tmp t) 1) (hv : vals.lookup t = some (.tuple #[c, d])) : OpVal Try.prog o vals w d := sv_of fun b W hg hr => by
  have he := hr t _ (by rw [ho]; simp [Op.operands]) hv
  obtain ⟨dst, op, type, pos, after, guard⟩ := o
  dsimp only at ho
  subst ho
  simp only [execOp, he]
  go_simp
end
end Go.Proofs.Ytmhbmeckdbdhpaa

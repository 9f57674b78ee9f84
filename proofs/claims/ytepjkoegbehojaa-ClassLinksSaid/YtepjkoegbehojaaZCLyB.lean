/- class: lay: a table that is laid, with what each of its nodes comes to. -/
import Derived.Test.YtepjkoegbehojaaZMgBC
import Derived.Test.YtepjkoegbehojaaZMgAS
import Derived.Test.YtepjkoegbehojaaZMgAG
namespace Go.Proofs.Ytepjkoegbehojaa
open Go.RowKit Go.Shelf

theorem tx_two {xs : List Nd} (hk : OKT xs) : TX (twoL xs) := by
  have hle := hk.le
  refine ⟨tw_two hk, by rw [twoL_len]; omega, fun x hx h0 => ?_⟩
  have none_ : ∀ y ∈ xs, y.kind = 0 → y.next = [] ∧ y.chan = false := fun y hy hy0 => by
    have hh := (ill_facts (hk.good y hy).1).1
    unfold headB at hh
    simp only [Bool.and_eq_true] at hh
    obtain ⟨⟨⟨_, h2⟩, _⟩, h4⟩ := hh
    rw [hy0] at h2 h4
    unfold withinB leastN mostN at h2
    simp only [if_true, Bool.and_eq_true, decide_eq_true_eq] at h2
    refine ⟨List.eq_nil_of_length_eq_zero (by omega), ?_⟩
    unfold payB paysB at h4
    cases hc : y.chan with
    | false => rfl
    | true => rw [hc] at h4; simp at h4
  unfold twoL at hx
  rcases List.mem_append.1 hx with hx | hx
  · obtain ⟨h1, h2⟩ := none_ x hx h0
    unfold allE
    rw [h1, h2]; rfl
  · obtain ⟨y, hy, rfl⟩ := List.mem_map.1 hx
    have hy0 : y.kind = 0 := by
      have : dualK y.kind = 0 := h0
      unfold dualK at this
      repeat' split at this
      all_goals omega
    obtain ⟨h1, h2⟩ := none_ y hy hy0
    unfold allE dualN
    rw [h1, h2]; rfl

theorem lay_results {tmps : Array Value} {W : World} {g : Nat} {a0 a1 a2 : Value} (hp : tmps.getD 2 undef = .pointer (some ⟨g, 0, none⟩)) (hb : Blk W g 61 #[a0, a1, a2]) :
    (results Try.f24 tmps).run Try.prog W = .ok (.agg #[a0, a1, a2]) W := by
  have hp' : tmps[2]?.getD undef = .pointer (some ⟨g, 0, none⟩) := by simpa using hp
  have hs : (Try.prog.info? 61).map (·.size) = some 3 := by kernel_rfl
  simp [results, Try.results24, hp', asAddr, run_loadVar_row W g _ 61 _ _ _ hb Try.underlying61 rfl (by exact hs)]
set_option maxRecDepth 100000 in
set_option maxHeartbeats 2000000 in
theorem clay_any (xs : List Nd) (hk : OKT xs) (v : Value) (w : World) (hT : Tbl w v xs) :
    Calls Try.prog 24 #[v] w fun en w' => (∃ lv, en = .returned lv ∧ LaidV w' lv (twoL xs)) ∧ w.grownBy w' none := by
  have hX := tx_two hk
  have htl : tableL xs = twoL xs := by
    have := hk.check
    exact tableL_ok (by rw [this])
  have HT := Lib.hid hT
  have HL : Hid (xs.length ≤ 1000) := Lib.hid (by have := hk.le; omega)
  have HTL := Lib.hid htl
  obtain ⟨A, cap, rfl, _⟩ := id hT
  clear hT htl
  go_enter Try.func24, Try.ntmps24
  go_upto_region 2 with (go_at_call 19; go_must (refine (dtable_con xs _ _ (HT.out.keep (.grown (only_alloc (only_refl _ _) _))) HL.out).mono ?_; rw [HTL.out]; rintro e w1 ⟨⟨u, ns, rfl, hot, hns⟩, hg1⟩; have HTB := Lib.hid (hns ▸ hot.tbl); have HG1 := Lib.hid hg1; have hln : ns.length = (twoL xs).length := (by rw [← hns, List.length_map]); obtain ⟨A2, c2, rfl⟩ := hot.len; rw [hln] at *; clear hot hns hg1 hln))
  have HX := Lib.hid hX
  have HG0 : Hid (w.grownBy w1 none) := Lib.hid (only_trans (only_alloc (only_refl _ _) _) HG1.out)
  have HB0 : Hid (Blk w1 w.heap.size 61 #[.slice none 0 0, .slice none 0 0, .slice none 0 0]) := Lib.hid ((Blk.new w _ _).kept HG1.out)
  generalize hLL : twoL xs = L at *
  have HLL := Lib.hid hLL
  clear hX HTL HT HL HG1 hLL
  generalize hW2 : World.alloc _ _ = W2
  have hl2 : LZ w1 #[.slice A2 L.length c2, .slice none 0 0, .slice none 0 0] (.slice none 0 0) (.slice none 0 0) [] [] W2 := by
    rw [← hW2]
    exact ⟨only_alloc (only_refl _ _) _, Blk.new _ _ _, IOwn.nil_ _ _, IOwn.nil_ _ _, fun g e => by simp [Value.ownBlock] at e⟩
  have l0 := hl2.bl.cell 0
  have HLZ := Lib.hid hl2
  have hlI : (L.length : Int) ≤ 128 := by have := HX.out.len; omega
  clear hW2 hl2
  go_wp2_with fail
  clear l0
  go_loopw [14] (fun i W => ∃ (k : Nat) (vt vp : Value), k ≤ L.length ∧ i = .int .i64 (k : Int) ∧ LZ w1 #[.slice A2 L.length c2, vt, vp] vt vp (((rootsL L).take k).map Int.ofNat) ((List.range k).map (prioL L)) W) (fun i _ => L.length - (intOf i).toNat)
  case atStart => exact ⟨0, _, _, Nat.zero_le _, rfl, HLZ.out⟩
  case round =>
    obtain ⟨k, vt, vp, hk1, rfl, hs⟩ := hrel
    have HS := Lib.hid hs
    clear hs
    by_cases hlt : k < L.length
    · obtain ⟨m, y, s, hy, hy5, s0, s1, hrt, hpr, hres⟩ := root_at HX.out.tw hlt
      have hr0 := hres 0 (by omega) (by omega)
      rw [Int.add_zero] at hr0
      have HR0 := Lib.hid hr0
      have HPR := Lib.hid hpr
      have HRT := Lib.hid hrt
      have gy := HX.out.tw.good y (List.mem_of_getElem? hy)
      obtain ⟨b2, o2, A3, k3, hA2, hE3, m0, m1, m2, m3, m4, m5⟩ := cls_at HTB.out hy
      subst hA2
      have hml : m < L.length := (List.getElem?_eq_some_iff.1 hy).1
      have hm0 : (0 : Int) ≤ (m : Int) := by omega
      have hm1 : (m : Int) < (L.length : Int) := by omega
      have hk0 : (0 : Int) ≤ (k : Int) := by omega
      have hkI : (k : Int) < (L.length : Int) := by omega
      have gp := gy.2.1
      obtain ⟨At, nt, ct, rfl⟩ : ∃ A n c, vt = .slice A n c := by obtain ⟨A, c, e⟩ := HS.out.it.len; exact ⟨_, _, _, e⟩
      obtain ⟨Ap, np, cp, rfl⟩ : ∃ A n c, vp = .slice A n c := by obtain ⟨A, c, e⟩ := HS.out.ip.len; exact ⟨_, _, _, e⟩
      have l0 := HS.out.bl.cell 0
      clear hr0 hpr hrt hres hy5 hE3 hy gy
      go_upto_region 7 with (go_at_call 22; go_must (refine (resolve_any L _ ((k : Int), 0) _ (HTB.out.keep (.grown HS.out.gr)) (by have := HX.out.len; omega)).mono ?_; rw [HR0.out]; rintro e w5 ⟨rfl, hg5⟩; have HS5 := Lib.hid (HS.out.kept hg5); clear hg5))
      generalize hW6 : World.alloc _ _ = W6
      have hg6 : w5.grownBy W6 none := by rw [← hW6]; exact only_alloc (only_refl _ _) _
      have hbg : Blk W6 w5.heap.size 35 #[.int .i64 (m : Int), .int .i64 s] := by rw [← hW6]; exact Blk.new w5 _ _
      have HS6 := Lib.hid (HS5.out.kept hg6)
      have HBG := Lib.hid hbg
      have l0 := HS6.out.bl.cell 0
      have g0 := hbg.cell 0
      have g1 := hbg.cell 1
      have M0 := Keeps.grown HS6.out.gr _ _ m0
      have M1 := Keeps.grown HS6.out.gr _ _ m1
      have M2 := Keeps.grown HS6.out.gr _ _ m2
      have M3 := Keeps.grown HS6.out.gr _ _ m3
      have M4 := Keeps.grown HS6.out.gr _ _ m4
      have M5 := Keeps.grown HS6.out.gr _ _ m5
      have hb2 : b2 < W6.heap.size := cell_lt M0
      clear hW6 hg6 hbg m0 m1 m2 m3 m4 m5 HS5
      go_upto_region 8 with fail
      generalize hW8 : World.alloc _ _ = W8
      have hg8 : W6.grownBy W8 none := by rw [← hW8]; exact only_alloc (only_refl _ _) _
      have hbn : Blk W8 W6.heap.size 46 (ndCells y (.slice A3 y.next.length k3)) := by rw [← hW8]; exact Blk.new W6 _ _
      have HS8 := Lib.hid (HS6.out.kept hg8)
      have HBG8 := Lib.hid (HBG.out.kept hg8)
      have n0 := hbn.cell 0
      have n1 := hbn.cell 1
      have g1 := HBG8.out.cell 1
      clear hW8 hg8 hbn M0 M1 M2 M3 M4 M5 hb2 HBG HS6 l0 g0
      go_upto_if 30 with fail
      have hwp : IntKind.i64.wrap (y.prio + s) = y.prio + s := IntWalk.i64_in _ ⟨by omega, by omega⟩
      go_cut [6, 27, 29, 30] from 31 to 35 (fun u _ _ _ wx => u = .int .i64 (prioL L k) ∧ W8 = wx)
      case first =>
        go_wp2_with fail
        · have h : (y.kind != 0) = true := (by assumption)
          have h0 : ¬ y.kind = 0 := by simpa using h
          go_meet
          exact ⟨by rw [HPR.out, if_neg h0], rfl⟩
        · have h : (y.kind != 0) = false := (by assumption)
          have h0 : y.kind = 0 := by simpa using h
          go_meet
          exact ⟨by rw [HPR.out, if_pos h0], rfl⟩
      case rest =>
        obtain ⟨rfl, rfl⟩ := hcut
        clear n0 n1 g1 hwp
        go_upto_region 10 with fail
        obtain ⟨pk, hpk⟩ : ∃ pk, prioL L k = pk := ⟨_, rfl⟩
        rw [hpk]
        have HPK := Lib.hid hpk
        clear hpk
        refine region_acts (by kernel_rfl)
          [(3, .pointer (some ⟨w1.heap.size, 0, none⟩)), (5, .pointer (some ⟨w5.heap.size, 0, none⟩)), (6, .int .i64 pk), (36, .pointer (some ⟨w1.heap.size, 1, none⟩)), (37, .slice At nt ct), (38, .pointer (some ⟨w5.heap.size, 0, none⟩)), (39, .int .i64 (m : Int)), (42, .pointer (some ⟨w1.heap.size, 2, none⟩)), (43, .slice Ap np cp), (44, .int .i64 pk), (47, .pointer (some ⟨w1.heap.size, 1, none⟩)), (48, .pointer (some ⟨w1.heap.size, 2, none⟩))]
          (by kernel_rfl) [36, 37, 38, 39, 40, 41, 42, 43, 44, 45, 46, 47, 48] (by kernel_rfl) (by kernel_rfl) (by decide) ?h0 [4, 5, 9, 10, 12, 14]
          (TLy w1 (.slice (some ⟨b2, o2, none⟩) L.length c2) (.slice At nt ct) (.slice Ap np cp) (((rootsL L).take k).map Int.ofNat) ((List.range k).map (prioL L)) w5.heap.size (m : Int) pk s) ?hT ?hd ?reads ?steps ?hT0 ?hQ
        case h0 =>
          intro p hp hn
          simp only [List.mem_cons, List.not_mem_nil, or_false] at hp
          rcases hp with rfl | rfl | rfl | rfl | rfl | rfl | rfl | rfl | rfl | rfl | rfl | rfl
          all_goals first | rfl | exact absurd (by dsimp only; decide) hn
        case hT => exact fun d f g W h he => h.congr (he 40 rfl) (he 41 rfl) (he 45 rfl) (he 46 rfl)
        case hd =>
          intro d i f W hi h
          simp only [List.mem_cons, List.not_mem_nil, or_false, not_or] at hi
          obtain ⟨i4, i5, i9, i10, i12, i14⟩ := hi
          exact h.same (doneD_ne d (Ne.symm i4)).symm (doneD_ne d (Ne.symm i5)).symm (doneD_ne d (Ne.symm i9)).symm (doneD_ne d (Ne.symm i10)).symm (doneD_ne d (Ne.symm i12)).symm (doneD_ne d (Ne.symm i14)).symm
        case reads =>
          intro i o ho hn
          have h9 : i = 0 ∨ i = 1 ∨ i = 2 ∨ i = 3 ∨ i = 6 ∨ i = 7 ∨ i = 8 ∨ i = 11 ∨ i = 13 := by
            have h1 := (Array.getElem?_eq_some_iff.1 ho).1
            simp only [List.size_toArray, List.length_cons, List.length_nil] at h1
            simp only [List.mem_cons, List.not_mem_nil, or_false] at hn
            omega
          rcases h9 with rfl | rfl | rfl | rfl | rfl | rfl | rfl | rfl | rfl
          · cases ho
            exact ⟨36, _, rfl, rfl, fun d b W' hdi hcl hT' henv => rv_laid1 rfl (henv 3 _ (by simp [Op.operands]) rfl)⟩
          · cases ho
            refine ⟨37, _, rfl, rfl, fun d b W' hdi hcl hT' henv => ?_⟩
            have c5 : d 5 = true → d 4 = true := fun h => hcl 5 _ ⟨4, Ground.data⟩ h rfl (by simp) rfl
            have c10 : d 10 = true → d 5 = true := fun h => hcl 10 _ ⟨5, Ground.chain⟩ h rfl (by simp) rfl
            have c12 : d 12 = true → d 10 = true := fun h => hcl 12 _ ⟨10, Ground.chain⟩ h rfl (by simp) rfl
            have c14 : d 14 = true → d 12 = true := fun h => hcl 14 _ ⟨12, Ground.chain⟩ h rfl (by simp) rfl
            have d5 : d 5 = false := not_done fun h => by rw [hcl 5 _ ⟨1, Ground.data⟩ h rfl (by simp) rfl] at hdi; cases hdi
            have d10 : d 10 = false := not_done fun h => by rw [c10 h] at d5; cases d5
            have d12 : d 12 = false := not_done fun h => by rw [c12 h] at d10; cases d10
            have d14 : d 14 = false := not_done fun h => by rw [c14 h] at d12; cases d12
            have hA := (tly_a d5 d10 d12 d14).1 hT'
            exact rc_loadInts rfl (henv 36 _ (by simp [Op.operands]) rfl) (hA.1.bl.cell 1)
          · cases ho
            exact ⟨38, _, rfl, rfl, fun d b W' hdi hcl hT' henv => rv_type0 rfl (henv 5 _ (by simp [Op.operands]) rfl)⟩
          · cases ho
            refine ⟨39, _, rfl, rfl, fun d b W' hdi hcl hT' henv => ?_⟩
            have c5 : d 5 = true → d 4 = true := fun h => hcl 5 _ ⟨4, Ground.data⟩ h rfl (by simp) rfl
            have c10 : d 10 = true → d 5 = true := fun h => hcl 10 _ ⟨5, Ground.chain⟩ h rfl (by simp) rfl
            have c12 : d 12 = true → d 10 = true := fun h => hcl 12 _ ⟨10, Ground.chain⟩ h rfl (by simp) rfl
            have c14 : d 14 = true → d 12 = true := fun h => hcl 14 _ ⟨12, Ground.chain⟩ h rfl (by simp) rfl
            have d4 : d 4 = false := not_done fun h => by rw [hcl 4 _ ⟨3, Ground.data⟩ h rfl (by simp) rfl] at hdi; cases hdi
            have d5 : d 5 = false := not_done fun h => by rw [c5 h] at d4; cases d4
            have d10 : d 10 = false := not_done fun h => by rw [c10 h] at d5; cases d5
            have d12 : d 12 = false := not_done fun h => by rw [c12 h] at d10; cases d10
            have d14 : d 14 = false := not_done fun h => by rw [c14 h] at d12; cases d12
            have hA := (tly_a d5 d10 d12 d14).1 hT'
            exact rc_loadInt rfl (henv 38 _ (by simp [Op.operands]) rfl) (hA.2.1.cell 0)
          · cases ho
            exact ⟨42, _, rfl, rfl, fun d b W' hdi hcl hT' henv => rv_laid2 rfl (henv 3 _ (by simp [Op.operands]) rfl)⟩
          · cases ho
            refine ⟨43, _, rfl, rfl, fun d b W' hdi hcl hT' henv => ?_⟩
            have c5 : d 5 = true → d 4 = true := fun h => hcl 5 _ ⟨4, Ground.data⟩ h rfl (by simp) rfl
            have c10 : d 10 = true → d 5 = true := fun h => hcl 10 _ ⟨5, Ground.chain⟩ h rfl (by simp) rfl
            have c12 : d 12 = true → d 10 = true := fun h => hcl 12 _ ⟨10, Ground.chain⟩ h rfl (by simp) rfl
            have c14 : d 14 = true → d 12 = true := fun h => hcl 14 _ ⟨12, Ground.chain⟩ h rfl (by simp) rfl
            have d10 : d 10 = false := not_done fun h => by rw [hcl 10 _ ⟨7, Ground.data⟩ h rfl (by simp) rfl] at hdi; cases hdi
            have d12 : d 12 = false := not_done fun h => by rw [c12 h] at d10; cases d10
            have d14 : d 14 = false := not_done fun h => by rw [c14 h] at d12; cases d12
            refine rc_loadInts rfl (henv 42 _ (by simp [Op.operands]) rfl) ?_
            cases d5 : d 5 with
            | false => exact ((tly_a d5 d10 d12 d14).1 hT').1.bl.cell 2
            | true =>
              obtain ⟨⟨t', _, hz⟩, _⟩ := (tly_b d5 d10 d12 d14).1 hT'
              exact hz.bl.cell 2
          · cases ho
            exact ⟨44, _, rfl, rfl, fun d b W' hdi hcl hT' henv => rc_move rfl (henv 6 _ (by simp [Op.operands]) rfl)⟩
          · cases ho
            exact ⟨47, _, rfl, rfl, fun d b W' hdi hcl hT' henv => rv_laid1 rfl (henv 3 _ (by simp [Op.operands]) rfl)⟩
          · cases ho
            exact ⟨48, _, rfl, rfl, fun d b W' hdi hcl hT' henv => rv_laid2 rfl (henv 3 _ (by simp [Op.operands]) rfl)⟩
        case steps =>
          intro i o ho hi
          have h6 : i = 4 ∨ i = 5 ∨ i = 9 ∨ i = 10 ∨ i = 12 ∨ i = 14 := by simpa using hi
          rcases h6 with rfl | rfl | rfl | rfl | rfl | rfl
          · cases ho
            refine ⟨fun t e => by cases e; rfl, fun d b W' hb hdi hpre hcl hT' henv => ?_⟩
            have c5 : d 5 = true → d 4 = true := fun h => hcl 5 _ ⟨4, Ground.data⟩ h rfl (by simp) rfl
            have c10 : d 10 = true → d 5 = true := fun h => hcl 10 _ ⟨5, Ground.chain⟩ h rfl (by simp) rfl
            have c12 : d 12 = true → d 10 = true := fun h => hcl 12 _ ⟨10, Ground.chain⟩ h rfl (by simp) rfl
            have c14 : d 14 = true → d 12 = true := fun h => hcl 14 _ ⟨12, Ground.chain⟩ h rfl (by simp) rfl
            have d5 : d 5 = false := not_done fun h => by rw [c5 h] at hdi; cases hdi
            have d10 : d 10 = false := not_done fun h => by rw [c10 h] at d5; cases d5
            have d12 : d 12 = false := not_done fun h => by rw [c12 h] at d10; cases d10
            have d14 : d 14 = false := not_done fun h => by rw [c14 h] at d12; cases d12
            obtain ⟨hz, hbg, _, h9⟩ := (tly_a d5 d10 d12 d14).1 hT'
            refine wp_buildI rfl (henv 39 _ (by simp [Op.operands]) rfl) ⟨_, rfl, ?_⟩
            have hg : W'.grownBy (W'.alloc (.cells #[.int .i64 (m : Int)] 3)) none := only_alloc (only_refl _ _) _
            refine (tly_a (by rw [doneD_ne d (by decide)]; exact d5) (by rw [doneD_ne d (by decide)]; exact d10) (by rw [doneD_ne d (by decide)]; exact d12) (by rw [doneD_ne d (by decide)]; exact d14)).2 ⟨hz.kept hg, hbg.kept hg, fun _ => NewI.made (by rw [hb]; show _ < 51; decide) hz.it, fun h => ?_⟩
            rw [doneD_ne d (by decide)] at h
            exact ⟨(h9 h).1.kept hg (act_put_ne _ (by decide)).symm, (h9 h).2.kept hg (act_put_ne _ (by decide)).symm⟩
          · cases ho
            refine ⟨fun t e => by cases e; rfl, fun d b W' hb hdi hpre hcl hT' henv => ?_⟩
            have c5 : d 5 = true → d 4 = true := fun h => hcl 5 _ ⟨4, Ground.data⟩ h rfl (by simp) rfl
            have c10 : d 10 = true → d 5 = true := fun h => hcl 10 _ ⟨5, Ground.chain⟩ h rfl (by simp) rfl
            have c12 : d 12 = true → d 10 = true := fun h => hcl 12 _ ⟨10, Ground.chain⟩ h rfl (by simp) rfl
            have c14 : d 14 = true → d 12 = true := fun h => hcl 14 _ ⟨12, Ground.chain⟩ h rfl (by simp) rfl
            have d10 : d 10 = false := not_done fun h => by rw [c10 h] at hdi; cases hdi
            have d12 : d 12 = false := not_done fun h => by rw [c12 h] at d10; cases d10
            have d14 : d 14 = false := not_done fun h => by rw [c14 h] at d12; cases d12
            have d4 : d 4 = true := hpre ⟨4, Ground.data⟩ (by simp) rfl
            obtain ⟨hz, hbg, h4, h9⟩ := (tly_a hdi d10 d12 d14).1 hT'
            obtain ⟨g, hg1, hg2, _⟩ := h4 d4
            refine wp_appendI (.tmp 37) (.tmp 40) rfl (henv 37 _ (by simp [Op.operands, Call.operands]) rfl) hg1 hz.it hg2 (by rw [List.length_map, List.length_take]; have := HX.out.len; omega) hz.gr.size (fun t' W5 ho5 hg5 hb5 => ⟨_, rfl, ?_⟩)
            refine (tly_b (doneD_at d 5) (by rw [doneD_ne d (by decide)]; exact d10) (by rw [doneD_ne d (by decide)]; exact d12) (by rw [doneD_ne d (by decide)]; exact d14)).2 ⟨⟨t', act_put_atC _ (by rw [hb]; show _ < 51; decide), hz.putT hg5 ho5 hb5⟩, fun h => ?_⟩
            rw [doneD_ne d (by decide)] at h
            exact (h9 h).1.grown (h9 h).2 hg5 (act_put_ne _ (by decide)).symm
          · cases ho
            refine ⟨fun t e => by cases e; rfl, fun d b W' hb hdi hpre hcl hT' henv => ?_⟩
            have c5 : d 5 = true → d 4 = true := fun h => hcl 5 _ ⟨4, Ground.data⟩ h rfl (by simp) rfl
            have c10 : d 10 = true → d 5 = true := fun h => hcl 10 _ ⟨5, Ground.chain⟩ h rfl (by simp) rfl
            have c12 : d 12 = true → d 10 = true := fun h => hcl 12 _ ⟨10, Ground.chain⟩ h rfl (by simp) rfl
            have c14 : d 14 = true → d 12 = true := fun h => hcl 14 _ ⟨12, Ground.chain⟩ h rfl (by simp) rfl
            have d10 : d 10 = false := not_done fun h => by rw [hcl 10 _ ⟨9, Ground.data⟩ h rfl (by simp) rfl] at hdi; cases hdi
            have d12 : d 12 = false := not_done fun h => by rw [c12 h] at d10; cases d10
            have d14 : d 14 = false := not_done fun h => by rw [c14 h] at d12; cases d12
            have hg : W'.grownBy (W'.alloc (.cells #[.int .i64 pk] 3)) none := only_alloc (only_refl _ _) _
            refine wp_buildI rfl (henv 44 _ (by simp [Op.operands]) rfl) ⟨_, rfl, ?_⟩
            cases d5 : d 5 with
            | false =>
              obtain ⟨hz, hbg, h4, _⟩ := (tly_a d5 d10 d12 d14).1 hT'
              refine (tly_a (by rw [doneD_ne d (by decide)]; exact d5) (by rw [doneD_ne d (by decide)]; exact d10) (by rw [doneD_ne d (by decide)]; exact d12) (by rw [doneD_ne d (by decide)]; exact d14)).2 ⟨hz.kept hg, hbg.kept hg, fun h => ?_, fun _ => ⟨NewI.made (by rw [hb]; show _ < 51; decide) hz.ip, NewI.made (by rw [hb]; show _ < 51; decide) hz.it⟩⟩
              rw [doneD_ne d (by decide)] at h
              exact (h4 h).kept hg (act_put_ne _ (by decide)).symm
            | true =>
              obtain ⟨⟨t', e1, hz⟩, _⟩ := (tly_b d5 d10 d12 d14).1 hT'
              exact (tly_b (by rw [doneD_ne d (by decide)]; exact d5) (by rw [doneD_ne d (by decide)]; exact d10) (by rw [doneD_ne d (by decide)]; exact d12) (by rw [doneD_ne d (by decide)]; exact d14)).2 ⟨⟨t', (act_put_ne _ (by decide)).trans e1, hz.kept hg⟩, fun _ => NewI.made (by rw [hb]; show _ < 51; decide) hz.ip⟩
          · cases ho
            refine ⟨fun t e => by cases e; rfl, fun d b W' hb hdi hpre hcl hT' henv => ?_⟩
            have c5 : d 5 = true → d 4 = true := fun h => hcl 5 _ ⟨4, Ground.data⟩ h rfl (by simp) rfl
            have c10 : d 10 = true → d 5 = true := fun h => hcl 10 _ ⟨5, Ground.chain⟩ h rfl (by simp) rfl
            have c12 : d 12 = true → d 10 = true := fun h => hcl 12 _ ⟨10, Ground.chain⟩ h rfl (by simp) rfl
            have c14 : d 14 = true → d 12 = true := fun h => hcl 14 _ ⟨12, Ground.chain⟩ h rfl (by simp) rfl
            have d12 : d 12 = false := not_done fun h => by rw [c12 h] at hdi; cases hdi
            have d14 : d 14 = false := not_done fun h => by rw [c14 h] at d12; cases d12
            have d5 : d 5 = true := hpre ⟨5, Ground.chain⟩ (by simp) rfl
            have d9 : d 9 = true := hpre ⟨9, Ground.data⟩ (by simp) rfl
            obtain ⟨⟨t', e1, hz⟩, h9⟩ := (tly_b d5 hdi d12 d14).1 hT'
            obtain ⟨g, hg1, hg2, _⟩ := h9 d9
            refine wp_appendI (.tmp 43) (.tmp 45) rfl (henv 43 _ (by simp [Op.operands, Call.operands]) rfl) hg1 hz.ip hg2 (by rw [List.length_map, List.length_range]; have := HX.out.len; omega) hz.gr.size (fun p' W5 ho5 hg5 hb5 => ⟨_, rfl, ?_⟩)
            exact (tly_c (doneD_at d 10) (by rw [doneD_ne d (by decide)]; exact d12) (by rw [doneD_ne d (by decide)]; exact d14)).2 ⟨t', p', (act_put_ne _ (by decide)).trans e1, act_put_atC _ (by rw [hb]; show _ < 51; decide), hz.putP hg5 ho5 hb5⟩
          · cases ho
            refine ⟨fun t e => (by cases e), fun d b W' hb hdi hpre hcl hT' henv => ?_⟩
            have c5 : d 5 = true → d 4 = true := fun h => hcl 5 _ ⟨4, Ground.data⟩ h rfl (by simp) rfl
            have c10 : d 10 = true → d 5 = true := fun h => hcl 10 _ ⟨5, Ground.chain⟩ h rfl (by simp) rfl
            have c12 : d 12 = true → d 10 = true := fun h => hcl 12 _ ⟨10, Ground.chain⟩ h rfl (by simp) rfl
            have c14 : d 14 = true → d 12 = true := fun h => hcl 14 _ ⟨12, Ground.chain⟩ h rfl (by simp) rfl
            have d14 : d 14 = false := not_done fun h => by rw [c14 h] at hdi; cases hdi
            have d10 : d 10 = true := hpre ⟨10, Ground.chain⟩ (by simp) rfl
            obtain ⟨t', p', e1, e2, hz⟩ := (tly_c d10 hdi d14).1 hT'
            obtain ⟨A5, c5', rfl⟩ := hz.it.len
            exact wp_storeIs rfl (henv 47 _ (by simp [Op.operands]) rfl) e1 hz.bl rfl ⟨undef, rfl, (tly_d (doneD_at d 12) (by rw [doneD_ne d (by decide)]; exact d14)).2 ⟨_, p', e2, hz.box 1 _⟩⟩
          · cases ho
            refine ⟨fun t e => (by cases e), fun d b W' hb hdi hpre hcl hT' henv => ?_⟩
            have c5 : d 5 = true → d 4 = true := fun h => hcl 5 _ ⟨4, Ground.data⟩ h rfl (by simp) rfl
            have c10 : d 10 = true → d 5 = true := fun h => hcl 10 _ ⟨5, Ground.chain⟩ h rfl (by simp) rfl
            have c12 : d 12 = true → d 10 = true := fun h => hcl 12 _ ⟨10, Ground.chain⟩ h rfl (by simp) rfl
            have c14 : d 14 = true → d 12 = true := fun h => hcl 14 _ ⟨12, Ground.chain⟩ h rfl (by simp) rfl
            have d12 : d 12 = true := hpre ⟨12, Ground.chain⟩ (by simp) rfl
            obtain ⟨t', p', e2, hz⟩ := (tly_d d12 hdi).1 hT'
            obtain ⟨A5, c5', rfl⟩ := hz.ip.len
            exact wp_storeIs rfl (henv 48 _ (by simp [Op.operands]) rfl) e2 hz.bl rfl ⟨undef, rfl, (tly_e (doneD_at d 14)).2 ⟨t', _, hz.box 2 _⟩⟩
        case hT0 =>
          exact (tly_a rfl rfl rfl rfl).2 ⟨HS8.out.kept (only_drew (only_refl _ _)), HBG8.out.kept (only_drew (only_refl _ _)), fun h => (by cases h), fun h => (by cases h)⟩
        case hQ =>
          intro d vs W' hd hv hT'
          obtain ⟨t', p', hz⟩ := (tly_e (hd 14 (by simp))).1 hT'
          have HZ := Lib.hid hz
          simp only [List.foldl_cons, List.foldl_nil, List.setIfInBounds_toArray, List.set_cons_zero, List.set_cons_succ]
          clear hv hT' hz hd
          go_wp2_with fail
          go_roundw
          case rel =>
            refine ⟨k + 1, t', p', by omega, by go_num, ?_⟩
            have h := HZ.out
            have e1 : ((rootsL L).take (k + 1)).map Int.ofNat = ((rootsL L).take k).map Int.ofNat ++ [(m : Int)] := by
              rw [List.take_add_one, root_get L (by omega), HRT.out, List.map_append]; rfl
            have e2 : (List.range (k + 1)).map (prioL L) = (List.range k).map (prioL L) ++ [pk] := by
              rw [List.range_succ, List.map_append, ← HPK.out]; rfl
            rw [e1, e2]
            exact h
          case measure => simp [intOf]; omega
    · have hge : (L.length : Int) ≤ (k : Int) := by omega
      have HKE : Hid (k = L.length) := Lib.hid (by omega)
      obtain ⟨At, nt, ct, rfl⟩ : ∃ A n c, vt = .slice A n c := by obtain ⟨A, c, e⟩ := HS.out.it.len; exact ⟨_, _, _, e⟩
      obtain ⟨Ap, np, cp, rfl⟩ : ∃ A n c, vp = .slice A n c := by obtain ⟨A, c, e⟩ := HS.out.ip.len; exact ⟨_, _, _, e⟩
      have l0 := HS.out.bl.cell 0
      have l1 := HS.out.bl.cell 1
      have l2 := HS.out.bl.cell 2
      have hb0 := HB0.out.kept HS.out.gr
      have HB := Lib.hid hb0
      have r0 := hb0.cell 0
      have r1 := hb0.cell 1
      have r2 := hb0.cell 2
      have f0 := hb0.frozen 0
      have f1 := hb0.frozen 1
      have f2 := hb0.frozen 2
      clear hlt hk1 hb0
      go_wp2_with fail
      obtain ⟨hb9, hg9, hk9⟩ := three_set HB.out (.slice A2 L.length c2) (.slice At nt ct) (.slice Ap np cp)
      have hgw : w.grownBy (((wr.setCell ⟨w.heap.size, 0, none⟩ (.slice A2 L.length c2)).setCell ⟨w.heap.size, 1, none⟩ (.slice At nt ct)).setCell ⟨w.heap.size, 2, none⟩ (.slice Ap np cp)) none := only_new (only_trans HG0.out HS.out.gr) hg9 (Nat.le_refl _)
      refine bodyPost_ret (lay_results rfl hb9) rfl ?_
      refine ⟨⟨_, rfl, ?_⟩, hgw⟩
      rw [HLL.out]
      have h1 := HS.out.it.ints (by rw [List.length_map, List.length_take, roots_len]; have := HX.out.len; have := HKE.out; omega)
      have h2 := HS.out.ip.ints (by rw [List.length_map, List.length_range]; have := HX.out.len; have := HKE.out; omega)
      rw [HKE.out] at h1 h2
      rw [List.take_of_length_le (by rw [roots_len]; omega)] at h1
      exact ⟨_, _, _, rfl, (HTB.out.keep (.grown HS.out.gr)).keepI hk9, h1.keepI hk9, h2.keepI hk9⟩
end Go.Proofs.Ytepjkoegbehojaa

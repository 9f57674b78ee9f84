/- DualTwice: the walk, from the contracts. -/
import Derived.Test.YtacjkkhignjmnaaDTwL
namespace Go.Proofs.Ytacjkkhignjmnaa
open Go.RowKit Go.Shelf

set_option maxRecDepth 100000 in
set_option maxHeartbeats 4000000 in
theorem dtwice_of (hC : TabC) (hM : MateC) (hS : MatesC) (xs : List Nd) (A : Option Addr) (c : Nat) (w : World) (hT : Tbl w (.slice A xs.length c) xs) (hc : xs.length ≤ c) :
    Calls Try.prog 4 #[.slice A xs.length c] w fun e w' => e = .returned (.bool true) ∧ w.grownBy w' none := by
  have HC := Lib.hid hC
  have HM := Lib.hid hM
  have HS := Lib.hid hS
  obtain ⟨ys, hys⟩ : ∃ ys, xs.take 70 = ys := ⟨_, rfl⟩
  have hyl : ys.length = min 70 xs.length := by rw [← hys]; exact List.length_take
  have HT : Hid (Tbl w (.slice A ys.length c) ys) := by
    have := hT.take (m := ys.length) (by omega)
    rwa [hyl, ← List.take_eq_take_min, hys, ← hyl] at this
  have h7 : ys.length ≤ 70 := by omega
  have HL : Hid (ys.length ≤ 70) := h7
  clear hT hys hC hM hS
  go_enter Try.func4, Try.ntmps4
  go_upto_region 3 with (go_at_call 12; go_must (refine (dworks_of HC.out HM.out HS.out _).mono ?_; rintro e W0 ⟨rfl, hg0⟩; have HG0 := Lib.hid hg0; clear hg0))
  go_cut [0] from 18 to 22 (fun s wx => s = .slice A ys.length c ∧ W0 = wx)
  case first =>
    by_cases h70 : xs.length ≤ 70
    · have h70' : (xs.length : Int) ≤ 70 := by omega
      have HQ : Hid (ys.length = xs.length) := show _ = _ by omega
      clear hyl
      go_wp2_with fail
      go_meet
      exact ⟨by rw [HQ.out], rfl⟩
    · have h70' : (70 : Int) < (xs.length : Int) := by omega
      have hc7 : (70 : Int) ≤ (c : Int) := by omega
      have HQ : Hid (ys.length = 70) := show _ = _ by omega
      clear hyl
      go_wp2_with fail
      go_meet
      exact ⟨by rw [HQ.out], rfl⟩
  case rest =>
    obtain ⟨rfl, rfl⟩ := hcut
    clear hyl hc
    by_cases hok : (checkL ys).2 = 0
    · have HTL := Lib.hid (tableL_ok hok)
      have HK := Lib.hid (okt_of hok)
      have HCK := Lib.hid (okt_check hok)
      have HLL : Hid ((twoL ys).length = 2 * ys.length) := Lib.hid (twoL_len ys)
      have hn2I : (ys.length : Int) ≤ 70 := by omega
      clear hok
      obtain ⟨L, hL⟩ : ∃ L, twoL ys = L := ⟨_, rfl⟩
      have HLT : Hid (tableL ys = L) := Lib.hid (HTL.out.trans hL)
      rw [hL] at HLL
      have HLE := Lib.hid hL
      clear hL HTL
      obtain ⟨n2, hn2⟩ : ∃ n2 : Nat, L.length = n2 := ⟨_, rfl⟩
      have HN2 := Lib.hid hn2
      clear hn2
      go_upto_region 9 with (first | (go_at_call 7; go_must (refine (HC.out ys _ _ (HT.out.keep (.grown HG0.out)) (by have := HL.out; omega)).mono ?_; rw [HLT.out]; intro e W1 hmt; obtain ⟨A1, c1, rfl, ht1, hg1⟩ := madeT_tbl hmt; have HG1 := Lib.hid (only_trans HG0.out hg1); have HT1 := Lib.hid ht1; clear hmt ht1 hg1)) | (go_at_call 13; go_must (refine (check_is HCK.out (HT.out.keep (.grown HG1.out)) (by have := HL.out; omega)).mono ?_; rintro e W2 ⟨rfl, hg2⟩; have HG2 := Lib.hid (only_trans HG1.out hg2); have HT2 := Lib.hid (HT1.out.keep (.grown hg2)); clear hg2)))
      go_cut [41] from 37 to 41 (fun cv wx => cv = .bool false ∧ W2 = wx)
      case first =>
        have hLD : ((L.length : Int) != 2 * (ys.length : Int)) = false := by rw [HLL.out]; simp
        go_wp2_with fail
        go_meet
        exact ⟨rfl, rfl⟩
      case rest =>
        obtain ⟨rfl, rfl⟩ := hcut
        go_wp2_with fail
        go_loopw [7, 8] (fun v i W => ∃ k : Nat, k ≤ ys.length ∧ i = .int .i64 (k : Int) ∧ BK W2 ys k v W) (fun _ i _ => 100 - (intOf i).toNat)
        case atStart => exact ⟨0, Nat.zero_le _, rfl, [], rfl, rfl, OT.start _ _, only_refl _ _⟩
        case round =>
          obtain ⟨k, hk, rfl, ns, hns, hnm, hot, hg⟩ := hrel
          have HNS := Lib.hid hns
          have HNM := Lib.hid hnm
          have HOT := Lib.hid hot
          have HGK := Lib.hid hg
          clear hns hnm hot hg
          by_cases hlt : k < ys.length
          · have hk0 : (0 : Int) ≤ (k : Int) := by omega
            have hk1 : (k : Int) < (ys.length : Int) := by omega
            obtain ⟨x, hx⟩ : ∃ x, ys[k]? = some x := ⟨_, List.getElem?_eq_getElem hlt⟩
            have HX := Lib.hid hx
            have hz1 : L[k]? = some x := by rw [← HLE.out]; exact two_at hx
            have hz2 : L[ys.length + k]? = some (dualN ys.length x) := by rw [← HLE.out]; exact two_up hx
            have hl1 : k < L.length := (List.getElem?_eq_some_iff.1 hz1).1
            have hl2 : ys.length + k < L.length := (List.getElem?_eq_some_iff.1 hz2).1
            obtain ⟨B1, d1, hA1, hcl1⟩ := HT2.out
            obtain ⟨bt, ot, hAb1, hcl2⟩ := hcl1 (by intro e0; rw [e0] at hl1; simp at hl1)
            obtain ⟨rfl, rfl⟩ : A1 = B1 ∧ c1 = d1 := by simpa using hA1
            subst hAb1
            obtain ⟨v1, hE1, p0', p1', p2', p3', p4', p5'⟩ := hcl2 k x hz1
            obtain ⟨v2, hE2, q0', q1', q2', q3', q4', q5'⟩ := hcl2 (ys.length + k) _ hz2
            obtain ⟨B3, d3, hA3, hcl3⟩ := HT.out
            obtain ⟨by_, oy, hAb3, hcl4⟩ := hcl3 (by intro e0; rw [e0] at hlt; simp at hlt)
            obtain ⟨rfl, rfl⟩ : A = B3 ∧ c = d3 := by simpa using hA3
            subst hAb3
            obtain ⟨v3, hE3, r0', r1', r2', r3', r4', r5'⟩ := hcl4 k x hx
            have kk := Keeps.grown HGK.out
            have kw := Keeps.grown (only_trans HG2.out HGK.out)
            have HE1 := Lib.hid (hE1.keep kk)
            have HE2 := Lib.hid (hE2.keep kk)
            have HE3 := Lib.hid (hE3.keep kw)
            obtain ⟨Av1, cv1, rfl⟩ := hE1.slice_
            obtain ⟨Av2, cv2, rfl⟩ := hE2.slice_
            obtain ⟨Av3, cv3, rfl⟩ := hE3.slice_
            have p0 := kk _ _ p0'
            have p1 := kk _ _ p1'
            have p2 := kk _ _ p2'
            have p3 := kk _ _ p3'
            have p4 := kk _ _ p4'
            have p5 := kk _ _ p5'
            have q0 := kk _ _ q0'
            have q1 := kk _ _ q1'
            have q2 := kk _ _ q2'
            have q3 := kk _ _ q3'
            have q4 := kk _ _ q4'
            have q5 := kk _ _ q5'
            have HR : Hid (wr.cell? ⟨by_, oy + k * 6, none⟩ = some (.int .i64 x.kind) ∧ wr.cell? ⟨by_, oy + k * 6 + 1, none⟩ = some (.int .i64 x.prio) ∧ wr.cell? ⟨by_, oy + k * 6 + 2, none⟩ = some (.bool x.chan) ∧ wr.cell? ⟨by_, oy + k * 6 + 3, none⟩ = some (.int .i64 x.pay.1) ∧ wr.cell? ⟨by_, oy + k * 6 + 4, none⟩ = some (.int .i64 x.pay.2) ∧ wr.cell? ⟨by_, oy + k * 6 + 5, none⟩ = some (.slice Av3 x.next.length cv3)) :=
              Lib.hid ⟨kw _ _ r0', kw _ _ r1', kw _ _ r2', kw _ _ r3', kw _ _ r4', kw _ _ r5'⟩
            clear hA1 hcl1 hcl2 hA3 hcl3 hcl4 hE1 hE2 hE3 p0' p1' p2' p3' p4' p5' q0' q1' q2' q3' q4' q5' r0' r1' r2' r3' r4' r5' kk kw hx hz1 hz2
            go_upto_region 15 with fail
            go_cut [9, 10] from 42 to 153 (fun u v wx => TwoB wr 29 (ndCells x (.slice Av1 x.next.length cv1)) (ndCells (dualN ys.length x) (.slice Av2 (dualN ys.length x).next.length cv2)) u v wx)
            case first =>
              refine region_two (by kernel_rfl) (by kernel_rfl) [47, 48, 49, 50, 51, 52, 53, 54, 55, 56, 9, 10] (by kernel_rfl) (by kernel_rfl) (by decide)
                [(3, .slice (some ⟨bt, ot, none⟩) L.length c1), (6, .int .i64 (ys.length : Int)), (8, .int .i64 (k : Int)), (47, .slice (some ⟨bt, ot, none⟩) L.length c1), (48, .int .i64 (k : Int)), (49, .pointer (some ⟨bt, ot + k * 6, none⟩)), (50, ndV x (.slice Av1 x.next.length cv1)),
                 (51, .slice (some ⟨bt, ot, none⟩) L.length c1), (52, .int .i64 (ys.length : Int)), (53, .int .i64 (k : Int)), (54, .int .i64 ((ys.length + k : Nat) : Int)), (55, .pointer (some ⟨bt, ot + (ys.length + k) * 6, none⟩)), (56, ndV (dualN ys.length x) (.slice Av2 (dualN ys.length x).next.length cv2))]
                ⟨9, 29, ndCells ⟨0, 0, false, (0, 0), []⟩ (.slice none 0 0), ndCells x (.slice Av1 x.next.length cv1), 50, 10, 12⟩ ⟨10, 29, ndCells ⟨0, 0, false, (0, 0), []⟩ (.slice none 0 0), ndCells (dualN ys.length x) (.slice Av2 (dualN ys.length x).next.length cv2), 56, 11, 13⟩
                ?h0 (boxed_node _ _ _ _ _ _ _ _) (boxed_node _ _ _ _ _ _ _ _) rfl rfl rfl rfl (by dsimp only; decide) (by kernel_rfl) (by kernel_rfl) (by kernel_rfl) (by kernel_rfl) ?hops ?hQ
              case h0 =>
                intro p hp hn
                simp only [List.mem_cons, List.not_mem_nil, or_false] at hp
                rcases hp with rfl | rfl | rfl | rfl | rfl | rfl | rfl | rfl | rfl | rfl | rfl | rfl | rfl
                all_goals first | rfl | exact absurd (by dsimp only; decide) hn
              case hops =>
                exact ⟨.val 47 _ rfl rfl rfl (ov_move rfl rfl), .val 48 _ rfl rfl rfl (ov_move rfl rfl), .val 49 _ rfl rfl rfl (ov_index rfl rfl rfl hl1), .val 50 _ rfl rfl rfl (ov_load_node rfl rfl p0 p1 p2 p3 p4 p5),
                  .val 51 _ rfl rfl rfl (ov_move rfl rfl), .val 52 _ rfl rfl rfl (ov_move rfl rfl), .val 53 _ rfl rfl rfl (ov_move rfl rfl), .val 54 _ rfl rfl rfl (by rw [Int.natCast_add]; exact ov_add rfl rfl rfl (by omega) (by omega) (by omega) (by omega)), .val 55 _ rfl rfl rfl (ov_index rfl rfl rfl hl2), .val 56 _ rfl rfl rfl (ov_load_node rfl rfl q0 q1 q2 q3 q4 q5),
                  .al1 rfl rfl rfl, .al2 rfl rfl rfl, .st1 rfl rfl rfl, .st2 rfl rfl rfl, trivial⟩
              case hQ =>
                intro vs W Bm Bn hg e1 e2 hne h1 h2 k1 k2
                have HZ : Hid (TwoB wr 29 (ndCells x (.slice Av1 x.next.length cv1)) (ndCells (dualN ys.length x) (.slice Av2 (dualN ys.length x).next.length cv2)) (vs 9) (vs 10) W) := Lib.hid ⟨Bm, Bn, e1, e2, hne, k1, k2, hg, h1, h2⟩
                clear hg e1 e2 hne h1 h2 k1 k2
                simp only [List.foldl_cons, List.foldl_nil, List.setIfInBounds_toArray, List.set_cons_zero, List.set_cons_succ]
                go_wp2_with fail
                go_meet
                exact HZ.out
            case rest =>
              clear p0 p1 p2 p3 p4 p5 q0 q1 q2 q3 q4 q5
              obtain ⟨Bm, Bn, rfl, rfl, hmn, km, kn, hg, hBm, hBn⟩ := hcut
              have HKM := Lib.hid km
              have HKN := Lib.hid kn
              have HGC := Lib.hid hg
              have HMN : Hid (Bm ≠ Bn ∧ wr.heap.size ≤ Bm ∧ wr.heap.size ≤ Bn) := Lib.hid ⟨hmn, hBm, hBn⟩
              have s0 : N2 wc x (.slice Av1 x.next.length cv1) (.slice Av3 x.next.length cv3) Bm 0 by_ (oy + k * 6) wc := ⟨only_refl _ _, HE1.out.keep (.grown hg), HE3.out.keep (.grown hg), ⟨km.cell 0, km.cell 1, km.cell 2, km.cell 3, km.cell 4, km.cell 5⟩,
                by have h := HR.out; exact ⟨Keeps.grown hg _ _ h.1, Keeps.grown hg _ _ h.2.1, Keeps.grown hg _ _ h.2.2.1, Keeps.grown hg _ _ h.2.2.2.1, Keeps.grown hg _ _ h.2.2.2.2.1, Keeps.grown hg _ _ h.2.2.2.2.2⟩⟩
              have HN0 := Lib.hid s0
              clear hmn km kn hg hBm hBn s0
              go_upto_region 16 with fail
              go_cut [105] from 42 to 153 (fun cv wx => cv = .bool false ∧ wc.grownBy wx none)
              case first =>
                have s := HN0.out.none_ (only_drew (only_refl wc none))
                obtain ⟨xk, xp, xc, ⟨xa, xb⟩, xn⟩ := x
                dsimp only at *
                go_region_held3 (fun w' => (w'.cell? ⟨Bm, 0, none⟩ = some (.int .i64 xk) ∧ w'.cell? ⟨Bm, 1, none⟩ = some (.int .i64 xp) ∧ w'.cell? ⟨Bm, 2, none⟩ = some (.bool xc) ∧ w'.cell? ⟨Bm, 3, none⟩ = some (.int .i64 xa) ∧ w'.cell? ⟨Bm, 4, none⟩ = some (.int .i64 xb) ∧ w'.cell? ⟨Bm, 5, none⟩ = some (.slice Av1 xn.length cv1)) ∧ (w'.cell? ⟨by_, oy + k * 6, none⟩ = some (.int .i64 xk) ∧ w'.cell? ⟨by_, oy + k * 6 + 1, none⟩ = some (.int .i64 xp) ∧ w'.cell? ⟨by_, oy + k * 6 + 2, none⟩ = some (.bool xc) ∧ w'.cell? ⟨by_, oy + k * 6 + 3, none⟩ = some (.int .i64 xa) ∧ w'.cell? ⟨by_, oy + k * 6 + 4, none⟩ = some (.int .i64 xb) ∧ w'.cell? ⟨by_, oy + k * 6 + 5, none⟩ = some (.slice Av3 xn.length cv3))) (exact ⟨s.c1, s.c2⟩) ((go_at_call 14; ((with_reducible refine (redges_any xn _ _ _ s.n1 s.n2).mono ?_); rintro e W8 ⟨rfl, hs⟩); replace s := s.none_ hs; clear hs))
                all_goals go_wp2_with fail
                all_goals go_meet
                all_goals exact ⟨rfl, s.step⟩
              case rest =>
                obtain ⟨rfl, hg⟩ := hcut
                have HG5 := Lib.hid hg
                have HM5 := Lib.hid (HKM.out.kept hg)
                have HN5 := Lib.hid (HKN.out.kept hg)
                have HE5 := Lib.hid ((HE2.out.keep (.grown HGC.out)).keep (.grown hg))
                have m1 : wc.cell? ⟨Bm, 1, none⟩ = some (.int .i64 x.prio) := HM5.out.cell 1
                have m2 : wc.cell? ⟨Bm, 2, none⟩ = some (.bool x.chan) := HM5.out.cell 2
                have m3 : wc.cell? ⟨Bm, 3, none⟩ = some (.int .i64 x.pay.1) := HM5.out.cell 3
                have m4 : wc.cell? ⟨Bm, 4, none⟩ = some (.int .i64 x.pay.2) := HM5.out.cell 4
                have n1 : wc.cell? ⟨Bn, 1, none⟩ = some (.int .i64 x.prio) := HN5.out.cell 1
                have n2' : wc.cell? ⟨Bn, 2, none⟩ = some (.bool x.chan) := HN5.out.cell 2
                have n3 : wc.cell? ⟨Bn, 3, none⟩ = some (.int .i64 x.pay.1) := HN5.out.cell 3
                have n4 : wc.cell? ⟨Bn, 4, none⟩ = some (.int .i64 x.pay.2) := HN5.out.cell 4
                have n5 : wc.cell? ⟨Bn, 5, none⟩ = some (.slice Av2 (dualN ys.length x).next.length cv2) := HN5.out.cell 5
                have hbN := HN5.out.lt
                clear hg HN0
                go_upto_region 21 with (at_builtin; refine wpList_append_edgesD rfl (.tmp 125) (.tmp 127) rfl rfl rfl (g := wc.heap.size) (base := wc.heap.size) (EOwn.empty (blk_at rfl _ _) (Nat.le_refl _)) (HE5.out.keep (.alloc _ _)) (by have := (HK.out.good x (List.mem_of_getElem? HX.out)).2; rw [show (dualN ys.length x).next.length = x.next.length from List.length_map _]; omega) (by simp) ?_; intro v6 W6 ho6 hg6; obtain ⟨A6, c6, hv6⟩ := ho6.len; subst hv6; have HO6 := Lib.hid ho6; have HG6 : Hid (wc.grownBy W6 none) := Lib.hid (only_new (only_alloc (only_refl _ _) _) hg6 (Nat.le_refl _)); have nb5 := (HN5.out.kept HG6.out).cell 5; have nf5 := (HN5.out.kept HG6.out).frozen 5; clear ho6 hg6)
                have HTN : Hid (IN wr Bn ys.length x (.slice A6 x.next.length c6) 0 (W6.setCell ⟨Bn, 5, none⟩ (.slice A6 x.next.length c6))) := by
                  have h6 := HG6.out
                  have ho := HO6.out
                  have hln : (dualN ys.length x).next.length = x.next.length := List.length_map _
                  rw [hln] at ho
                  have hbn6 := (HN5.out.kept h6).set_ 5 (.slice A6 x.next.length c6)
                  have hmn := HMN.out
                  have hgs := HGC.out.size
                  have hg5 := HG5.out.size
                  refine Lib.hid ⟨only_setNew (only_trans (only_trans HGC.out HG5.out) h6) hmn.2.2 _, hbn6, hmn.2.2, ?_⟩
                  have hlt := HN5.out.lt
                  rw [List.take_zero, List.drop_zero, List.nil_append]
                  refine (ho.base_ (by omega)).kept (row := some Bn) (only_setCell (only_refl _ _) rfl _) (fun g e e' => ?_)
                  injection e' with e'
                  have := (World.ownsRow.lt ho g e).1
                  omega
                have hln : (dualN ys.length x).next.length = x.next.length := List.length_map _
                have hx8 : (x.next.length : Int) ≤ 8 := by have := (HK.out.good x (List.mem_of_getElem? HX.out)).2; omega
                rw [hln]
                clear HN5 HM5 HE5 HO6 HG6 nb5 nf5 n1 n2' n3 n4 n5 m1 m2 m3 m4 hbN HKM HKN hln HR HE1 HE2 HE3 HGC HG5 HMN
                generalize wr = Wk at *
                go_wp2_with fail
                go_loopw [11] (fun j W => ∃ q : Nat, q ≤ x.next.length ∧ j = .int .i64 (q : Int) ∧ IN Wk Bn ys.length x (.slice A6 x.next.length c6) q W) (fun j _ => 16 - (intOf j).toNat)
                case atStart => exact ⟨0, Nat.zero_le _, rfl, HTN.out⟩
                case round =>
                  clear HTN
                  obtain ⟨q, hq, rfl, hin⟩ := hrel
                  have n5 : wr.cell? ⟨Bn, 5, none⟩ = some (.slice A6 x.next.length c6) := hin.bn.cell 5
                  by_cases hql : q < x.next.length
                  · have hqI : (q : Int) < (x.next.length : Int) := by omega
                    have hq0 : (0 : Int) ≤ (q : Int) := by omega
                    obtain ⟨⟨ea, es⟩, he⟩ : ∃ e, x.next[q]? = some e := ⟨_, List.getElem?_eq_getElem hql⟩
                    have hil := in_len x ys.length q hq
                    obtain ⟨g, rfl, hgb⟩ := hin.own.form (by omega)
                    obtain ⟨d0, _, fd⟩ := hin.own.at_ hil (in_at ys.length he)
                    have d0' : wr.cell? ⟨g, q * 2, none⟩ = some (.int .i64 (ea + (ys.length : Int))) := d0
                    have hea := HK.out.edge HX.out (List.mem_append_left _ (List.mem_of_getElem? he))
                    have ha0 : 0 ≤ ea := hea.1
                    have ha1 : ea < (ys.length : Int) := hea.2.1
                    have hsub : IntKind.i64.wrap (ea + (ys.length : Int) - (ys.length : Int)) = ea := by rw [Int.add_sub_cancel]; exact IntWalk.i64_in _ ⟨by omega, by omega⟩
                    have HPT := Lib.hid (hin.put he)
                    clear d0 hea hin he hil
                    go_upto_region 24 with fail
                    go_still_tail 13, (by kernel_rfl)
                    change wpList _ _ _ _ _ wr.drew
                    go_wp2_with fail
                    go_roundw
                    case rel => exact ⟨q + 1, by omega, by go_num, HPT.out.kept (only_drew (only_refl _ none))⟩
                    case measure => simp [intOf]; omega
                  · have hqe : q = x.next.length := by omega
                    have hqI : (x.next.length : Int) ≤ (q : Int) := by omega
                    have hinE := hin.own
                    rw [hqe, List.take_length, List.drop_of_length_le (by rw [List.length_map]; omega), List.append_nil] at hinE
                    obtain ⟨n0, n1, n2', n3, n4, _⟩ := nd_cells hin.bn
                    have HOW := Lib.hid (HOT.out.kept hin.gr)
                    have HEW : Hid (EdgesO W2.heap.size wr (.slice A6 x.next.length c6) x.next) := Lib.hid ((hinE.base_ HGK.out.size).edges (by omega))
                    have HGW := Lib.hid (only_trans HGK.out hin.gr)
                    have hnl : ns.length ≤ 1000 := by have := HNS.out; have := HL.out; omega
                    have HNL := Lib.hid hnl
                    clear hin hinE hqe hql hq hnl
                    go_wp2_with (at_builtin; refine wpList_append_node rfl (.tmp 150) (.tmp 152) rfl rfl rfl (nd := turnN x) (e := .slice A6 x.next.length c6) (base := W2.heap.size) (HOW.out.kept (only_alloc (only_refl _ _) _)) (Blk.new wr 29 (ndCells (turnN x) (.slice A6 x.next.length c6))) (HEW.out.kept (only_alloc (only_refl _ _) _)) HNL.out (by have := HGW.out.size; simp; omega) ?_; intro v7 W7 ho7 hg7; obtain ⟨A7, c7, hv7⟩ := ho7.len; subst hv7; have HO7 := Lib.hid ho7; have HG7 : Hid (W2.grownBy W7 none) := Lib.hid (grown_own (only_trans HGW.out (only_alloc (only_refl _ _) _)) (fun g e => (World.ownsRow.lt HOW.out.row g e).1) hg7); clear ho7 hg7)
                    go_roundw
                    case rel =>
                      have ho7 := HO7.out
                      rw [List.length_append] at ho7
                      refine ⟨k + 1, by omega, by go_num, _, ?_, ?_, ho7, HG7.out⟩
                      · rw [List.length_append, HNS.out]; rfl
                      · rw [List.map_append, HNM.out, take_len HX.out, List.map_append]; rfl
                    case measure => simp [intOf]; omega
          · have hke : k = ys.length := by omega
            have hkI : (ys.length : Int) ≤ (k : Int) := by omega
            have hnm := HNM.out
            rw [hke, List.take_length] at hnm
            have htb := HOT.out.tbl
            rw [hnm] at htb
            have HTB := Lib.hid htb
            have HGB := Lib.hid (only_trans HG2.out HGK.out)
            obtain ⟨M, hM⟩ : ∃ M, twoL (ys.map turnN) = M := ⟨_, rfl⟩
            have HTM : Hid (tableL (ys.map turnN) = M) := Lib.hid ((tableL_ok (by rw [(okt_turn HK.out).check])).trans hM)
            have hml : M.length = 2 * ys.length := by rw [← hM, twoL_len, List.length_map]
            have HML := Lib.hid hml
            have HMA : Hid (∀ i x, ys[i]? = some x → M[ys.length + i]? = some { x with next := x.next.map (upE ys.length) }) := Lib.hid fun i x h => by rw [← hM]; exact twice_at h
            clear hnm htb hM hml hke hlt hk HNS HNM HOT
            go_upto_region 27 with (go_at_call 7; go_must (refine (HC.out (ys.map turnN) _ _ HTB.out (by rw [List.length_map]; have := HL.out; omega)).mono ?_; rw [HTM.out]; intro e W3 hmt; obtain ⟨A3, c3, rfl, ht3, hg3⟩ := madeT_tbl hmt; have HG3 := Lib.hid (only_trans HGB.out hg3); have HT3 := Lib.hid ht3; clear hmt ht3 hg3))
            go_cut [160] from 156 to 160 (fun cv wx => cv = .bool false ∧ W3 = wx)
            case first =>
              have hLD : ((M.length : Int) != 2 * (ys.length : Int)) = false := by rw [HML.out]; simp
              go_wp2_with fail
              go_meet
              exact ⟨rfl, rfl⟩
            case rest =>
              obtain ⟨rfl, rfl⟩ := hcut
              go_wp2_with fail
              go_loopw [13] (fun i W => ∃ k : Nat, k ≤ ys.length ∧ i = .int .i64 (k : Int) ∧ W3.grownBy W none) (fun i _ => 100 - (intOf i).toNat)
              case atStart => exact ⟨0, Nat.zero_le _, rfl, only_refl _ _⟩
              case round =>
                obtain ⟨k, hk, rfl, hg⟩ := hrel
                have HGK3 := Lib.hid hg
                clear hg
                by_cases hlt : k < ys.length
                · have hk0 : (0 : Int) ≤ (k : Int) := by omega
                  have hk1 : (k : Int) < (ys.length : Int) := by omega
                  obtain ⟨x, hx⟩ : ∃ x, ys[k]? = some x := ⟨_, List.getElem?_eq_getElem hlt⟩
                  have hz := HMA.out k x hx
                  have hzl : ys.length + k < M.length := (List.getElem?_eq_some_iff.1 hz).1
                  have hzI : (ys.length : Int) + (k : Int) < (M.length : Int) := by omega
                  have hmlI : (M.length : Int) ≤ 140 := by have := HML.out; omega
                  obtain ⟨B1, d1, hA1, hcl1⟩ := HT3.out
                  obtain ⟨bt3, ot3, hAb1, hcl2⟩ := hcl1 (by intro e0; rw [e0] at hzl; simp at hzl)
                  obtain ⟨rfl, rfl⟩ : A3 = B1 ∧ c3 = d1 := by simpa using hA1
                  subst hAb1
                  obtain ⟨v2, hE2, q0', q1', q2', q3', q4', q5'⟩ := hcl2 (ys.length + k) _ hz
                  obtain ⟨B3, d3, hA3, hcl3⟩ := HT.out
                  obtain ⟨by_, oy, hAb3, hcl4⟩ := hcl3 (by intro e0; rw [e0] at hlt; simp at hlt)
                  obtain ⟨rfl, rfl⟩ : A = B3 ∧ c = d3 := by simpa using hA3
                  subst hAb3
                  obtain ⟨v3, hE3, r0', r1', r2', r3', r4', r5'⟩ := hcl4 k x hx
                  have kk := Keeps.grown HGK3.out
                  have kw := Keeps.grown (only_trans HG3.out HGK3.out)
                  have HE2 := Lib.hid (hE2.keep kk)
                  have HE3 := Lib.hid (hE3.keep kw)
                  obtain ⟨Av2, cv2, rfl⟩ := hE2.slice_
                  obtain ⟨Av3, cv3, rfl⟩ := hE3.slice_
                  have hln : (x.next.map (upE ys.length)).length = x.next.length := List.length_map _
                  dsimp only at q0' q1' q2' q3' q4' q5'
                  rw [hln] at q5'
                  have q0 := kk _ _ q0'
                  have q1 := kk _ _ q1'
                  have q2 := kk _ _ q2'
                  have q3 := kk _ _ q3'
                  have q4 := kk _ _ q4'
                  have q5 := kk _ _ q5'
                  have r0 := kw _ _ r0'
                  have r1 := kw _ _ r1'
                  have r2 := kw _ _ r2'
                  have r3 := kw _ _ r3'
                  have r4 := kw _ _ r4'
                  have r5 := kw _ _ r5'
                  have hn8 := (HK.out.good x (List.mem_of_getElem? hx)).2
                  have hn8I : (x.next.length : Int) ≤ 8 := by omega
                  have HX := Lib.hid hx
                  clear hA1 hcl1 hcl2 hA3 hcl3 hcl4 hE2 hE3 q0' q1' q2' q3' q4' q5' r0' r1' r2' r3' r4' r5' kk kw hx hz
                  go_upto_region 33 with fail
                  have hgB : wr.grownBy (wr.alloc (.cells (ndCells x (.slice Av2 x.next.length cv2)) 29)) none := only_alloc (only_refl _ _) _
                  have HB := Lib.hid (Blk.new wr 29 (ndCells x (.slice Av2 x.next.length cv2)))
                  have z0 : (wr.alloc (.cells (ndCells x (.slice Av2 x.next.length cv2)) 29)).cell? ⟨wr.heap.size, 0, none⟩ = some (.int .i64 x.kind) := HB.out.cell 0
                  have z1 : (wr.alloc (.cells (ndCells x (.slice Av2 x.next.length cv2)) 29)).cell? ⟨wr.heap.size, 1, none⟩ = some (.int .i64 x.prio) := HB.out.cell 1
                  have z3 : (wr.alloc (.cells (ndCells x (.slice Av2 x.next.length cv2)) 29)).cell? ⟨wr.heap.size, 3, none⟩ = some (.int .i64 x.pay.1) := HB.out.cell 3
                  have z4 : (wr.alloc (.cells (ndCells x (.slice Av2 x.next.length cv2)) 29)).cell? ⟨wr.heap.size, 4, none⟩ = some (.int .i64 x.pay.2) := HB.out.cell 4
                  have z5 : (wr.alloc (.cells (ndCells x (.slice Av2 x.next.length cv2)) 29)).cell? ⟨wr.heap.size, 5, none⟩ = some (.slice Av2 x.next.length cv2) := HB.out.cell 5
                  have y0 := Keeps.grown hgB _ _ r0
                  have y1 := Keeps.grown hgB _ _ r1
                  have y3 := Keeps.grown hgB _ _ r3
                  have y4 := Keeps.grown hgB _ _ r4
                  have y5 := Keeps.grown hgB _ _ r5
                  have HEB2 := Lib.hid (HE2.out.keep (.grown hgB))
                  have HEB3 := Lib.hid (HE3.out.keep (.grown hgB))
                  have HGB3 := Lib.hid (only_trans HGK3.out hgB)
                  clear hgB q0 q1 q2 q3 q4 q5 r0 r1 r2 r3 r4 r5 HE2 HE3 HB
                  obtain ⟨g9, hg9⟩ : ∃ g9, wr.heap.size = g9 := ⟨_, rfl⟩
                  rw [hg9] at z0 z1 z3 z4 z5 ⊢
                  clear hg9
                  change Code.wp _ _ _ _ (wr.alloc (.cells (ndCells x (.slice Av2 x.next.length cv2)) 29))
                  generalize (wr.alloc (.cells (ndCells x (.slice Av2 x.next.length cv2)) 29)) = W8 at *
                  go_cut [211] from 161 to 254 (fun cv wx => cv = .bool false ∧ W8.grownBy wx none)
                  case first =>
                    go_quiet (fail)
                    all_goals go_wp2_with fail
                    all_goals go_meet
                    all_goals exact ⟨rfl, only_drewN_D (only_refl _ _) _⟩
                  case rest =>
                    obtain ⟨rfl, hgc⟩ := hcut
                    have HGC3 := Lib.hid (only_trans HGB3.out hgc)
                    have z6 := Keeps.grown hgc _ _ z5
                    have y6 := Keeps.grown hgc _ _ y5
                    have HEC2 := Lib.hid (HEB2.out.keep (.grown hgc))
                    have HEC3 := Lib.hid (HEB3.out.keep (.grown hgc))
                    clear y0 y1 y3 y4 y5 z0 z1 z3 z4 z5 HEB2 HEB3 HGB3 hgc HGK3
                    generalize wc = Wc at *
                    go_wp2_with fail
                    go_loopw [15] (fun j W => ∃ q : Nat, q ≤ x.next.length ∧ j = .int .i64 (q : Int) ∧ Wc.grownBy W none) (fun j _ => 16 - (intOf j).toNat)
                    case atStart => exact ⟨0, Nat.zero_le _, rfl, only_refl _ _⟩
                    case round =>
                      obtain ⟨q, hq, rfl, hg⟩ := hrel
                      have z5 := Keeps.grown hg _ _ z6
                      have y5 := Keeps.grown hg _ _ y6
                      have HGQ := Lib.hid hg
                      clear z6 y6
                      by_cases hql : q < x.next.length
                      · have hqI : (q : Int) < (x.next.length : Int) := by omega
                        have hq0 : (0 : Int) ≤ (q : Int) := by omega
                        obtain ⟨⟨ea, es⟩, he⟩ : ∃ e, x.next[q]? = some e := ⟨_, List.getElem?_eq_getElem hql⟩
                        have heu : (x.next.map (upE ys.length))[q]? = some (upE ys.length (ea, es)) := by rw [List.getElem?_map, he]; rfl
                        have hul : q < (x.next.map (upE ys.length)).length := by rw [List.length_map]; exact hql
                        obtain ⟨Ax, cx, hAx, _, hclx⟩ := HEC2.out
                        obtain ⟨b2, o2, hb2, hc2⟩ := hclx (by intro e0; have e0 : x.next.map (upE ys.length) = [] := e0; rw [e0] at hul; simp at hul)
                        obtain ⟨rfl, rfl⟩ : Av2 = Ax ∧ cv2 = cx := by simpa using hAx
                        obtain ⟨Ay, cy, hAy, _, hcly⟩ := HEC3.out
                        obtain ⟨b3, o3, hb3, hc3⟩ := hcly (by intro e0; rw [e0] at hql; simp at hql)
                        obtain ⟨rfl, rfl⟩ : Av3 = Ay ∧ cv3 = cy := by simpa using hAy
                        obtain ⟨e0', e1'⟩ := hc2 q _ heu
                        obtain ⟨f0', f1'⟩ := hc3 q _ he
                        have e0 : wr.cell? ⟨b2, o2 + q * 2, none⟩ = some (.int .i64 (ea + (ys.length : Int))) := Keeps.grown hg _ _ e0'
                        have e1 : wr.cell? ⟨b2, o2 + q * 2 + 1, none⟩ = some (.int .i64 es) := Keeps.grown hg _ _ e1'
                        have f0 : wr.cell? ⟨b3, o3 + q * 2, none⟩ = some (.int .i64 ea) := Keeps.grown hg _ _ f0'
                        have f1 : wr.cell? ⟨b3, o3 + q * 2 + 1, none⟩ = some (.int .i64 es) := Keeps.grown hg _ _ f1'
                        subst hb2
                        subst hb3
                        have hea := HK.out.edge HX.out (List.mem_append_left _ (List.mem_of_getElem? he))
                        have ha0 : 0 ≤ ea := hea.1
                        have ha1 : ea < (ys.length : Int) := hea.2.1
                        have hws : IntKind.i64.wrap (ea + (ys.length : Int)) = ea + (ys.length : Int) := IntWalk.i64_in _ ⟨by omega, by omega⟩
                        clear hAx hclx hc2 hAy hcly hc3 e0' e1' f0' f1' he heu hul hea hg
                        go_upto_region 38 with fail
                        go_cut [254] from 212 to 254 (fun cv wx => cv = .bool false ∧ wr.grownBy wx none)
                        case first =>
                          go_quiet (fail)
                          all_goals go_wp2_with fail
                          all_goals go_meet
                          all_goals exact ⟨rfl, only_drewN_D (only_refl _ _) _⟩
                        case rest =>
                          obtain ⟨rfl, hgd⟩ := hcut
                          have HGQ2 := Lib.hid (only_trans HGQ.out hgd)
                          clear hgd z5 y5 e0 e1 f0 f1
                          go_wp2_with fail
                          go_roundw
                          case rel => exact ⟨q + 1, by omega, by go_num, HGQ2.out⟩
                          case measure => simp [intOf]; omega
                      · have hqI : (x.next.length : Int) ≤ (q : Int) := by omega
                        clear hql hq hg
                        go_wp2_with fail
                        go_roundw
                        case rel => exact ⟨k + 1, by omega, by go_num, only_trans HGC3.out HGQ.out⟩
                        case measure => simp [intOf]; omega
                · have hkI : (ys.length : Int) ≤ (k : Int) := by omega
                  clear hlt hk
                  go_wp2_with fail
                  go_ret
                  exact ⟨rfl, only_trans HG3.out HGK3.out⟩
    · obtain ⟨a, e, hae⟩ : ∃ a e, checkL ys = (a, e) := ⟨_, _, rfl⟩
      have HTL := Lib.hid (tableL_not hok)
      rw [hae] at hok
      have HAE := Lib.hid hae
      have he : ¬ e = 0 := hok
      have he2 : (e == 0) = false := by simp [he]
      have he3 : decide (e = 0) = false := decide_eq_false he
      clear hae hok
      go_wp2_with (first | (go_at_call 7; go_must (refine (HC.out ys _ _ (HT.out.keep (.grown HG0.out)) (by have := HL.out; omega)).mono ?_; rw [HTL.out]; intro e W1 hmt; obtain ⟨A1, c1, rfl, ht1, hg1⟩ := madeT_tbl hmt; have HG1 := Lib.hid (only_trans HG0.out hg1); clear hmt ht1 hg1)) | (go_at_call 13; go_must (refine (check_is HAE.out (HT.out.keep (.grown HG1.out)) (by have := HL.out; omega)).mono ?_; rintro e W2 ⟨rfl, hg2⟩; have HG2 := Lib.hid (only_trans HG1.out hg2); clear hg2)))
      go_ret
      exact ⟨rfl, HG2.out⟩
end Go.Proofs.Ytacjkkhignjmnaa

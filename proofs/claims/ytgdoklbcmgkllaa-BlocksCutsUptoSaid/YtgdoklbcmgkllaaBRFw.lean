/- The document's flow (colloquyref10). -/
import Derived.Test.YtgdoklbcmgkllaaBRFl
namespace Go.Proofs.Ytgdoklbcmgkllaa
open Go.RowKit

set_option maxRecDepth 100000 in
set_option maxHeartbeats 8000000 in
theorem rflow_any : RFlow := by
  intro cs v w h1 hC hl hn hj
  obtain ⟨A, cp, rfl, _⟩ := id hC
  have HC := Lib.hid hC
  have HL := Lib.hid hl
  have HJ := Lib.hid hj
  have hnI : (cs.length : Int) ≤ 128 := by omega
  have h1I : (1 : Int) ≤ (cs.length : Int) := by omega
  have hmk := make_ints cs.length (by omega)
  have hga : w.grownBy (((w.alloc (.cells #[.slice none 0 0, .slice none 0 0] 27)).alloc (.cells #[.slice none 0 0, .slice none 0 0] 27)).alloc (.cells (Array.replicate cs.length (.int .i64 0)) 3)) none := only_alloc (only_alloc (only_alloc (only_refl _ _) _) _) _
  have HW : Hid (FW w cs w.heap.size (w.heap.size + 1) (w.heap.size + 1 + 1) 0 0 (.slice none 0 0) (((w.alloc (.cells #[.slice none 0 0, .slice none 0 0] 27)).alloc (.cells #[.slice none 0 0, .slice none 0 0] 27)).alloc (.cells (Array.replicate cs.length (.int .i64 0)) 3))) :=
    Lib.hid ⟨hga, Nat.le_refl _, by omega, by omega, ((Blk.new _ _ _).alloc _).alloc _, (blk_atB (by simp) _ _).alloc _, ⟨_, blk_atB (by simp) _ _, Nums.zero cs⟩, BOwn.nil_ _ _⟩
  clear hC hl hj hga
  go_enter Try.func14, Try.ntmps14
  go_upto_region 3 with fail
  generalize (((w.alloc (.cells #[.slice none 0 0, .slice none 0 0] 27)).alloc (.cells #[.slice none 0 0, .slice none 0 0] 27)).alloc (.cells (Array.replicate cs.length (.int .i64 0)) 3)) = w1 at *
  generalize w.heap.size = Bo at *
  clear hmk
  go_wp2_with fail
  go_loopw [5] (fun z wr => ∃ (i : Nat) (sv : Value), i ≤ cs.length ∧ z = .int .i64 (i : Int) ∧ FW w cs Bo (Bo + 1) (Bo + 1 + 1) i i sv wr) (fun z _ => cs.length - (intOf z).toNat)
  case atStart => exact ⟨0, _, Nat.zero_le _, rfl, HW.out⟩
  case round =>
    obtain ⟨i, sv, hi, rfl, hS⟩ := hrel
    have HS := Lib.hid hS
    have hi0 : (0 : Int) ≤ (i : Int) := by omega
    clear hS
    by_cases hlt : i < cs.length
    · have hltI : (i : Int) < (cs.length : Int) := by omega
      have hbg := bbegins_any cs _ i wr hlt (HC.out.kept HS.out.g) HL.out hn
      obtain ⟨r, hr⟩ : ∃ r, beginB cs i = r := ⟨_, rfl⟩
      rw [hr] at hbg
      have HR := Lib.hid hr
      clear hr
      go_wp2_with fail
      refine hbg.mono ?_
      rintro e w2 ⟨rfl, hg2⟩
      have HS2 := Lib.hid (HS.out.kept hg2)
      clear hbg hg2 HS
      obtain ⟨M, hM⟩ : ∃ M, (intsN (frontL cs (i + 1))).length = M := ⟨_, rfl⟩
      have hMf : (frontL cs (i + 1)).length = M := by rw [← hM]; simp [intsN]
      have hM1 : 1 ≤ M := by rw [← hMf]; exact front_pos cs i
      have hM128 : M ≤ 129 := by rw [← hMf]; have := front_len cs (i + 1); omega
      have hM1I : (1 : Int) ≤ (M : Int) := by omega
      have hM2I : (M : Int) ≤ 129 := by omega
      have HNU : Hid ((M : Int) - 1 = ((numB cs i : Nat) : Int)) := Lib.hid (by have h := front_num hlt; rw [hMf] at h; exact h)
      have HM := Lib.hid hM
      clear hM hMf
      cases r with
      | true =>
        obtain ⟨A1, c1, rfl, _⟩ := id HS2.out.ow.reads
        obtain ⟨m, hm⟩ : ∃ m, (intsN (frontL cs i)).length = m := ⟨_, rfl⟩
        have HFL : Hid (intsN (frontL cs (i + 1)) = intsN (frontL cs i) ++ [(i : Int)]) := Lib.hid (by rw [front_next, HR.out]; simp [intsN])
        have HML : Hid ((intsN (frontL cs i)).length ≤ 128) := Lib.hid (by have := front_len cs i; simp [intsN]; omega)
        have HS3 := Lib.hid (HS2.out.kept (only_alloc (only_refl _ _) (.cells #[.int .i64 (i : Int)] 3)))
        have d0 : w2.cell? ⟨Bo + 1, 0, none⟩ = some (.slice A1 (intsN (frontL cs i)).length c1) := HS2.out.bf.cell 0
        have hlf := HS2.out.bf.lt
        rw [hm] at d0
        rw [hm] at HS2 HS3
        clear hm
        go_upto_region 8 with (at_builtin; (refine wpList_append_z (base := Bo + 1 + 1 + 1) rfl _ _ rfl rfl rfl HS3.out.ow (Blk.new _ _ _) (by have := HML.out; omega) (by have := HS2.out.bn; obtain ⟨ns, hb, _⟩ := this; have := hb.lt; simp; omega) ?_); intro v5 W5 ho5 hg5; rw [← HFL.out] at ho5; obtain ⟨A8, c8, e8, _⟩ := id ho5.reads; rw [HM.out] at e8; subst e8; have HP := Lib.hid (HS3.out.push hg5 ho5); have b5 := HS3.out.far HS3.out.bf (by omega) hg5; have k5 : W5.cell? ⟨Bo + 1, 0, none⟩ = some (.slice A1 m c1) := b5.cell 0; have f5 := b5.frozen 0; clear ho5 hg5 b5)
        generalize (World.setCell W5 ⟨Bo + 1, 0, none⟩ (.slice A8 M c8)) = w6 at *
        clear k5 f5 d0 hlf HS2 HS3
        obtain ⟨ns, hb, hN⟩ := HP.out.bn
        obtain ⟨z0, hz0⟩ := hN.2.1 i hlt
        have t0 : w6.cell? ⟨Bo + 1 + 1, i, none⟩ = some (.int .i64 z0) := (hb.cell i).trans hz0
        have t1 := hb.frozen i
        have d6 : w6.cell? ⟨Bo + 1, 0, none⟩ = some (.slice A8 M c8) := HP.out.bf.cell 0
        have hp2 := HP.out.num hlt
        rw [← HNU.out] at hp2
        have HP2 := Lib.hid hp2
        clear hb hN hz0 hp2
        go_wp2_with fail
        go_roundw
        case rel => exact ⟨i + 1, _, by omega, by go_num, HP2.out⟩
        case measure => simp [intOf]; omega
      | false =>
        have hp := HS2.out.skip HR.out
        obtain ⟨A8, c8, e8, _⟩ := id hp.ow.reads
        rw [HM.out] at e8
        subst e8
        have HP := Lib.hid hp
        clear hp HS2
        go_upto_region 8 with fail
        generalize w2 = w6 at *
        obtain ⟨ns, hb, hN⟩ := HP.out.bn
        obtain ⟨z0, hz0⟩ := hN.2.1 i hlt
        have t0 : w6.cell? ⟨Bo + 1 + 1, i, none⟩ = some (.int .i64 z0) := (hb.cell i).trans hz0
        have t1 := hb.frozen i
        have d6 : w6.cell? ⟨Bo + 1, 0, none⟩ = some (.slice A8 M c8) := HP.out.bf.cell 0
        have hp2 := HP.out.num hlt
        rw [← HNU.out] at hp2
        have HP2 := Lib.hid hp2
        clear hb hN hz0 hp2
        go_wp2_with fail
        go_roundw
        case rel => exact ⟨i + 1, _, by omega, by go_num, HP2.out⟩
        case measure => simp [intOf]; omega
    · have hge : (cs.length : Int) ≤ (i : Int) := by omega
      obtain rfl : i = cs.length := by omega
      go_wp2_with fail
      obtain ⟨A8, c8, e8, _⟩ := id HS.out.ow.reads
      obtain ⟨N, hN⟩ : ∃ N, (startsL cs).length = N := ⟨_, rfl⟩
      have hNi : (intsN (frontL cs cs.length)).length = N := by rw [front_all]; simp [intsN, hN]
      rw [hNi] at e8
      subst e8
      have HNN := Lib.hid hN
      have hN128 : N ≤ 128 := by rw [← hN, ← front_all]; have := front_len cs cs.length; omega
      have hNI : (N : Int) ≤ 128 := by omega
      have HG0 := Lib.hid HS.out.g
      have HBO := Lib.hid HS.out.bo
      have hbf0 := HS.out.bf
      obtain ⟨ns, hbn0, hnums⟩ := HS.out.bn
      have HNU := Lib.hid hnums
      have HST0 : Hid (IB wr (.slice A8 N c8) (intsN (startsL cs))) := Lib.hid (by have := HS.out.ow.ib; rw [front_all] at this; exact this)
      have HLO := Lib.hid HS.out.lo
      obtain ⟨b1, o1, rfl, -⟩ := HST0.out.at_ (i := 0) (z := 0) (by unfold intsN; rw [List.getElem?_map, starts_zero h1]; rfl)
      have HF0 : Hid (FN w Bo (Bo + 1) (Bo + 1 + 1) cs ns (.slice (some ⟨b1, o1, none⟩) N c8) 0 (.slice none 0 0) wr) := Lib.hid ⟨HG0.out, HS.out.bo, hbf0, hbn0, HST0.out, ⟨[], NO.nil_ _ _⟩⟩
      clear hbf0 hbn0 hnums hN hNi HS HW
      go_loopw [6] (fun z wx => ∃ (b : Nat) (An : Option Addr) (cn : Nat), b ≤ N ∧ z = .int .i64 (b : Int) ∧ FN w Bo (Bo + 1) (Bo + 1 + 1) cs ns (.slice (some ⟨b1, o1, none⟩) N c8) b (.slice An b cn) wx) (fun z _ => N - (intOf z).toNat)
      case atStart => exact ⟨0, _, _, Nat.zero_le _, rfl, HF0.out⟩
      case round =>
        obtain ⟨b, An, cn, hb, rfl, hF⟩ := hrel
        have HF := Lib.hid hF
        have hb0 : (0 : Int) ≤ (b : Int) := by omega
        have d0 : wr.cell? ⟨Bo + 1, 0, none⟩ = some (.slice (some ⟨b1, o1, none⟩) N c8) := hF.bf.cell 0
        clear hF
        by_cases hbl : b < N
        · have hblI : (b : Int) < (N : Int) := by omega
          obtain ⟨en, hen⟩ : ∃ en, lastB cs b = en := ⟨_, rfl⟩
          have HEN := Lib.hid hen
          obtain ⟨sb, hsb⟩ : ∃ sb, (startsL cs)[b]? = some sb := ⟨_, List.getElem?_eq_getElem (by rw [HNN.out]; exact hbl)⟩
          have HSB := Lib.hid hsb
          have hen128 : (en : Int) < 128 := by have := (last_in hsb).2; rw [hen] at this; omega
          have hen0 : (0 : Int) ≤ (en : Int) := by omega
          clear hen hsb
          go_upto_if 51 with fail
          go_cut [7] from 51 to 58 (fun u wx => u = .int .i64 (en : Int) ∧ wr.grownBy wx none)
          case first =>
            by_cases hbn : b + 1 < N
            · have hbnI : (b : Int) + 1 < (N : Int) := by omega
              obtain ⟨t, ht⟩ : ∃ t, (startsL cs)[b + 1]? = some t := ⟨_, List.getElem?_eq_getElem (by rw [HNN.out]; exact hbn)⟩
              obtain ⟨b1', o1', h8, k1⟩ := HF.out.st.at_ (i := b + 1) (z := (t : Int)) (by unfold intsN; rw [List.getElem?_map, ht]; rfl)
              injection h8 with h8
              injection h8 with h8 h9'
              subst h8
              subst h9'
              have htl : t < cs.length := (mem_starts.1 (List.mem_of_getElem? ht)).1
              have htI : (t : Int) < 128 := by omega
              have ht0 : (0 : Int) ≤ (t : Int) := by omega
              have HT := Lib.hid (last_next ht (by rw [HNN.out]; exact hbl))
              clear ht htl
              go_wp2_with fail
              go_meet
              exact ⟨by have h := HT.out; rw [HEN.out] at h; rw [← h]; simp, only_refl _ _⟩
            · have hbnI : (N : Int) ≤ (b : Int) + 1 := by omega
              have HT := Lib.hid (last_end (cs := cs) (b := b) (by rw [HNN.out]; omega) h1)
              go_wp2_with fail
              go_meet
              exact ⟨by have h := HT.out; rw [HEN.out] at h; rw [← h]; simp, only_refl _ _⟩
          case rest =>
            obtain ⟨rfl, hg5⟩ := hcut
            have HF5 := Lib.hid (HF.out.kept hg5)
            generalize wc = wd at *
            have hgo := bgoes_any cs (.slice A cs.length cp) (en : Int) wd (HC.out.kept HF5.out.g) HL.out
            obtain ⟨gl, hgl⟩ : ∃ gl, goesN cs en = gl := ⟨_, rfl⟩
            rw [goesI_at, hgl] at hgo
            have hgll : gl.length ≤ 1048577 := by rw [← hgl]; exact goesN_length HL.out
            have hglI : (gl.length : Int) ≤ 1048577 := by omega
            have HGL : Hid (goesN cs (lastB cs b) = gl) := Lib.hid (by rw [HEN.out]; exact hgl)
            have HGLL := Lib.hid hgll
            clear hg5 HF hgl hgll d0
            go_wp2_with fail
            refine hgo.mono ?_
            rintro e w8 ⟨gv, rfl, ho8, hg8⟩
            obtain ⟨Ag, cg, rfl, -⟩ := id ho8.reads
            have HF8 := Lib.hid (HF5.out.kept hg8)
            have HO8 := Lib.hid ho8
            clear hgo hg8 ho8 HF5
            go_wp2_with fail
            go_loopw [8, 10] (fun y z wx => ∃ (k : Nat) (Ax : Option Addr) (cx : Nat), k ≤ gl.length ∧ z = .int .i64 (k : Int) ∧ y = .slice Ax k cx ∧ w8.grownBy wx none ∧ BOwn w8.heap.size wx (.slice Ax k cx) ((gl.take k).map fun t => ((numB cs t.toNat : Nat) : Int))) (fun _ z _ => gl.length - (intOf z).toNat)
            case atStart => exact ⟨0, _, _, Nat.zero_le _, rfl, rfl, only_refl _ _, by simpa using BOwn.nil_ _ _⟩
            case round =>
              obtain ⟨k, Ax, cx, hk, rfl, rfl, hg, ho⟩ := hrel
              have HG := Lib.hid hg
              have HO := Lib.hid ho
              have hk0 : (0 : Int) ≤ (k : Int) := by omega
              have HFk := Lib.hid (HF8.out.kept hg)
              by_cases hkl : k < gl.length
              · have hkI : (k : Int) < (gl.length : Int) := by omega
                obtain ⟨t, ht⟩ : ∃ t, gl[k]? = some t := ⟨_, List.getElem?_eq_getElem hkl⟩
                have hlt2 := goes_lt HJ.out (i := lastB cs b) (t := t) (by rw [HGL.out]; exact List.mem_of_getElem? ht)
                obtain ⟨tn, rfl⟩ : ∃ tn : Nat, t = (tn : Int) := ⟨t.toNat, by omega⟩
                obtain ⟨bg, og, hAg, g0⟩ := (HO8.out.none_ hg).at_ ht
                subst hAg
                have htn : tn < cs.length := by omega
                have htnI : (tn : Int) < (cs.length : Int) := by omega
                have htn0 : (0 : Int) ≤ (tn : Int) := by omega
                obtain ⟨nb, hnb⟩ : ∃ nb, numB cs tn = nb := ⟨_, rfl⟩
                have n0 : wr.cell? ⟨Bo + 1 + 1, tn, none⟩ = some (.int .i64 (nb : Int)) := by rw [← hnb]; exact (HFk.out.bn.cell tn).trans (HNU.out.2.2 tn htn)
                have HTK : Hid (((gl.take (k + 1)).map fun t => ((numB cs t.toNat : Nat) : Int)) = ((gl.take k).map fun t => ((numB cs t.toNat : Nat) : Int)) ++ [(nb : Int)]) := Lib.hid (by rw [List.take_add_one, ht]; simp [hnb])
                have HTL : Hid (((gl.take (k + 1)).map fun t => ((numB cs t.toNat : Nat) : Int)).length = k + 1) := Lib.hid (by simp; omega)
                have HTM : Hid (((gl.take k).map fun t => ((numB cs t.toNat : Nat) : Int)).length = k) := Lib.hid (by simp; omega)
                have HOk := Lib.hid (ho.none_ (only_alloc (only_refl _ _) (.cells #[.int .i64 (nb : Int)] 3)))
                have HGk := Lib.hid (only_alloc hg (.cells #[.int .i64 (nb : Int)] 3))
                have hsz : w8.heap.size ≤ wr.heap.size := hg.size
                clear hg ho ht hlt2 hnb htn
                go_wp2_with (at_builtin; (refine wpList_append_z (base := w8.heap.size) rfl _ _ rfl rfl rfl HOk.out (Blk.new _ _ _) (by have := HTM.out; have := HGLL.out; omega) (by simp; omega) ?_); intro v5 W5 ho5 hg5; rw [← HTK.out] at ho5; obtain ⟨A9, c9, e9, _⟩ := id ho5.reads; rw [HTL.out] at e9; subst e9; have HO5 := Lib.hid ho5; have HG5 := Lib.hid (grown_ownB HGk.out (fun g e => (World.ownsRow.lt HOk.out g e).1) hg5); clear ho5 hg5)
                go_roundw
                case rel => exact ⟨k + 1, _, _, by omega, by go_num, rfl, HG5.out, HO5.out⟩
                case measure => simp [intOf]; omega
              · have hge2 : (gl.length : Int) ≤ (k : Int) := by omega
                obtain rfl : k = gl.length := by omega
                have hib := ho.ib
                rw [show ((gl.take gl.length).map fun t => ((numB cs t.toNat : Nat) : Int)) = intsN (nextB cs b) by rw [List.take_length, ← next_ints, HGL.out]] at hib
                have hga : wr.grownBy (wr.alloc (.cells #[.slice Ax gl.length cx] 24)) none := only_alloc (only_refl _ _) _
                have HIB := Lib.hid (hib.kept hga)
                have HFa := Lib.hid (HFk.out.kept hga)
                have d1 : wr.cell? ⟨Bo + 1, 1, none⟩ = some (.slice An b cn) := HFk.out.bf.cell 1
                have hlf := HFk.out.bf.lt
                obtain ⟨lvs, hno⟩ := HFa.out.nx
                have HNO := Lib.hid hno
                have HNL : Hid ((((List.range b).map (nextB cs)).map intsN).length ≤ 1000000) := Lib.hid (by simp; omega)
                have HNE : Hid (((List.range (b + 1)).map (nextB cs)).map intsN = ((List.range b).map (nextB cs)).map intsN ++ [intsN (nextB cs b)]) := Lib.hid (by rw [List.range_succ]; simp)
                have HNK : Hid ((((List.range (b + 1)).map (nextB cs)).map intsN).length = b + 1) := Lib.hid (by simp)
                have hln := HFk.out.bn.lt
                clear hib hga hno hg ho
                go_wp2_with (at_builtin; go_must ((refine wpList_append_row (base := Bo + 1 + 1 + 1) rfl _ _ rfl rfl rfl HNO.out (Blk.new _ _ _) HIB.out HNL.out (by simp; omega) ?_); intro v5 W5 ho5 hg5; rw [← HNE.out] at ho5; obtain ⟨A9, c9, e9, _⟩ := id ho5.nx; rw [HNK.out] at e9; subst e9; have HP := Lib.hid (HFa.out.push HLO.out (by omega) (by omega) HNO.out hg5 ho5); have b5 := (HFa.out.bf).grown hg5 (fun e => by have := (World.ownsRow.lt HNO.out.row _ e.symm).1; omega); have k5 : W5.cell? ⟨Bo + 1, 1, none⟩ = some (.slice An b cn) := b5.cell 1; have f5 := b5.frozen 1; clear ho5 hg5 b5))
                go_roundw
                case rel => exact ⟨b + 1, _, _, by omega, by go_num, HP.out⟩
                case measure => simp [intOf]; omega
        · have hge2 : (N : Int) ≤ (b : Int) := by omega
          obtain rfl : b = N := by omega
          have d1 : wr.cell? ⟨Bo + 1, 1, none⟩ = some (.slice An b cn) := HF.out.bf.cell 1
          have e0 := HF.out.bo.cell 0
          have e1 := HF.out.bo.cell 1
          have f0 := HF.out.bo.frozen 0
          have f1 := HF.out.bo.frozen 1
          have hFl : FlowA wr (.agg #[.slice (some ⟨b1, o1, none⟩) b c8, .slice An b cn]) (flowB cs) := by
            obtain ⟨lvs, hno⟩ := HF.out.nx
            refine ⟨_, _, rfl, HF.out.st, ?_⟩
            show NX wr _ (((List.range (startsL cs).length).map (nextB cs)).map intsN)
            rw [HNN.out]
            exact hno.nx
          obtain ⟨hb8, hF8, hg8⟩ := flow_stored HF.out.bo hFl HF.out.g HLO.out
          have HB8 := Lib.hid hb8
          have HF8 := Lib.hid hF8
          have HG8 := Lib.hid hg8
          clear hb8 hF8 hg8 hFl
          go_wp2_with fail
          exact bodyPost_ret (rflow_results rfl HB8.out) rfl ⟨_, rfl, HF8.out, HG8.out⟩
end Go.Proofs.Ytgdoklbcmgkllaa

/- Texts joined for the claim's sake: MRdN. -/
import Derived.Test.YtohhojbeclbedaaGreatDoorZMKnwRow28
namespace Go.Proofs.YtohhojbeclbedaaGreatDoor
open Go.RowKit

theorem rinfo_Tpl : (Tryz.prog.info? 50).map (fun i => (i.zero, i.size, i.bytes)) = some (some (.agg #[.slice none 0 0, .slice none 0 0, .slice none 0 0]), 3, 72) := by kernel_rfl
set_option maxRecDepth 100000 in
set_option maxHeartbeats 4000000 in
theorem rall_Tpl {g a bg : Nat} {bs : List UInt8} {w : World} (h : Rdr w g bs a bg) (caps : Array Value) (I : Inv Tpl) {J : World → Prop} (T : Nat → Prop) (hI : I [] T w) (hOk : I.Ok J g w.heap.size) (least most : Int) (hw : Whole most) (hm : most ≤ 1000)
    (HC : ∀ (pre : List (Tpl × Nat)) (T : Nat → Prop) (b : Nat) (W : World), I pre T W → Rdr W g bs b bg → w.heap.size ≤ W.heap.size → pre.length ≤ 1000 → Calls Tryz.prog 113 caps W (CloR (encV TplE) I J g bs bg pre T b ((tplR bg) bs b) W)) :
    Calls Tryz.prog 112 #[.pointer (some ⟨g, 0, none⟩), .int .i64 least, .int .i64 most, .func (.func 113) #[] caps] w (LstR TplE 3 I J g bs bg T (lstR (tplR bg) least most bs a) w) := by
  have hgl : Hid (g < w.heap.size) := Lib.hid h.lt
  have hT0 : Hid (T g) := Lib.hid (hOk.rd hI)
  have HI := Lib.hid hI
  have HOK := Lib.hid hOk
  have HCC := Lib.hid HC
  have HR := Lib.hid h
  have HW := Lib.hid hw
  obtain ⟨res, hres⟩ : ∃ res, lstR (tplR bg) least most bs a = res := ⟨_, rfl⟩
  rw [hres]
  unfold lstR at hres
  have HE0 := Lib.hid hres
  clear hres h hI hOk HC hw
  go_enter Tryz.func112, Tryz.ntmps112
  go_wp2_with fail
  refine (place_step HR.out).mono ?_
  rintro e w1 ⟨rfl, g1⟩
  have HR1 := Lib.hid (HR.out.kept g1)
  have HI1 := Lib.hid (HOK.out.keep HI.out g1 (fun _ e => by cases e))
  have HT1 : Hid (Turn T w w1) := Lib.hid (Turn.none_ g1)
  obtain ⟨pl, hpl⟩ : ∃ pl : Int, (bg : Int) + (a : Int) = pl := ⟨_, rfl⟩
  rw [hpl]
  have HPL := Lib.hid hpl
  clear g1 hpl
  go_wp2_with fail
  refine (rnum_any HR1.out most HW.out).mono ?_
  rintro e w2 hL
  rcases hL.cases with ⟨n, b, v, hq, rfl, rfl, hr, hg⟩ | ⟨c, y, b, fb, hq, rfl, hf, h1, hg⟩
  rotate_left
  · have hz : res = .flt c y b := by rw [← HE0.out, hq]; rfl
    have HX : Hid (LstR TplE 3 I J g bs bg T res w (gaveF fb) w2) := Lib.hid (by
      rw [hz]
      exact ⟨fb, rfl, hf, Nat.le_trans HT1.out.size h1, HT1.out.then_ (Turn.of_only (S := T) hg (fun k e => by injection e with e; subst e; exact hT0.out)) (fun _ _ h => h), HOK.out.jj (HOK.out.mv HI1.out hg)⟩)
    clear hL hf h1 hg hq hz
    go_wp2_with fail
    exact ⟨rfl, HX.out⟩
  obtain ⟨n0, n1, _⟩ := smR_is hq
  obtain ⟨k, rfl⟩ : ∃ k : Nat, n = (k : Int) := ⟨n.toNat, by omega⟩
  have hk : k ≤ 1000 := by omega
  have hkI : (k : Int) ≤ 1000 := by omega
  have HE1 : Hid ((if (k : Int) < least then (.flt 2 a b : Rs (List (Tpl × Nat))) else repR (tplR bg) bs k b) = res) := Lib.hid (by rw [← HE0.out, hq]; rfl)
  have htg : Turn T w1 w2 := Turn.of_only hg (fun k e => by injection e with e; subst e; exact hT0.out)
  have HR2 := Lib.hid hr
  have HT2 := Lib.hid (HT1.out.then_ htg (fun _ _ h => h))
  have HIX : Hid (I [] T w2) := Lib.hid (HOK.out.mv HI1.out hg)
  clear hL hr hg hq htg HR1 HI1 HT1 HE0 n0 n1
  by_cases hlt : (k : Int) < least
  · rw [if_pos hlt] at HE1
    go_wp2_with fail
    have hga : w2.grownBy (w2.alloc (.cells #[.int .i64 2, .int .i64 pl] 89)) none := only_alloc (only_refl _ _) _
    have HX : Hid (LstR TplE 3 I J g bs bg T res w (gaveF w2.heap.size) (w2.alloc (.cells #[.int .i64 2, .int .i64 pl] 89))) := Lib.hid (by
      rw [← HE1.out]
      refine ⟨w2.heap.size, rfl, ?_, HT2.out.size, HT2.out.grown hga (fun _ e => by cases e), HOK.out.jj (HOK.out.keep HIX.out hga (fun _ e => by cases e))⟩
      rw [HPL.out]
      exact Blk.new _ _ _)
    clear hga
    refine (mgive_yes _ _).mono ?_
    rintro e w9 ⟨rfl, rfl⟩
    go_wp2_with fail
    exact ⟨rfl, HX.out⟩
  · rw [if_neg hlt] at HE1
    have HS0 : Hid (w.heap.size ≤ w2.heap.size) := Lib.hid HT2.out.size
    go_wp2_with fail
    clear hlt
    go_loopw [11, 26] (fun v z wr => ∃ (i : Nat) (pre : List (Tpl × Nat)) (T' : Nat → Prop) (c : Nat) (css : List (Array Value)), i ≤ k ∧ z = .int .i64 (i : Int) ∧ pre.length = i ∧ Rdr wr g bs c bg ∧ I pre T' wr ∧ OL TplE 3 50 w.heap.size T' wr v (pre.map Prod.fst) css ∧ Turn T w wr ∧ (∀ j, j < w.heap.size → ¬ T j → ¬ T' j) ∧ ((repR (tplR bg) bs (k - i) c).bind fun l d => (.ok (pre ++ l) d : Rs (List (Tpl × Nat)))) = res) (fun _ z _ => k - (intOf z).toNat)
    case atStart =>
      refine ⟨0, [], T, b, [], Nat.zero_le _, rfl, rfl, HR2.out, HIX.out, OL.nil_ _ _ _ _ _ _, HT2.out, fun _ _ h => h, ?_⟩
      rw [← HE1.out, Nat.sub_zero]
      cases repR (tplR bg) bs k b <;> rfl
    case round =>
      obtain ⟨i, pre, T', c, css, hi, rfl, hpre, hr, hinv, hol, htu, htt, he⟩ := hrel
      obtain ⟨A7, c7, hvA⟩ := own_shape hol.row
      rw [List.length_map] at hvA
      subst hvA
      have hi0 : (0 : Int) ≤ (i : Int) := by omega
      have HPRE := Lib.hid hpre
      have HRR := Lib.hid hr
      have HII := Lib.hid hinv
      have HOL := Lib.hid hol
      have HTU := Lib.hid htu
      have HTT := Lib.hid htt
      have HEE := Lib.hid he
      clear hpre hr hinv hol htu htt he
      by_cases hik : i < k
      · have hikI : (i : Int) < (k : Int) := by omega
        go_wp2_with fail
        refine (HCC.out pre T' c _ HII.out HRR.out HTU.out.size (by have := HPRE.out; omega)).mono ?_
        rintro e w3 hL
        cases hq : (tplR bg) bs c with
        | flt cd y d =>
          rw [hq] at hL
          obtain ⟨fb, rfl, hf, h1, ht, hjj⟩ := hL
          have HX : Hid (LstR TplE 3 I J g bs bg T res w (gaveF fb) w3) := Lib.hid (by
            have hz : res = .flt cd y d := by
              rw [← HEE.out, show k - i = (k - i - 1) + 1 by omega]
              exact rep_flt hq
            rw [hz]
            exact ⟨fb, rfl, hf, Nat.le_trans HTU.out.size h1, HTU.out.then_ ht HTT.out, hjj⟩)
          clear hf h1 ht hq hjj
          go_wp2_with fail
          exact ⟨rfl, HX.out⟩
        | ok x d =>
          rw [hq] at hL
          obtain ⟨v, T2, rfl, hr3, hi3, ⟨cs, rfl, hE⟩, ht3, htt3⟩ := hL
          have HE9 := Lib.hid hE
          obtain ⟨lv, lv2, lv3, rfl, hlv, hlv2, hlv3⟩ := hE
          obtain ⟨A7', c7', rfl, _⟩ := hlv.slice
          obtain ⟨A8', c8', rfl, _⟩ := hlv2.slice
          obtain ⟨A9', c9', rfl, _⟩ := hlv3.slice
          have HR3 := Lib.hid hr3
          have HI3 := Lib.hid hi3
          have HO3 := Lib.hid (HOL.out.turn tpl_ok ht3 htt3)
          have HU3 := Lib.hid (HTU.out.then_ ht3 HTT.out)
          have HV3 : Hid (∀ j, j < w.heap.size → ¬ T j → ¬ T2 j) := Lib.hid fun j hj h => htt3 j (Nat.lt_of_lt_of_le hj HTU.out.size) (HTT.out j hj h)
          have HN3 : Hid (((repR (tplR bg) bs (k - (i + 1)) d).bind fun l e => (.ok ((pre ++ [(x, c)]) ++ l) e : Rs (List (Tpl × Nat)))) = res) := Lib.hid (by
            rw [← HEE.out, show k - i = (k - (i + 1)) + 1 by omega]
            exact (rep_next hq).symm)
          have hsz3 : w.heap.size ≤ w3.heap.size := HU3.out.size
          have hga : w3.grownBy (w3.alloc (.cells #[.slice A7' x.params.length c7', .slice A8' x.code.length c8', .slice A9' x.at_.length c9'] 50)) none := only_alloc (only_refl _ _) _
          have HO4 := Lib.hid (HO3.out.none_ tpl_ok hga)
          have HY4 : Hid (TplE (fun j => w.heap.size ≤ j ∧ ¬ T2 j ∧ some j ≠ (Value.slice A7 pre.length c7).ownBlock) (w3.alloc (.cells #[.slice A7' x.params.length c7', .slice A8' x.code.length c8', .slice A9' x.at_.length c9'] 50)) x #[.slice A7' x.params.length c7', .slice A8' x.code.length c8', .slice A9' x.at_.length c9']) := Lib.hid (by
            refine tpl_ok.kept (tpl_ok.more HE9.out (fun j hj _ => ⟨Nat.le_trans HTU.out.size hj.1, hj.2, fun e => ?_⟩)) (KeptS.none_ hga)
            have := (World.ownsRow.lt HOL.out.row j e.symm).2
            have := hj.1
            omega)
          have HTL : Hid (∀ j, T2 j → j < (w3.alloc (.cells #[.slice A7' x.params.length c7', .slice A8' x.code.length c8', .slice A9' x.at_.length c9'] 50)).heap.size) := Lib.hid fun j hj => Nat.lt_of_lt_of_le (HOK.out.lt HI3.out hj) hga.size
          have HZ4 : Hid (w.heap.size ≤ (w3.alloc (.cells #[.slice A7' x.params.length c7', .slice A8' x.code.length c8', .slice A9' x.at_.length c9'] 50)).heap.size) := Lib.hid (Nat.le_trans hsz3 hga.size)
          have HG4 := Lib.hid hga
          clear hr3 hi3 ht3 htt3 hq hga hsz3
          go_wp2_with (at_builtin; go_loud (refine wpList_append_ol (z := .agg #[.slice none 0 0, .slice none 0 0, .slice none 0 0]) (bytes := 72) rfl _ _ 23 rfl Tryz.underlying23 rinfo_Tpl rfl (by decide) (by decide) tpl_ok rfl rfl HO4.out (Blk.new _ _ _) rfl (fun u hu => by simp at hu; rcases hu with rfl | rfl | rfl <;> rfl) HY4.out (by have := HPRE.out; simp; omega) HZ4.out HTL.out ?_); intro v5 w5 ho5 hg5; have HO5 := Lib.hid ho5; have HG5 := Lib.hid hg5; clear ho5 hg5)
          go_roundw
          case rel =>
            have hrow : ∀ j, (Value.slice A7 pre.length c7).ownBlock = some j → w.heap.size ≤ j ∧ ¬ T2 j := fun j e => ⟨(World.ownsRow.lt HOL.out.row j e).1, HO3.out.ap j e⟩
            refine ⟨i + 1, pre ++ [(x, c)], T2, d, _, by omega, by go_num, by rw [List.length_append, HPRE.out]; rfl, ?_, ?_, by rw [List.map_append]; exact HO5.out, ?_, HV3.out, HN3.out⟩
            · refine (HR3.out.kept HG4.out).grown HG5.out (fun e => ?_) (fun j e => ?_)
              · have := (hrow _ e.symm).1
                have := hgl.out
                omega
              · obtain ⟨_, cs', hb'⟩ := own_rowM HO4.out.row j e
                exact ⟨_, _, hb', by decide⟩
            · exact HOK.out.keep (HOK.out.keep HI3.out HG4.out (fun _ e => by cases e)) HG5.out (fun j e => hrow j e)
            · exact (HU3.out.grown HG4.out (fun _ e => by cases e)).grown HG5.out (fun j e => (hrow j e).1)
          case measure => simp [intOf]; omega
      · obtain rfl : i = k := by omega
        have hge : (i : Int) ≤ (i : Int) := by omega
        have HX : Hid (LstR TplE 3 I J g bs bg T res w (.returned (.slice A7 pre.length c7)) wr) := Lib.hid (by
          have := HEE.out
          rw [Nat.sub_self] at this
          have hz : res = .ok pre c := by rw [← this]; show Rs.ok (pre ++ []) c = _; rw [List.append_nil]
          rw [hz]
          exact ⟨_, T', rfl, HRR.out, HII.out, HOL.out.list tpl_ok, HTU.out, HTT.out⟩)
        clear hik
        go_wp2_with fail
        go_ret
        exact HX.out
theorem rinfo_Sta : (Tryz.prog.info? 74).map (fun i => (i.zero, i.size, i.bytes)) = some (some (.agg #[.int .i64 0, .slice none 0 0]), 2, 32) := by kernel_rfl
set_option maxRecDepth 100000 in
set_option maxHeartbeats 4000000 in
theorem rall_Sta {g a bg : Nat} {bs : List UInt8} {w : World} (h : Rdr w g bs a bg) (caps : Array Value) (I : Inv Sta) {J : World → Prop} (T : Nat → Prop) (hI : I [] T w) (hOk : I.Ok J g w.heap.size) (least most : Int) (hw : Whole most) (hm : most ≤ 1000)
    (HC : ∀ (pre : List (Sta × Nat)) (T : Nat → Prop) (b : Nat) (W : World), I pre T W → Rdr W g bs b bg → w.heap.size ≤ W.heap.size → pre.length ≤ 1000 → Calls Tryz.prog 119 caps W (CloR (encV StaE) I J g bs bg pre T b (staR bs b) W)) :
    Calls Tryz.prog 118 #[.pointer (some ⟨g, 0, none⟩), .int .i64 least, .int .i64 most, .func (.func 119) #[] caps] w (LstR StaE 2 I J g bs bg T (lstR staR least most bs a) w) := by
  have hgl : Hid (g < w.heap.size) := Lib.hid h.lt
  have hT0 : Hid (T g) := Lib.hid (hOk.rd hI)
  have HI := Lib.hid hI
  have HOK := Lib.hid hOk
  have HCC := Lib.hid HC
  have HR := Lib.hid h
  have HW := Lib.hid hw
  obtain ⟨res, hres⟩ : ∃ res, lstR staR least most bs a = res := ⟨_, rfl⟩
  rw [hres]
  unfold lstR at hres
  have HE0 := Lib.hid hres
  clear hres h hI hOk HC hw
  go_enter Tryz.func118, Tryz.ntmps118
  go_wp2_with fail
  refine (place_step HR.out).mono ?_
  rintro e w1 ⟨rfl, g1⟩
  have HR1 := Lib.hid (HR.out.kept g1)
  have HI1 := Lib.hid (HOK.out.keep HI.out g1 (fun _ e => by cases e))
  have HT1 : Hid (Turn T w w1) := Lib.hid (Turn.none_ g1)
  obtain ⟨pl, hpl⟩ : ∃ pl : Int, (bg : Int) + (a : Int) = pl := ⟨_, rfl⟩
  rw [hpl]
  have HPL := Lib.hid hpl
  clear g1 hpl
  go_wp2_with fail
  refine (rnum_any HR1.out most HW.out).mono ?_
  rintro e w2 hL
  rcases hL.cases with ⟨n, b, v, hq, rfl, rfl, hr, hg⟩ | ⟨c, y, b, fb, hq, rfl, hf, h1, hg⟩
  rotate_left
  · have hz : res = .flt c y b := by rw [← HE0.out, hq]; rfl
    have HX : Hid (LstR StaE 2 I J g bs bg T res w (gaveF fb) w2) := Lib.hid (by
      rw [hz]
      exact ⟨fb, rfl, hf, Nat.le_trans HT1.out.size h1, HT1.out.then_ (Turn.of_only (S := T) hg (fun k e => by injection e with e; subst e; exact hT0.out)) (fun _ _ h => h), HOK.out.jj (HOK.out.mv HI1.out hg)⟩)
    clear hL hf h1 hg hq hz
    go_wp2_with fail
    exact ⟨rfl, HX.out⟩
  obtain ⟨n0, n1, _⟩ := smR_is hq
  obtain ⟨k, rfl⟩ : ∃ k : Nat, n = (k : Int) := ⟨n.toNat, by omega⟩
  have hk : k ≤ 1000 := by omega
  have hkI : (k : Int) ≤ 1000 := by omega
  have HE1 : Hid ((if (k : Int) < least then (.flt 2 a b : Rs (List (Sta × Nat))) else repR staR bs k b) = res) := Lib.hid (by rw [← HE0.out, hq]; rfl)
  have htg : Turn T w1 w2 := Turn.of_only hg (fun k e => by injection e with e; subst e; exact hT0.out)
  have HR2 := Lib.hid hr
  have HT2 := Lib.hid (HT1.out.then_ htg (fun _ _ h => h))
  have HIX : Hid (I [] T w2) := Lib.hid (HOK.out.mv HI1.out hg)
  clear hL hr hg hq htg HR1 HI1 HT1 HE0 n0 n1
  by_cases hlt : (k : Int) < least
  · rw [if_pos hlt] at HE1
    go_wp2_with fail
    have hga : w2.grownBy (w2.alloc (.cells #[.int .i64 2, .int .i64 pl] 89)) none := only_alloc (only_refl _ _) _
    have HX : Hid (LstR StaE 2 I J g bs bg T res w (gaveF w2.heap.size) (w2.alloc (.cells #[.int .i64 2, .int .i64 pl] 89))) := Lib.hid (by
      rw [← HE1.out]
      refine ⟨w2.heap.size, rfl, ?_, HT2.out.size, HT2.out.grown hga (fun _ e => by cases e), HOK.out.jj (HOK.out.keep HIX.out hga (fun _ e => by cases e))⟩
      rw [HPL.out]
      exact Blk.new _ _ _)
    clear hga
    refine (mgive_yes _ _).mono ?_
    rintro e w9 ⟨rfl, rfl⟩
    go_wp2_with fail
    exact ⟨rfl, HX.out⟩
  · rw [if_neg hlt] at HE1
    have HS0 : Hid (w.heap.size ≤ w2.heap.size) := Lib.hid HT2.out.size
    go_wp2_with fail
    clear hlt
    go_loopw [11, 26] (fun v z wr => ∃ (i : Nat) (pre : List (Sta × Nat)) (T' : Nat → Prop) (c : Nat) (css : List (Array Value)), i ≤ k ∧ z = .int .i64 (i : Int) ∧ pre.length = i ∧ Rdr wr g bs c bg ∧ I pre T' wr ∧ OL StaE 2 74 w.heap.size T' wr v (pre.map Prod.fst) css ∧ Turn T w wr ∧ (∀ j, j < w.heap.size → ¬ T j → ¬ T' j) ∧ ((repR staR bs (k - i) c).bind fun l d => (.ok (pre ++ l) d : Rs (List (Sta × Nat)))) = res) (fun _ z _ => k - (intOf z).toNat)
    case atStart =>
      refine ⟨0, [], T, b, [], Nat.zero_le _, rfl, rfl, HR2.out, HIX.out, OL.nil_ _ _ _ _ _ _, HT2.out, fun _ _ h => h, ?_⟩
      rw [← HE1.out, Nat.sub_zero]
      cases repR staR bs k b <;> rfl
    case round =>
      obtain ⟨i, pre, T', c, css, hi, rfl, hpre, hr, hinv, hol, htu, htt, he⟩ := hrel
      obtain ⟨A7, c7, hvA⟩ := own_shape hol.row
      rw [List.length_map] at hvA
      subst hvA
      have hi0 : (0 : Int) ≤ (i : Int) := by omega
      have HPRE := Lib.hid hpre
      have HRR := Lib.hid hr
      have HII := Lib.hid hinv
      have HOL := Lib.hid hol
      have HTU := Lib.hid htu
      have HTT := Lib.hid htt
      have HEE := Lib.hid he
      clear hpre hr hinv hol htu htt he
      by_cases hik : i < k
      · have hikI : (i : Int) < (k : Int) := by omega
        go_wp2_with fail
        refine (HCC.out pre T' c _ HII.out HRR.out HTU.out.size (by have := HPRE.out; omega)).mono ?_
        rintro e w3 hL
        cases hq : staR bs c with
        | flt cd y d =>
          rw [hq] at hL
          obtain ⟨fb, rfl, hf, h1, ht, hjj⟩ := hL
          have HX : Hid (LstR StaE 2 I J g bs bg T res w (gaveF fb) w3) := Lib.hid (by
            have hz : res = .flt cd y d := by
              rw [← HEE.out, show k - i = (k - i - 1) + 1 by omega]
              exact rep_flt hq
            rw [hz]
            exact ⟨fb, rfl, hf, Nat.le_trans HTU.out.size h1, HTU.out.then_ ht HTT.out, hjj⟩)
          clear hf h1 ht hq hjj
          go_wp2_with fail
          exact ⟨rfl, HX.out⟩
        | ok x d =>
          rw [hq] at hL
          obtain ⟨v, T2, rfl, hr3, hi3, ⟨cs, rfl, hE⟩, ht3, htt3⟩ := hL
          have HE9 := Lib.hid hE
          obtain ⟨lv, rfl, hlv⟩ := hE
          obtain ⟨A7', c7', rfl, _⟩ := hlv.slice
          have HR3 := Lib.hid hr3
          have HI3 := Lib.hid hi3
          have HO3 := Lib.hid (HOL.out.turn sta_ok ht3 htt3)
          have HU3 := Lib.hid (HTU.out.then_ ht3 HTT.out)
          have HV3 : Hid (∀ j, j < w.heap.size → ¬ T j → ¬ T2 j) := Lib.hid fun j hj h => htt3 j (Nat.lt_of_lt_of_le hj HTU.out.size) (HTT.out j hj h)
          have HN3 : Hid (((repR staR bs (k - (i + 1)) d).bind fun l e => (.ok ((pre ++ [(x, c)]) ++ l) e : Rs (List (Sta × Nat)))) = res) := Lib.hid (by
            rw [← HEE.out, show k - i = (k - (i + 1)) + 1 by omega]
            exact (rep_next hq).symm)
          have hsz3 : w.heap.size ≤ w3.heap.size := HU3.out.size
          have hga : w3.grownBy (w3.alloc (.cells #[.int .i64 x.tpl, .slice A7' x.args.length c7'] 74)) none := only_alloc (only_refl _ _) _
          have HO4 := Lib.hid (HO3.out.none_ sta_ok hga)
          have HY4 : Hid (StaE (fun j => w.heap.size ≤ j ∧ ¬ T2 j ∧ some j ≠ (Value.slice A7 pre.length c7).ownBlock) (w3.alloc (.cells #[.int .i64 x.tpl, .slice A7' x.args.length c7'] 74)) x #[.int .i64 x.tpl, .slice A7' x.args.length c7']) := Lib.hid (by
            refine sta_ok.kept (sta_ok.more HE9.out (fun j hj _ => ⟨Nat.le_trans HTU.out.size hj.1, hj.2, fun e => ?_⟩)) (KeptS.none_ hga)
            have := (World.ownsRow.lt HOL.out.row j e.symm).2
            have := hj.1
            omega)
          have HTL : Hid (∀ j, T2 j → j < (w3.alloc (.cells #[.int .i64 x.tpl, .slice A7' x.args.length c7'] 74)).heap.size) := Lib.hid fun j hj => Nat.lt_of_lt_of_le (HOK.out.lt HI3.out hj) hga.size
          have HZ4 : Hid (w.heap.size ≤ (w3.alloc (.cells #[.int .i64 x.tpl, .slice A7' x.args.length c7'] 74)).heap.size) := Lib.hid (Nat.le_trans hsz3 hga.size)
          have HG4 := Lib.hid hga
          clear hr3 hi3 ht3 htt3 hq hga hsz3
          go_wp2_with (at_builtin; go_loud (refine wpList_append_ol (z := .agg #[.int .i64 0, .slice none 0 0]) (bytes := 32) rfl _ _ 25 rfl Tryz.underlying25 rinfo_Sta rfl (by decide) (by decide) sta_ok rfl rfl HO4.out (Blk.new _ _ _) rfl (fun u hu => by simp at hu; rcases hu with rfl | rfl <;> rfl) HY4.out (by have := HPRE.out; simp; omega) HZ4.out HTL.out ?_); intro v5 w5 ho5 hg5; have HO5 := Lib.hid ho5; have HG5 := Lib.hid hg5; clear ho5 hg5)
          go_roundw
          case rel =>
            have hrow : ∀ j, (Value.slice A7 pre.length c7).ownBlock = some j → w.heap.size ≤ j ∧ ¬ T2 j := fun j e => ⟨(World.ownsRow.lt HOL.out.row j e).1, HO3.out.ap j e⟩
            refine ⟨i + 1, pre ++ [(x, c)], T2, d, _, by omega, by go_num, by rw [List.length_append, HPRE.out]; rfl, ?_, ?_, by rw [List.map_append]; exact HO5.out, ?_, HV3.out, HN3.out⟩
            · refine (HR3.out.kept HG4.out).grown HG5.out (fun e => ?_) (fun j e => ?_)
              · have := (hrow _ e.symm).1
                have := hgl.out
                omega
              · obtain ⟨_, cs', hb'⟩ := own_rowM HO4.out.row j e
                exact ⟨_, _, hb', by decide⟩
            · exact HOK.out.keep (HOK.out.keep HI3.out HG4.out (fun _ e => by cases e)) HG5.out (fun j e => hrow j e)
            · exact (HU3.out.grown HG4.out (fun _ e => by cases e)).grown HG5.out (fun j e => (hrow j e).1)
          case measure => simp [intOf]; omega
      · obtain rfl : i = k := by omega
        have hge : (i : Int) ≤ (i : Int) := by omega
        have HX : Hid (LstR StaE 2 I J g bs bg T res w (.returned (.slice A7 pre.length c7)) wr) := Lib.hid (by
          have := HEE.out
          rw [Nat.sub_self] at this
          have hz : res = .ok pre c := by rw [← this]; show Rs.ok (pre ++ []) c = _; rw [List.append_nil]
          rw [hz]
          exact ⟨_, T', rfl, HRR.out, HII.out, HOL.out.list sta_ok, HTU.out, HTT.out⟩)
        clear hik
        go_wp2_with fail
        go_ret
        exact HX.out
end Go.Proofs.YtohhojbeclbedaaGreatDoor

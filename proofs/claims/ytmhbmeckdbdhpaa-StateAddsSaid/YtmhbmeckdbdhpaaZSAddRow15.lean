/- Texts joined for the claim's sake: CTyp, SFcA. -/
import Derived.Test.YtmhbmeckdbdhpaaZSAddRow14
import Derived.Deep.RegionHeld3
import Derived.Test.YtmhbmeckdbdhpaaZSAddRow13
import Derived.Test.YtmhbmeckdbdhpaaZSAddRow11
namespace Go.Proofs.Ytmhbmeckdbdhpaa
open Go.RowKit Go.Shelf

set_option maxRecDepth 100000 in
set_option maxHeartbeats 2000000 in
theorem ctype_con : TypeC := by
  intro T tv x w hW hT b0 b1
  have HT := Lib.hid hT
  obtain ⟨vc, vo, vp, rfl, hC, hO, hP⟩ := hT
  obtain ⟨n, o⟩ := x
  dsimp only at b0 b1
  obtain ⟨A, cap, rfl, _⟩ := id hC
  obtain ⟨A3, c3, rfl, _⟩ := id hO
  obtain ⟨A4, c4, rfl, _⟩ := id hP
  have hs := hW.small
  have hoI : (T.of_.length : Int) ≤ 1000000 := by omega
  have hpI : (T.prio.length : Int) ≤ 1000000 := by have := hW.len; omega
  by_cases hn : 0 ≤ n ∧ n < (T.of_.length : Int)
  · have hb1 := Lib.hid (show cinB n (T.of_.length : Int) = true from decide_eq_true hn)
    have hb2 := Lib.hid (show cinB n (T.prio.length : Int) = true from decide_eq_true (by rw [hW.len]; exact hn))
    obtain ⟨hn0, hn1⟩ := hn
    obtain ⟨n, rfl⟩ : ∃ k : Nat, n = (k : Int) := ⟨n.toNat, by omega⟩
    obtain ⟨c, hc⟩ : ∃ c, T.of_[n]? = some c := ⟨_, List.getElem?_eq_getElem (by omega)⟩
    obtain ⟨p, hp⟩ : ∃ p, T.prio[n]? = some p := ⟨_, List.getElem?_eq_getElem (by rw [hW.len]; omega)⟩
    obtain ⟨h0, h1⟩ := hW.of_ c (List.mem_of_getElem? hc)
    obtain ⟨bo, oo, rfl, mo⟩ := ints_at hO hc
    obtain ⟨bp, op, rfl, mp⟩ := ints_at hP hp
    have hA : typeA T ((n : Int), o) = atA T c (wrap64 (p + o)) := by
      obtain ⟨c, rfl⟩ : ∃ k : Nat, c = (k : Int) := ⟨c.toNat, by omega⟩
      obtain ⟨y, hy⟩ : ∃ y, T.cls[c]? = some y := ⟨_, List.getElem?_eq_getElem (by omega)⟩
      unfold typeA atA
      rw [if_neg (by dsimp only; omega)]
      dsimp only
      rw [Int.toNat_natCast, List.getD_eq_getElem?_getD, List.getD_eq_getElem?_getD, hc, hp]
      simp only [Option.getD_some, kindC_at hy, nodeAt_nat, hy]
    rw [hA]
    obtain ⟨r, hr⟩ : ∃ r, atA T c (wrap64 (p + o)) = r := ⟨_, rfl⟩
    rw [hr]
    have HR : Hid (atA T c (IntKind.i64.wrap (p + o)) = r) := Lib.hid (by rw [IntWalk.i64_left]; exact hr)
    have HS := Lib.hid hs.1
    have hmp : (n : Int) < (T.prio.length : Int) := by have := hW.len; omega
    have hbo : bo < w.heap.size := cell_lt mo
    have hbp : bp < w.heap.size := cell_lt mp
    clear hC hO hP hW hA hs hc hp hr h0 h1
    go_enter Try.func35, Try.ntmps35
    go_upto_region 3 with (first | (go_at_call 53; with_reducible refine Calls.mono (cin_is hb1.out _) ?_; rintro e w' ⟨rfl, rfl⟩) | (go_at_call 53; with_reducible refine Calls.mono (cin_is hb2.out _) ?_; rintro e w' ⟨rfl, rfl⟩) | fail)
    generalize hW1 : World.alloc _ _ = W1
    have hg1 : w.grownBy W1 none := by rw [← hW1]; exact only_alloc (only_alloc (only_refl _ _) _) _
    have hbt : Blk W1 w.heap.size 32 #[.slice A T.cls.length cap, .slice (some ⟨bo, oo, none⟩) T.of_.length c3, .slice (some ⟨bp, op, none⟩) T.prio.length c4] := by rw [← hW1]; exact (Blk.new w _ _).alloc _
    have hbx : Blk W1 (w.heap.size + 1) 59 #[.int .i64 (n : Int), .int .i64 o] := by rw [← hW1]; exact blk_at (by simp) _ _
    have z0 := hbt.cell 0
    have z1 := hbt.cell 1
    have z2 := hbt.cell 2
    have x0 := hbx.cell 0
    have x1 := hbx.cell 1
    have d0 := Keeps.grown hg1 _ _ mo
    have d1 := Keeps.grown hg1 _ _ mp
    have HG1 := Lib.hid hg1
    have HT1 := Lib.hid (HT.out.keep (.grown hg1))
    clear hW1 hg1 hbt hbx mo mp HT
    go_cut [4, 5] from 6 to 41 (fun u v wx => u = .int .i64 r.1 ∧ v = .int .i64 r.2 ∧ W1.grownBy wx none)
    case first =>
      have s : W1.grownBy W1.drew none := only_drew (only_refl _ _)
      go_region_held3 (fun w' => w'.cell? ⟨w.heap.size, 0, none⟩ = some (.slice A T.cls.length cap) ∧ w'.cell? ⟨w.heap.size, 1, none⟩ = some (.slice (some ⟨bo, oo, none⟩) T.of_.length c3) ∧ w'.cell? ⟨w.heap.size, 2, none⟩ = some (.slice (some ⟨bp, op, none⟩) T.prio.length c4) ∧ w'.cell? ⟨w.heap.size + 1, 0, none⟩ = some (.int .i64 (n : Int)) ∧ w'.cell? ⟨w.heap.size + 1, 1, none⟩ = some (.int .i64 o) ∧ w'.cell? ⟨bo, oo + n, none⟩ = some (.int .i64 c) ∧ w'.cell? ⟨bp, op + n, none⟩ = some (.int .i64 p)) (exact ⟨Keeps.grown s _ _ z0, Keeps.grown s _ _ z1, Keeps.grown s _ _ z2, Keeps.grown s _ _ x0, Keeps.grown s _ _ x1, Keeps.grown s _ _ d0, Keeps.grown s _ _ d1⟩) ((go_at_call 54; (with_reducible refine Calls.mono (cat_is HR.out (HT1.out.keep (.grown s)) HS.out) ?_; rintro e W8 ⟨rfl, hs⟩); replace s := only_trans s hs; clear hs))
      all_goals go_wp2_with fail
      all_goals go_meet
      all_goals exact ⟨rfl, rfl, s⟩
    case rest =>
      obtain ⟨rfl, rfl, hg⟩ := hcut
      have HG2 := Lib.hid (only_trans HG1.out hg)
      clear hg
      go_wp2_with fail
      go_ret2
      exact ⟨rfl, HG2.out⟩
  · have hb1 := Lib.hid (show cinB n (T.of_.length : Int) = false from decide_eq_false hn)
    have hA : typeA T (n, o) = (-1, 0) := by unfold typeA; rw [if_pos (by dsimp only; omega)]
    rw [hA]
    clear hC hO hP hW hA hs hn
    go_enter Try.func35, Try.ntmps35
    go_wp2_with (go_at_call 53; with_reducible refine Calls.mono (cin_is hb1.out _) ?_; rintro e w' ⟨rfl, rfl⟩)
    go_ret2
    exact ⟨rfl, only_alloc (only_alloc (only_refl _ _) _) _⟩

end Go.Proofs.Ytmhbmeckdbdhpaa

namespace Go.Proofs.Ytmhbmeckdbdhpaa
open Go.RowKit Go.Shelf

theorem slot_info6 : (Try.prog.info? 42).map (·.size) = some 3 := by kernel_rfl
theorem results_sl {fn : Func} {p : Tmp} (h : fn.results = #[.cell p 42]) {tmps : Array Value} {W : World} {g : Nat} {x : Slt} (hp : tmps.getD p undef = .pointer (some ⟨g, 0, none⟩)) (hb : Blk W g 42 (slC x)) : (results fn tmps).run Try.prog W = .ok (slV x) W :=
  results_cell_row h tmps W g 42 (slC x) _ _ hp hb Try.underlying42 rfl slot_info6
theorem slot_any_is {T : ClsT} {p : Prm} {c r : Int} (h : p.chan = true) (h2 : typeA T p.ty = (c, r)) : slotA T p = ⟨2, c, r⟩ := by unfold slotA; rw [if_pos h, h2]
set_option maxRecDepth 100000 in
set_option maxHeartbeats 1000000 in
theorem sslot_any (T : ClsT) (tv : Value) (p : Prm) (w : World) (hW : Wf T) (hT : TabV w tv T) (hf : p.Fit) : Calls Try.prog 24 #[tv, .agg (prC p)] w fun e w' => e = .returned (slV (slotA T p)) ∧ w.grownBy w' none := by
  have HW := Lib.hid hW
  have HT := Lib.hid hT
  have HF := Lib.hid hf
  obtain ⟨vc, vo, vp, rfl, _⟩ := hT
  obtain ⟨ch, n, o⟩ := p
  cases ch with
  | false =>
    have HS : Hid (slotA T ⟨false, n, o⟩ = ⟨1, 0, 0⟩) := Lib.hid rfl
    go_enter Try.func24, Try.ntmps24
    go_wp2_with fail
    exact bodyPost_ret (results_sl (x := ⟨1, 0, 0⟩) rfl rfl (blk_at (by simp) _ _)) rfl ⟨by rw [HS.out], only_alloc (only_alloc (only_alloc (only_refl _ _) _) _) _⟩
  | true =>
    obtain ⟨⟨c, r⟩, hcr⟩ : ∃ q, typeA T (n, o) = q := ⟨_, rfl⟩
    have HS : Hid (slotA T ⟨true, n, o⟩ = ⟨2, c, r⟩) := Lib.hid (slot_any_is rfl hcr)
    have HC := Lib.hid hcr
    go_enter Try.func24, Try.ntmps24
    go_upto_region 4 with (first | (go_at_call 35; go_must (refine (ctype_con T (.agg #[vc, vo, vp]) (n, o) _ HW.out (HT.out.keep (.grown (only_alloc (only_alloc (only_alloc (only_refl _ _) _) _) _))) HF.out.1 HF.out.2).mono ?_; rw [HC.out]; rintro e w5 ⟨rfl, hg⟩; have HG5 := Lib.hid hg; clear hg)) | fail)
    have hb : Blk w5 (w.heap.size + 1 + 1) 42 #[.int .i64 0, .int .i64 0, .int .i64 0] := Blk.kept (blk_at (by simp) _ _) HG5.out
    have c0 := hb.cell 0
    have c1 := hb.cell 1
    have c2 := hb.cell 2
    have f0 := hb.frozen 0
    have f1 := hb.frozen 1
    have f2 := hb.frozen 2
    have HB := Lib.hid (((hb.set_ 0 (.int .i64 2)).set_ 1 (.int .i64 c)).set_ 2 (.int .i64 r))
    clear hb
    go_wp2_with fail
    exact bodyPost_ret (results_sl (x := ⟨2, c, r⟩) rfl rfl HB.out) rfl ⟨by rw [HS.out], only_setNew (only_setNew (only_setNew (only_trans (only_alloc (only_alloc (only_alloc (only_refl _ _) _) _) _) HG5.out) (by simp; omega) _) (by simp; omega) _) (by simp; omega) _⟩
theorem tpl_all {n k : Nat} {ps : List Prm} {p : Prm} (hp : ps[k]? = some p) : (ps.take (k + 1)).all (prmB n) = ((ps.take k).all (prmB n) && prmB n p) := by
  rw [take_len hp, List.all_append, List.all_cons, List.all_nil, Bool.and_true]
set_option maxRecDepth 100000 in
set_option maxHeartbeats 2000000 in
theorem shave_any (n : Nat) (A : Option Addr) (c : Nat) (pv : Value) (ps : List Prm) (w : World) (hP : PrmsV w pv ps) (hn : n ≤ 1000) (hl : ps.length ≤ 1000) : Calls Try.prog 23 #[.slice A n c, pv] w fun e w' => e = .returned (.bool (tplB n ps)) ∧ w.grownBy w' none := by
  have HP := Lib.hid hP
  obtain ⟨B, cp, rfl, _⟩ := hP
  have hnI : (n : Int) ≤ 1000 := by omega
  have hlI : (ps.length : Int) ≤ 1000 := by omega
  go_enter Try.func23, Try.ntmps23
  go_wp2_with fail
  go_loopw [9] (fun i W => ∃ k : Nat, k ≤ ps.length ∧ i = .int .i64 (k : Int) ∧ w.grownBy W none ∧ (ps.take k).all (prmB n) = true) (fun i _ => ps.length - (intOf i).toNat)
  case atStart => exact ⟨0, Nat.zero_le _, rfl, only_refl _ _, rfl⟩
  case round =>
    obtain ⟨k, hk, rfl, hg, ha⟩ := hrel
    have HG := Lib.hid hg
    have HA := Lib.hid ha
    by_cases hlt : k < ps.length
    · obtain ⟨p, hp⟩ : ∃ p, ps[k]? = some p := ⟨_, List.getElem?_eq_getElem hlt⟩
      have HTA := Lib.hid (tpl_all (n := n) hp)
      have HPX := Lib.hid hp
      obtain ⟨b, off, rfl, _, m0, m1, m2⟩ := HP.out.at_ hp
      obtain ⟨ch, q, o⟩ := p
      dsimp only at m0 m1 m2
      have d0 := Keeps.grown hg _ _ m0
      have d1 := Keeps.grown hg _ _ m1
      have d2 := Keeps.grown hg _ _ m2
      have hb := cell_lt d0
      have hk0 : (0 : Int) ≤ (k : Int) := by omega
      have hk1 : (k : Int) < (ps.length : Int) := by omega
      clear m0 m1 m2 hp hg ha
      have goOn : ∀ {X : Prop}, X → X := fun h => h
      cases ch with
      | false =>
        have HB : Hid (prmB n ⟨false, q, o⟩ = true) := Lib.hid rfl
        go_wp2_with fail
        go_roundw
        case rel => exact ⟨k + 1, by omega, by go_num, only_alloc HG.out _, by rw [HTA.out, HA.out, HB.out]; rfl⟩
        case measure => simp [intOf]; omega
      | true =>
        by_cases h0 : 0 ≤ q
        · by_cases h1 : q < (n : Int)
          · have HB : Hid (prmB n ⟨true, q, o⟩ = true) := Lib.hid (by unfold prmB; simp [h0, h1])
            go_wp2_with fail
            go_roundw
            case rel => exact ⟨k + 1, by omega, by go_num, only_alloc HG.out _, by rw [HTA.out, HA.out, HB.out]; rfl⟩
            case measure => simp [intOf]; omega
          · have h1' : (n : Int) ≤ q := by omega
            have HB : Hid (tplB n ps = false) := Lib.hid (by
              have : ps.all (prmB n) = false := by
                rw [List.all_eq_false]
                exact ⟨_, List.mem_of_getElem? HPX.out, by unfold prmB; simp [h1]⟩
              unfold tplB
              rw [this]
              rfl)
            clear h1
            go_wp2_with fail
            go_ret
            exact ⟨by rw [HB.out]; rfl, only_alloc HG.out _⟩
        · have h0' : q < 0 := by omega
          have HB : Hid (tplB n ps = false) := Lib.hid (by
            have : ps.all (prmB n) = false := by
              rw [List.all_eq_false]
              exact ⟨_, List.mem_of_getElem? HPX.out, by unfold prmB; simp [h0]⟩
            unfold tplB
            rw [this]
            rfl)
          clear h0
          go_wp2_with fail
          go_ret
          exact ⟨by rw [HB.out]; rfl, only_alloc HG.out _⟩
    · have hke : k = ps.length := by omega
      subst hke
      have HB : Hid (tplB n ps = decide (ps.length ≤ 8)) := Lib.hid (by
        unfold tplB
        have := HA.out
        rw [List.take_length] at this
        rw [this, Bool.true_and])
      clear hlt hk hg ha
      go_wp2_with fail
      go_ret
      exact ⟨by rw [HB.out, show decide (ps.length ≤ 8) = decide ((ps.length : Int) ≤ 8) from decide_eq_decide.2 (by omega)]; rfl, HG.out⟩
end Go.Proofs.Ytmhbmeckdbdhpaa

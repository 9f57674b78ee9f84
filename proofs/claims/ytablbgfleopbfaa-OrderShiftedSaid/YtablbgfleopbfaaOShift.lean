/- OrderShifted: the walk. -/
import Derived.Test.YtablbgfleopbfaaOT3
import Derived.Deep.QuietTactic
import Derived.BigQuiet
import Derived.Deep.CutBlock
import Derived.Deep.CutRange
namespace Go.Proofs.Ytablbgfleopbfaa
open Go.RowKit Go.Shelf

theorem shift_case (m kind prio : Int) (chan : Bool) (pay : Ed) (next : List Ed) : ∃ P R, lowN ⟨kind, prio, chan, pay, next⟩ = ⟨kind, P, chan, pay, next⟩ ∧ highN m (lowN ⟨kind, prio, chan, pay, next⟩) = ⟨kind, R, chan, pay, next⟩ ∧
    ((1 ≤ kind ∧ kind ≤ 4 ∧ prio.tmod 500 = P ∧ 0 ≤ P ∧ P < 500 ∧ R = P + m) ∨ (1 ≤ kind ∧ kind ≤ 4 ∧ prio.tmod 500 = P ∧ P < 0 ∧ -500 < P ∧ P = R) ∨ (kind < 1 ∧ P = prio ∧ P = R) ∨ (4 < kind ∧ P = prio ∧ P = R)) := by
  obtain ⟨h1, h2⟩ := tmod500 prio
  by_cases ha : 1 ≤ kind ∧ kind ≤ 4
  · have h4 : act4 kind = true := by simp only [act4, Bool.and_eq_true, decide_eq_true_eq]; exact ha
    by_cases hp : 0 ≤ prio.tmod 500
    · exact ⟨prio.tmod 500, prio.tmod 500 + m, by simp [lowN, h4], by simp [lowN, highN, h4, hp], .inl ⟨ha.1, ha.2, rfl, hp, h2, rfl⟩⟩
    · exact ⟨prio.tmod 500, prio.tmod 500, by simp [lowN, h4], by simp [lowN, highN, h4, hp], .inr (.inl ⟨ha.1, ha.2, rfl, by omega, h1, rfl⟩)⟩
  · have h4 : act4 kind = false := by
      cases h : act4 kind with
      | false => rfl
      | true => simp only [act4, Bool.and_eq_true, decide_eq_true_eq] at h; exact absurd h ha
    refine ⟨prio, prio, by simp [lowN, h4], by simp [lowN, highN, h4], ?_⟩
    by_cases h5 : kind < 1
    · exact .inr (.inr (.inl ⟨h5, rfl, rfl⟩))
    · exact .inr (.inr (.inr ⟨by omega, rfl, rfl⟩))
/-- What stands behind k rounds. -/
def L3 (w1 : World) (zs : List Nd) (m : Int) (k : Nat) (u v s : Value) (W : World) : Prop := ∃ a b c, a.map (·.1) = (zs.take k).map lowN ∧ b.map (·.1) = (zs.take k).map (fun x => highN m (lowN x)) ∧ c.map (·.1) = (zs.take k).map (fun x => steepN (lowN x)) ∧ a.length = k ∧ b.length = k ∧ c.length = k ∧ T3 w1.heap.size W u v s a b c ∧ w1.grownBy W none

theorem act4_in {k : Int} (h1 : 1 ≤ k) (h2 : k ≤ 4) : act4 k = true := by simp [act4, h1, h2]
theorem act4_lt {k : Int} (h : k < 1) : act4 k = false := by
  have : ¬ 1 ≤ k := by omega
  simp [act4, this]
theorem act4_gt {k : Int} (h : 4 < k) : act4 k = false := by
  have : ¬ k ≤ 4 := by omega
  simp [act4, this]
/-- One round more. -/
theorem l3_step {w1 W : World} {zs : List Nd} {m : Int} {k : Nat} {x y1 y2 y3 : Nd} {e1 e2 e3 u v s : Value} {a b c : List (Nd × Value)} (ha : a.map (·.1) = (zs.take k).map lowN) (hb : b.map (·.1) = (zs.take k).map (fun x => highN m (lowN x))) (hc : c.map (·.1) = (zs.take k).map (fun x => steepN (lowN x)))
    (la : a.length = k) (lb : b.length = k) (lc : c.length = k) (hx : zs[k]? = some x) (h1 : lowN x = y1) (h2 : highN m (lowN x) = y2) (h3 : steepN (lowN x) = y3) (ht : T3 w1.heap.size W u v s (a ++ [(y1, e1)]) (b ++ [(y2, e2)]) (c ++ [(y3, e3)])) (hg : w1.grownBy W none) : L3 w1 zs m (k + 1) u v s W := by
  refine ⟨_, _, _, ?_, ?_, ?_, ?_, ?_, ?_, ht, hg⟩
  · rw [List.map_append, ha, take_len hx, List.map_append, ← h1]; rfl
  · rw [List.map_append, hb, take_len hx, List.map_append, ← h2]; rfl
  · rw [List.map_append, hc, take_len hx, List.map_append, ← h3]; rfl
  · rw [List.length_append, la]; rfl
  · rw [List.length_append, lb]; rfl
  · rw [List.length_append, lc]; rfl

/-- Check and Back where their answers have names. -/
theorem ocheck_is {xs : List Nd} {v : Value} {w : World} {a e : Int} (h : orderL xs = (a, e)) (hT : Tbl w v xs) (hxs : xs.length ≤ 1000) : Calls Try.prog 9 #[v] w fun en w' => en = .returned (.tuple #[.int .i64 a, .int .i64 e]) ∧ w.grownBy w' none := by
  have h2 := ocheck_any xs v w hT hxs
  rw [h] at h2
  exact h2
theorem oback_is {xs : List Nd} {v : Value} {i : Int} {w : World} {a : Int} {b : Bool} (h : backL xs i = (a, b)) (hT : Tbl w v xs) (hxs : xs.length ≤ 1000) : Calls Try.prog 14 #[v, .int .i64 i] w fun en w' => en = .returned (.tuple #[.int .i64 a, .bool b]) ∧ w.grownBy w' none := by
  have h2 := oback_any xs v i w hT hxs
  rw [h] at h2
  exact h2
/-- What the three tables are told. -/
theorem shift_told (zs : List Nd) {m : Int} (h0 : 0 ≤ m) (h1 : m ≤ 255) : ∃ a e f g, orderL (zs.map lowN) = (a, e) ∧ orderL (zs.map (fun x => highN m (lowN x))) = (a, e) ∧ orderL (zs.map (fun x => steepN (lowN x))) = (f, g) ∧ (e = 0 → g = 0) ∧
    ∀ i : Nat, ∃ x is z az, backL (zs.map lowN) (i : Int) = (x, is) ∧ backL (zs.map (fun x => highN m (lowN x))) (i : Int) = (x, is) ∧ backL (zs.map (fun x => steepN (lowN x))) (i : Int) = (z, az) ∧ (e = 0 → az = is ∧ (is = true → x ≤ z)) := by
  have hl : ∀ x ∈ zs.map lowN, act4 x.kind = true → x.prio < 500 := fun x hx h => by
    obtain ⟨y, _, rfl⟩ := List.mem_map.1 hx
    exact lowN_lt y h
  have e1 : zs.map (fun x => highN m (lowN x)) = (zs.map lowN).map (highN m) := by rw [List.map_map]; rfl
  have e2 : zs.map (fun x => steepN (lowN x)) = (zs.map lowN).map steepN := by rw [List.map_map]; rfl
  rw [e1, e2]
  generalize zs.map lowN = ys at *
  refine ⟨_, _, _, _, rfl, order_high h0 h1 hl, rfl, fun h => order_steep h, fun i => ⟨_, _, _, _, rfl, back_high h0 h1 hl i, rfl, fun h => back_steep h i⟩⟩

set_option maxRecDepth 100000 in
set_option maxHeartbeats 4000000 in
theorem oshift_any (xs : List Nd) (A : Option Addr) (c : Nat) (more : Int) (hm0 : 0 ≤ more) (hm1 : more ≤ 255) (w : World) (hT : TblC w (.slice A xs.length c) xs) :
    Calls Try.prog 6 #[.slice A xs.length c, .int .u8 more] w fun en w' => en = .returned (.bool true) ∧ w.grownBy w' none := by
  have HT := Lib.hid hT
  have HZ : Hid ((fewL xs).length ≤ 16) := fewL_len xs
  have HZ9 : Hid (∀ x ∈ fewL xs, x.next.length ≤ 9) := fun x hx => by
    obtain ⟨y, _, rfl⟩ := List.mem_map.1 hx
    simp [cutN]; omega
  generalize hzs : fewL xs = zs at *
  have HZS := Lib.hid hzs
  have HZ2 : Hid (zs.length ≤ 1000) := Nat.le_trans HZ.out (by decide)
  clear hT hzs
  go_enter Try.func6, Try.ntmps6
  go_wp2_with (go_at_call 13; go_must (refine (oworks_any _).mono ?_; rintro en W0 ⟨rfl, hg0⟩; have HG0 := Lib.hid hg0; clear hg0))
  refine (few_any xs A c _ (HT.out.keep (.grown HG0.out))).mono ?_
  rintro en W1 ⟨⟨v, ns, rfl, hot, hns⟩, hg⟩
  have HW1 := Lib.hid (only_trans HG0.out hg)
  have hv : Tbl W1 v zs := by rw [← HZS.out, ← hns]; exact hot.tbl
  obtain ⟨A3, c3, rfl⟩ : ∃ A3 c3, v = .slice A3 zs.length c3 := by
    obtain ⟨A3, c3, h, _⟩ := hv
    exact ⟨A3, c3, h⟩
  have HV := Lib.hid hv
  clear hg HG0 hot hns hv HT HZS ns
  go_wp2_with fail
  go_loopw [5, 6, 7, 8] (fun u v s i wr => ∃ k : Nat, k ≤ zs.length ∧ i = .int .i64 (k : Int) ∧ L3 W1 zs more k u v s wr) (fun _ _ _ i _ => 16 - (intOf i).toNat)
  case atStart => exact ⟨0, Nat.zero_le _, rfl, [], [], [], by simp, by simp, by simp, rfl, rfl, rfl, T3.start _ _, only_refl _ _⟩
  case round =>
    obtain ⟨k, hk, rfl, ta, tb, tc, hta, htb, htc, hla, hlb, hlc, h3, hg⟩ := hrel
    have HTA := Lib.hid hta
    have HTB := Lib.hid htb
    have HTC := Lib.hid htc
    have HLA := Lib.hid hla
    have HLB := Lib.hid hlb
    have HLC := Lib.hid hlc
    have H3 := Lib.hid h3
    have HG := Lib.hid hg
    clear hta htb htc hla hlb hlc h3 hg
    by_cases hlt : k < zs.length
    · have hltI : (k : Int) < (zs.length : Int) := by omega
      have hk0 : (0 : Int) ≤ (k : Int) := by omega
      have hl16 : (zs.length : Int) ≤ 16 := by have := HZ.out; omega
      obtain ⟨x, hx⟩ : ∃ x, zs[k]? = some x := ⟨_, List.getElem?_eq_getElem hlt⟩
      have HX := Lib.hid hx
      obtain ⟨A', c', hA, hcl⟩ := HV.out
      obtain ⟨b3, off3, hAb, hcl2⟩ := hcl (by intro e0; rw [e0] at hlt; simp at hlt)
      obtain ⟨vx, hE, m0, m1, m2, m3, m4, m5⟩ := hcl2 k x hx
      obtain ⟨rfl, rfl⟩ : A3 = A' ∧ c3 = c' := by simpa using hA
      subst hAb
      clear hA hcl hcl2 hx
      have hE3 := hE
      obtain ⟨A4, c4, rfl, hl3, _⟩ := hE3
      have h9 : x.next.length ≤ 9 := HZ9.out x (List.mem_of_getElem? HX.out)
      have n0 := Keeps.grown HG.out _ _ m0
      have n1 := Keeps.grown HG.out _ _ m1
      have n2 := Keeps.grown HG.out _ _ m2
      have n3 := Keeps.grown HG.out _ _ m3
      have n4 := Keeps.grown HG.out _ _ m4
      have n5 := Keeps.grown HG.out _ _ m5
      have HE : Hid (EdgesO W1.heap.size wr (.slice A4 x.next.length c4) x.next) := (hE.old (Nat.le_refl _)).kept HG.out
      have HB1 : Hid (W1.heap.size ≤ wr.heap.size) := HG.out.size
      clear m0 m1 m2 m3 m4 m5 hE hl3
      obtain ⟨kind, prio, chan, ⟨pa, ps⟩, next⟩ := x
      dsimp only at *
      have HP := Lib.hid (shift_case more kind prio chan (pa, ps) next)
      obtain ⟨P, R, hlo, hhi, hcase⟩ := HP.out
      have HLO := Lib.hid hlo
      have HHI := Lib.hid hhi
      have HC := Lib.hid hcase
      clear hlo hhi HP hcase
      have HN1 : Hid (ta.length ≤ 1000 ∧ tb.length ≤ 1000 ∧ tc.length ≤ 1000) := by
        refine Lib.hid ⟨?_, ?_, ?_⟩
        · have := HLA.out; have := HZ2.out; omega
        · have := HLB.out; have := HZ2.out; omega
        · have := HLC.out; have := HZ2.out; omega
      go_upto_region 9 with fail
      go_cut [48] from 31 to 116 (fun cv wx => cv = .bool (act4 kind) ∧ wx = wr.alloc (.cells #[.int .i64 kind, .int .i64 prio, .bool chan, .int .i64 pa, .int .i64 ps, .slice A4 next.length c4] 41))
      case first =>
        rcases HC.out with ⟨hk1, hk4, hP, hP0, hP1, hR⟩ | ⟨hk1, hk4, hP, hP0, hP1, hR⟩ | ⟨hk1, hP, hR⟩ | ⟨hk1, hP, hR⟩
        · clear hP hR
          go_wp2_with fail
          go_meet
          exact ⟨by rw [act4_in hk1 hk4], rfl⟩
        · clear hP hR
          go_wp2_with fail
          go_meet
          exact ⟨by rw [act4_in hk1 hk4], rfl⟩
        · clear hP hR
          go_wp2_with fail
          go_meet
          exact ⟨by rw [act4_lt hk1], rfl⟩
        · clear hP hR
          have hk0' : 1 ≤ kind := by omega
          go_wp2_with fail
          go_meet
          exact ⟨by rw [act4_gt hk1, decide_eq_false (by omega : ¬ kind ≤ 4)], rfl⟩
      case rest =>
        obtain ⟨rfl, rfl⟩ := hcut
        go_upto_if 48 with fail
        go_cut [48] from 31 to 116 (fun _ wx => RN W1 wx wr.heap.size ⟨kind, P, chan, (pa, ps), next⟩ (.slice A4 next.length c4) u5 u6 u7 ta tb tc)
        case first =>
          rcases HC.out with ⟨hk1, hk4, hP, hP0, hP1, hR⟩ | ⟨hk1, hk4, hP, hP0, hP1, hR⟩ | ⟨hk1, rfl, hR⟩ | ⟨hk1, rfl, hR⟩
          · clear hR
            have hAct := act4_in hk1 hk4
            rw [hAct]
            clear hAct
            go_wp2_with fail
            go_meet
            exact RN.start H3.out HG.out HE.out (only_alloc (only_refl _ _) _) (Blk.new _ _ _)
          · clear hR
            have hAct := act4_in hk1 hk4
            rw [hAct]
            clear hAct
            go_wp2_with fail
            go_meet
            exact RN.start H3.out HG.out HE.out (only_alloc (only_refl _ _) _) (Blk.new _ _ _)
          · clear hR
            have hAct := act4_lt hk1
            rw [hAct]
            clear hAct
            go_wp2_with fail
            go_meet
            exact RN.start H3.out HG.out HE.out (only_alloc (only_refl _ _) _) (Blk.new _ _ _)
          · clear hR
            have hAct := act4_gt hk1
            rw [hAct]
            clear hAct
            go_wp2_with fail
            go_meet
            exact RN.start H3.out HG.out HE.out (only_alloc (only_refl _ _) _) (Blk.new _ _ _)
        case rest =>
          have HN0 := Lib.hid hcut
          have d0 := hcut.n.cell 0; have d1 := hcut.n.cell 1; have d2 := hcut.n.cell 2; have d3 := hcut.n.cell 3; have d4 := hcut.n.cell 4; have d5 := hcut.n.cell 5; have hbN := hcut.n.lt
          clear hcut
          clear n0 n1 n2 n3 n4 n5
          generalize wr.heap.size = B at *
          go_upto_region 13 with (at_builtin; refine wpList_append_nodeF (nd := ⟨kind, P, chan, (pa, ps), next⟩) rfl (.tmp 53) (.tmp 55) rfl rfl rfl (HN0.out.t.o1.kept (only_alloc (only_refl _ _) _)) (blk_at (by simp) _ _) (HN0.out.e.kept (only_alloc (only_refl _ _) _)) HN1.out.1 (by have := HN0.out.g.size; simp; omega) ?_; intro v2 W2 hot2 hgr2 hbl2; have hrn := (HN0.out.kept (only_alloc (only_refl _ _) _)).put1 hgr2 hot2 hbl2; have HRN := Lib.hid hrn; have d0 := hrn.n.cell 0; have d1 := hrn.n.cell 1; have d2 := hrn.n.cell 2; have d3 := hrn.n.cell 3; have d4 := hrn.n.cell 4; have d5 := hrn.n.cell 5; have hbN := hrn.n.lt; clear hot2 hgr2 hbl2 hrn)
          go_cut [70] from 31 to 116 (fun cv wx => cv = .bool (act4 kind && decide (0 ≤ P)) ∧ wx = W2.alloc (.cells #[.int .i64 kind, .int .i64 P, .bool chan, .int .i64 pa, .int .i64 ps, .slice A4 next.length c4] 41))
          case first =>
            rcases HC.out with ⟨hk1, hk4, hP, hP0, hP1, hR⟩ | ⟨hk1, hk4, hP, hP0, hP1, hR⟩ | ⟨hk1, hP, hR⟩ | ⟨hk1, hP, hR⟩
            · clear hP hR
              go_wp2_with fail
              go_meet
              exact ⟨by rw [act4_in hk1 hk4, decide_eq_true hP0]; rfl, rfl⟩
            · clear hP hR
              go_wp2_with fail
              go_meet
              exact ⟨by rw [act4_in hk1 hk4, decide_eq_false (by omega : ¬ 0 ≤ P)]; rfl, rfl⟩
            · clear hP hR
              go_wp2_with fail
              go_meet
              exact ⟨by rw [act4_lt hk1]; rfl, rfl⟩
            · clear hP hR
              have hk0' : 1 ≤ kind := by omega
              go_wp2_with fail
              go_meet
              exact ⟨by rw [act4_gt hk1]; rfl, rfl⟩
          case rest =>
            obtain ⟨rfl, rfl⟩ := hcut
            go_upto_if 70 with fail
            go_cut [70] from 31 to 116 (fun _ wx => RN W1 wx B ⟨kind, P, chan, (pa, ps), next⟩ (.slice A4 next.length c4) v2 u6 u7 (ta ++ [(⟨kind, P, chan, (pa, ps), next⟩, .slice A4 next.length c4)]) tb tc ∧ Blk wx W2.heap.size 41 (ndCells ⟨kind, R, chan, (pa, ps), next⟩ (.slice A4 next.length c4)))
            case first =>
              rcases HC.out with ⟨hk1, hk4, hP, hP0, hP1, rfl⟩ | ⟨hk1, hk4, hP, hP0, hP1, rfl⟩ | ⟨hk1, hP, rfl⟩ | ⟨hk1, hP, rfl⟩
              · clear hP
                have hAct : (act4 kind && decide (0 ≤ P)) = true := by rw [act4_in hk1 hk4, decide_eq_true hP0]; rfl
                rw [hAct]
                clear hAct
                go_wp2_with fail
                go_meet
                exact ⟨HRN.out.kept (only_alloc (only_refl _ _) _), Blk.new _ _ _⟩
              · clear hP
                have hAct : (act4 kind && decide (0 ≤ P)) = false := by rw [act4_in hk1 hk4, decide_eq_false (by omega : ¬ 0 ≤ P)]; rfl
                rw [hAct]
                clear hAct
                go_wp2_with fail
                go_meet
                exact ⟨HRN.out.kept (only_alloc (only_refl _ _) _), Blk.new _ _ _⟩
              · clear hP
                have hAct : (act4 kind && decide (0 ≤ P)) = false := by rw [act4_lt hk1]; rfl
                rw [hAct]
                clear hAct
                go_wp2_with fail
                go_meet
                exact ⟨HRN.out.kept (only_alloc (only_refl _ _) _), Blk.new _ _ _⟩
              · clear hP
                have hAct : (act4 kind && decide (0 ≤ P)) = false := by rw [act4_gt hk1]; rfl
                rw [hAct]
                clear hAct
                go_wp2_with fail
                go_meet
                exact ⟨HRN.out.kept (only_alloc (only_refl _ _) _), Blk.new _ _ _⟩
            case rest =>
              have HM := Lib.hid hcut
              have r0 := hcut.2.cell 0; have r1 := hcut.2.cell 1; have r2 := hcut.2.cell 2; have r3 := hcut.2.cell 3; have r4 := hcut.2.cell 4; have r5 := hcut.2.cell 5; have hbR := hcut.2.lt
              clear d0 d1 d2 d3 d4 d5
              have hb2 := hbN
              clear hcut
              have HBN := Lib.hid hbN
              clear hbN
              go_wp2_with (at_builtin; refine wpList_append_nodeF (nd := ⟨kind, R, chan, (pa, ps), next⟩) rfl (.tmp 77) (.tmp 79) rfl rfl rfl (HM.out.1.t.o2.kept (only_alloc (only_refl _ _) _)) (blk_at (by simp) _ _) (HM.out.1.e.kept (only_alloc (only_refl _ _) _)) HN1.out.2.1 (by have := HM.out.1.g.size; simp; omega) ?_; intro v3 W3 hot3 hgr3 hbl3; have hrn := ((HM.out.1.kept (only_alloc (only_refl _ _) _)).rot.put1 hgr3 hot3 hbl3).rot.rot; have HRM := Lib.hid hrn; have d0 := hrn.n.cell 0; have d1 := hrn.n.cell 1; have d2 := hrn.n.cell 2; have d3 := hrn.n.cell 3; have d4 := hrn.n.cell 4; have d5 := hrn.n.cell 5; have hbM := hrn.n.lt; clear hot3 hgr3 hbl3 hrn)
              have hnI : (next.length : Int) ≤ 9 := by omega
              have HSB : Hid (SB W3 ⟨kind, P, chan, (pa, ps), []⟩ (.slice none 0 0) (W3.alloc (.cells (ndCells ⟨kind, P, chan, (pa, ps), []⟩ (.slice none 0 0)) 41))) := SB.start _ _ _ _ _
              clear d0 d1 d2 d3 d4 d5 r0 r1 r2 r3 r4 r5 hbR hb2
              have HBW : Hid (B < W3.heap.size) := hbM
              clear hbM
              go_loopw [12, 13] (fun j _ W => ∃ (q : Nat) (ev : Value), q ≤ next.length ∧ j = .int .i64 (q : Int) ∧ SB W3 ⟨kind, P, chan, (pa, ps), (next.take q).map steepE⟩ ev W) (fun j _ _ => 16 - (intOf j).toNat)
              case atStart => exact ⟨0, _, Nat.zero_le _, rfl, HSB.out⟩
              case round =>
                clear HSB
                obtain ⟨q, ev, hq, rfl, hsb⟩ := hrel
                have hrm := HRM.out.kept hsb.step
                have s5 : wr.cell? ⟨B, 5, none⟩ = some (.slice A4 next.length c4) := hrm.n.cell 5
                have p5 : wr.cell? ⟨W3.heap.size, 5, none⟩ = some ev := hsb.box.cell 5
                have f5 : wr.frozen? ⟨W3.heap.size, 5, none⟩ = false := hsb.box.frozen 5
                have hW3 : W3.heap.size < wr.heap.size := hsb.box.lt
                have hlv := hsb.own.len
                have HS := Lib.hid hsb
                have HR := Lib.hid hrm
                clear hsb
                have hlq : ((next.take q).map steepE).length = q := by simp; omega
                obtain ⟨A5, c5, hev⟩ := hlv
                have hev2 : ev = .slice A5 q c5 := by
                  rw [hev]
                  show Value.slice A5 (((next.take q).map steepE).length) c5 = _
                  rw [hlq]
                clear hev
                subst hev2
                have hF : ((next.take q).map steepE).length ≤ 1000 := by simp; omega
                have HF := Lib.hid hF
                have HLQ := Lib.hid hlq
                clear hF hlq
                by_cases hql : q < next.length
                · obtain ⟨⟨ea, es⟩, he⟩ : ∃ e, next[q]? = some e := ⟨_, List.getElem?_eq_getElem hql⟩
                  obtain ⟨A', c', hA, _, hcl⟩ := hrm.e
                  obtain ⟨b5, off5, hb5, _, hce⟩ := hcl (by intro e0; dsimp only at e0; rw [e0] at hql; simp at hql)
                  obtain ⟨rfl, rfl⟩ : A4 = A' ∧ c4 = c' := by simpa using hA
                  subst hb5
                  obtain ⟨e0, e1⟩ := hce q _ he
                  have HEQ := Lib.hid he
                  have hqI : (q : Int) < (next.length : Int) := by omega
                  have hq0 : (0 : Int) ≤ (q : Int) := by omega
                  clear hcl hce hA he hrm
                  obtain ⟨S, hS⟩ : ∃ S, steepE (ea, es) = (ea, S) := ⟨(steepE (ea, es)).2, Prod.ext (steepE_to _) rfl⟩
                  have HSE := Lib.hid hS
                  clear hS
                  go_upto_region 22 with fail
                  go_cut [102] from 83 to 112 (fun cv wx => cv = .bool (decide (0 ≤ es) && decide (es < 900)) ∧ wx = wr.alloc (.cells #[.int .i64 ea, .int .i64 es] 24))
                  case first =>
                    rcases (show (0 ≤ es ∧ es < 900) ∨ es < 0 ∨ 900 ≤ es by omega) with ⟨hs0, hs1⟩ | hs0 | hs0
                    · go_wp2_with fail
                      go_meet
                      exact ⟨by rw [decide_eq_true hs0, decide_eq_true hs1]; rfl, rfl⟩
                    · go_wp2_with fail
                      go_meet
                      exact ⟨by rw [decide_eq_false (by omega : ¬ 0 ≤ es)]; rfl, rfl⟩
                    · have hs2 : 0 ≤ es := by omega
                      go_wp2_with fail
                      go_meet
                      exact ⟨by rw [decide_eq_false (by omega : ¬ es < 900), Bool.and_false], rfl⟩
                  case rest =>
                    obtain ⟨rfl, rfl⟩ := hcut
                    go_upto_if 102 with fail
                    go_cut [102] from 83 to 112 (fun _ wx => wx = wr.alloc (.cells #[.int .i64 ea, .int .i64 S] 24))
                    case first =>
                      rcases (show (0 ≤ es ∧ es < 900) ∨ es < 0 ∨ 900 ≤ es by omega) with ⟨hs0, hs1⟩ | hs0 | hs0
                      · rw [show (decide (0 ≤ es) && decide (es < 900)) = true by rw [decide_eq_true hs0, decide_eq_true hs1]; rfl]
                        go_wp2_with fail
                        go_meet
                        have : S = es + 1 := by have h := HSE.out; simp only [steepE, if_pos (And.intro hs0 hs1), Prod.mk.injEq, true_and] at h; exact h.symm
                        rw [this]
                      · rw [show (decide (0 ≤ es) && decide (es < 900)) = false by rw [decide_eq_false (by omega : ¬ 0 ≤ es)]; rfl]
                        go_wp2_with fail
                        go_meet
                        have : S = es := by have h := HSE.out; simp only [steepE, if_neg (fun h : 0 ≤ es ∧ es < 900 => absurd h.1 (by omega)), Prod.mk.injEq, true_and] at h; exact h.symm
                        rw [this]
                      · rw [show (decide (0 ≤ es) && decide (es < 900)) = false by rw [decide_eq_false (by omega : ¬ es < 900), Bool.and_false]]
                        go_wp2_with fail
                        go_meet
                        have : S = es := by have h := HSE.out; simp only [steepE, if_neg (fun h : 0 ≤ es ∧ es < 900 => absurd h.2 (by omega)), Prod.mk.injEq, true_and] at h; exact h.symm
                        rw [this]
                    case rest =>
                      subst hcut
                      go_upto_region 20 with (at_builtin; refine wpList_append_edge (e := (ea, S)) rfl (.tmp 108) (.tmp 110) rfl rfl rfl ((HS.out.kept (only_alloc (only_alloc (only_refl _ _) _) _)).own) (blk_at (by simp) _ _) HF.out (by have := hW3; simp; omega) ?_; intro v' W' h1 h2; obtain ⟨A6, c6, hv6⟩ := h1.len; have hv7 : v' = .slice A6 (q + 1) c6 := by { rw [hv6, List.length_append]; show Value.slice A6 (((next.take q).map steepE).length + 1) c6 = _; rw [HLQ.out] }; clear hv6; subst hv7; have HNX := Lib.hid ((HS.out.kept (only_alloc (only_alloc (only_refl _ _) _) _)).next h2 h1); have hgr := ((HS.out.kept (only_alloc (only_alloc (only_refl _ _) _) _)).grown h2).2; have q5 : W'.cell? ⟨W3.heap.size, 5, none⟩ = some (.slice A5 q c5) := hgr.cell 5; have g5 : W'.frozen? ⟨W3.heap.size, 5, none⟩ = false := hgr.frozen 5; clear h1 h2 hgr)
                      go_wp2_with fail
                      go_roundw
                      case rel =>
                        refine ⟨q + 1, .slice A6 (q + 1) c6, by omega, by go_num, ?_⟩
                        rw [steep_take HEQ.out, HSE.out]
                        exact HNX.out
                      case measure => simp [intOf]; omega
                · have hqe : q = next.length := by omega
                  have hqI : (next.length : Int) ≤ (q : Int) := by omega
                  have HQE := Lib.hid hqe
                  clear hqe
                  have HHR := Lib.hid hrm
                  have s0 := HS.out.box.cell 0; have s1 := HS.out.box.cell 1; have s2 := HS.out.box.cell 2; have s3 := HS.out.box.cell 3; have s4 := HS.out.box.cell 4
                  clear hrm
                  go_upto_region 7 with (at_builtin; refine wpList_append_nodeF (nd := ⟨kind, P, chan, (pa, ps), (next.take q).map steepE⟩) rfl (.tmp 113) (.tmp 115) rfl rfl rfl (HHR.out.t.o3.kept (only_alloc (only_refl _ _) _)) (blk_at (by simp) _ _) (((HS.out.own.base_ (Nat.le_trans HRM.out.g.size (Nat.le_succ _))).kept0 (only_alloc (only_refl _ _) _)).edges HF.out) HN1.out.2.2 (by have := HHR.out.g.size; simp; omega) ?_; intro v4 W4 hot4 hgr4 hbl4; have hrn := ((HHR.out.kept (only_alloc (only_refl _ _) _)).rot.rot.put1 hgr4 hot4 hbl4).rot; have HRF := Lib.hid hrn; clear hot4 hgr4 hbl4 hrn)
                  go_wp2_with fail
                  go_roundw
                  case rel => exact ⟨k + 1, by omega, by go_num, l3_step HTA.out HTB.out HTC.out HLA.out HLB.out HLC.out HX.out HLO.out HHI.out (by rw [HLO.out]; show (⟨kind, P, chan, (pa, ps), next.map steepE⟩ : Nd) = _; rw [HQE.out, List.take_length]) HRF.out.t HRF.out.g⟩
                  case measure => simp [intOf]; omega
    · have hke : k = zs.length := by omega
      have HKE := Lib.hid hke
      have hkI : (zs.length : Int) ≤ (k : Int) := by omega
      clear hke
      obtain ⟨a, e, f, g, hO1, hO2, hO3, hO4, hBK⟩ := shift_told zs hm0 hm1
      have HO1 := Lib.hid hO1
      have HO2 := Lib.hid hO2
      have HO3 := Lib.hid hO3
      have HO4 := Lib.hid hO4
      have HBK := Lib.hid hBK
      clear hO1 hO2 hO3 hO4 hBK
      have HT1 : Hid (Tbl wr u5 (zs.map lowN)) := by have h := H3.out.o1.tbl; rw [HTA.out, HKE.out, List.take_length] at h; exact h
      have HT2 : Hid (Tbl wr u6 (zs.map (fun x => highN more (lowN x)))) := by have h := H3.out.o2.tbl; rw [HTB.out, HKE.out, List.take_length] at h; exact h
      have HT3 : Hid (Tbl wr u7 (zs.map (fun x => steepN (lowN x)))) := by have h := H3.out.o3.tbl; rw [HTC.out, HKE.out, List.take_length] at h; exact h
      clear H3 HTA HTB HTC HLA HLB HLC
      go_upto_region 27 with (go_at_call 9; go_must (refine (ocheck_is HO1.out HT1.out (by rw [List.length_map]; exact HZ2.out)).mono ?_; rintro en W4 ⟨rfl, hg4⟩; have HG4 := Lib.hid hg4; clear hg4))
      go_upto_region 28 with (go_at_call 9; go_must (refine (ocheck_is HO2.out (HT2.out.keep (.grown HG4.out)) (by rw [List.length_map]; exact HZ2.out)).mono ?_; rintro en W5 ⟨rfl, hg5⟩; have HG5 := Lib.hid (only_trans HG4.out hg5); clear hg5))
      go_upto_region 29 with (go_at_call 9; go_must (refine (ocheck_is HO3.out (HT3.out.keep (.grown HG5.out)) (by rw [List.length_map]; exact HZ2.out)).mono ?_; rintro en W6 ⟨rfl, hg6⟩; have HG6 := Lib.hid (only_trans HG5.out hg6); clear hg6))
      go_cut [147] from 117 to 147 (fun cv wx => cv = .bool false ∧ wx = W6)
      case first =>
        by_cases he : e = 0
        · obtain rfl : g = 0 := HO4.out he
          subst he
          go_wp2_with fail
          go_meet
          exact ⟨rfl, rfl⟩
        · have he1 : (e == 0) = false := by simp [he]
          have he2 : decide (e = 0) = false := decide_eq_false he
          go_wp2_with fail
          go_meet
          exact ⟨rfl, rfl⟩
      case rest =>
        obtain ⟨rfl, rfl⟩ := hcut
        have HQ : Hid (w.grownBy wc none) := Lib.hid (only_trans HW1.out (only_trans HG.out HG6.out))
        have HU1 : Hid (Tbl wc u5 (zs.map lowN)) := HT1.out.keep (.grown HG6.out)
        have HU2 : Hid (Tbl wc u6 (zs.map (fun x => highN more (lowN x)))) := HT2.out.keep (.grown HG6.out)
        have HU3 : Hid (Tbl wc u7 (zs.map (fun x => steepN (lowN x)))) := HT3.out.keep (.grown HG6.out)
        clear HT1 HT2 HT3 HG4 HG5
        go_wp2_with fail
        go_loopw [20] (fun i wr => ∃ k : Nat, k ≤ zs.length ∧ i = .int .i64 (k : Int) ∧ wc.grownBy wr none) (fun i _ => 16 - (intOf i).toNat)
        case atStart => exact ⟨0, Nat.zero_le _, rfl, only_refl _ _⟩
        case round =>
          obtain ⟨k, hk, rfl, hs⟩ := hrel
          have HS := Lib.hid hs
          clear hs
          by_cases hlt : k < zs.length
          · have hk0 : (0 : Int) ≤ (k : Int) := by omega
            have hk1 : (k : Int) < (zs.length : Int) := by omega
            have hl16 : (zs.length : Int) ≤ 16 := by have := HZ.out; omega
            obtain ⟨x, is, z, az, hB1, hB2, hB3, hB4⟩ := HBK.out k
            have HB1 := Lib.hid hB1
            have HB2 := Lib.hid hB2
            have HB3 := Lib.hid hB3
            have HB4 := Lib.hid hB4
            clear hB1 hB2 hB3 hB4
            go_upto_region 35 with (go_at_call 14; go_must (refine (oback_is HB1.out (HU1.out.keep (.grown HS.out)) (by rw [List.length_map]; exact HZ2.out)).mono ?_; rintro en W7 ⟨rfl, hg7⟩; have HG7 := Lib.hid (only_trans HS.out hg7); clear hg7))
            go_upto_region 36 with (go_at_call 14; go_must (refine (oback_is HB2.out (HU2.out.keep (.grown HG7.out)) (by rw [List.length_map]; exact HZ2.out)).mono ?_; rintro en W8 ⟨rfl, hg8⟩; have HG8 := Lib.hid (only_trans HG7.out hg8); clear hg8))
            go_upto_region 37 with (go_at_call 14; go_must (refine (oback_is HB3.out (HU3.out.keep (.grown HG8.out)) (by rw [List.length_map]; exact HZ2.out)).mono ?_; rintro en W9 ⟨rfl, hg9⟩; have HG9 := Lib.hid (only_trans HG8.out hg9); clear hg9))
            go_cut [196] from 148 to 196 (fun cv wx => cv = .bool false ∧ wx = W9)
            case first =>
              by_cases he : e = 0
              · obtain ⟨rfl, hxz⟩ := HB4.out he
                subst he
                cases az
                · clear hxz
                  go_wp2_with fail
                  go_meet
                  exact ⟨rfl, rfl⟩
                · have hxz2 : x ≤ z := hxz rfl
                  clear hxz
                  have hxz3 : ¬ z < x := by omega
                  go_wp2_with fail
                  go_meet
                  exact ⟨rfl, rfl⟩
              · have he1 : (e == 0) = false := by simp [he]
                have he2 : decide (e = 0) = false := decide_eq_false he
                go_wp2_with fail
                go_meet
                exact ⟨rfl, rfl⟩
            case rest =>
              obtain ⟨rfl, rfl⟩ := hcut
              go_wp2_with fail
              go_roundw
              case rel => exact ⟨k + 1, by omega, by go_num, HG9.out⟩
              case measure => simp [intOf]; omega
          · have hge : (zs.length : Int) ≤ (k : Int) := by omega
            have hge2 : decide (k < zs.length) = false := decide_eq_false hlt
            clear hk hlt
            go_wp2_with fail
            go_ret
            exact ⟨rfl, only_trans HQ.out HS.out⟩
end Go.Proofs.Ytablbgfleopbfaa

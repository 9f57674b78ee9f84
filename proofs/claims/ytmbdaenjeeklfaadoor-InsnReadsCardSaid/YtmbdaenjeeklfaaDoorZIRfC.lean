/- The document's answer for instructions (colloquyref09): Check: what it answers, and what it leaves. -/
import Derived.Test.YtmbdaenjeeklfaaDoorZInP
import Derived.Deep.CutBlock
import Derived.Deep.DeepCutAuto
namespace Go.Proofs.YtmbdaenjeeklfaaDoor
open Go.RowKit

def pA (c : Kl) (x : Ins) : Bool := match c with
  | .push => true
  | _ => x.a == 0
def pB (c : Kl) (x : Ins) : Bool := match c with
  | .one => inZ x.b 15
  | .two => inZ x.b 15
  | .select => inZ x.b 15
  | .branch => inZ x.b 15
  | .spawn => inZ x.b 15
  | .new_ => inZ x.b 63
  | _ => x.b == 0
def pC (c : Kl) (x : Ins) : Bool := match c with
  | .two => inZ x.c 15 && x.b != x.c
  | .select => inZ x.c 7
  | _ => x.c == 0
def pD (c : Kl) (x : Ins) : Bool := match c with
  | .new_ => inZ x.d 1000
  | _ => x.d == 0
def pL (c : Kl) (x : Ins) : Bool := match c with
  | .jump => decide (x.l.length = 1) && allB x.l 127
  | .branch => decide (1 ≤ x.l.length) && decide (x.l.length ≤ 8) && allB x.l 127
  | .new_ => decide (x.l.length = 2) && allB x.l 15 && unlB x.l
  | .spawn => decide (x.l.length ≤ 8) && allB x.l 15 && unlB x.l
  | _ => decide (x.l.length = 0)
theorem okR_parts (c : Kl) (x : Ins) (hc : c ≠ .no) : okR c x = (pA c x && pB c x && pC c x && pD c x && pL c x) := by
  cases c
  case no => exact absurd rfl hc
  all_goals simp [okR, pA, pB, pC, pD, pL, Bool.and_assoc]
theorem clI_of {op : Int} (h0 : 0 ≤ op) (h1 : op ≤ 24) : clI op ≠ .no := by
  obtain ⟨n, rfl⟩ : ∃ n : Nat, op = (n : Int) := ⟨op.toNat, by omega⟩
  have hn : n ≤ 24 := by omega
  have : clI (n : Int) = clN n := by
    unfold clI
    rw [if_neg (by omega)]
    rfl
  rw [this]
  clear h0 h1 this
  rcases (by omega : n = 0 ∨ n = 1 ∨ n = 2 ∨ n = 3 ∨ n = 4 ∨ n = 5 ∨ n = 6 ∨ n = 7 ∨ n = 8 ∨ n = 9 ∨ n = 10 ∨ n = 11 ∨ n = 12 ∨ n = 13 ∨ n = 14 ∨ n = 15 ∨ n = 16 ∨ n = 17 ∨ n = 18 ∨ n = 19 ∨ n = 20 ∨ n = 21 ∨ n = 22 ∨ n = 23 ∨ n = 24) with rfl | rfl | rfl | rfl | rfl | rfl | rfl | rfl | rfl | rfl | rfl | rfl | rfl | rfl | rfl | rfl | rfl | rfl | rfl | rfl | rfl | rfl | rfl | rfl | rfl <;> (intro e; cases e)
theorem clI_no {op : Int} (h : op < 0 ∨ 24 < op) : clI op = .no := by
  unfold clI
  split
  · rfl
  · obtain ⟨n, hn⟩ : ∃ n : Nat, op.toNat = n + 25 := ⟨op.toNat - 25, by omega⟩
    rw [hn]
    rfl
theorem pA_of {op a b c d : Int} {l : List Int} {x : Ins} (o0 : 0 ≤ op) (o1 : op ≤ 24) (hx : x = ⟨op, a, b, c, d, l⟩) (h1 : ¬ op = 1) : pA (clI op) x = (a == 0) := by
  subst hx
  rcases (by omega : op = 0 ∨ op = 2 ∨ op = 3 ∨ op = 4 ∨ op = 5 ∨ op = 6 ∨ op = 7 ∨ op = 8 ∨ op = 13 ∨ op = 24 ∨ op = 9 ∨ op = 10 ∨ op = 14 ∨ op = 15 ∨ op = 22 ∨ op = 16 ∨ op = 17 ∨ op = 23 ∨ op = 11 ∨ op = 12 ∨ op = 18 ∨ op = 19 ∨ op = 20 ∨ op = 21) with rfl | rfl | rfl | rfl | rfl | rfl | rfl | rfl | rfl | rfl | rfl | rfl | rfl | rfl | rfl | rfl | rfl | rfl | rfl | rfl | rfl | rfl | rfl | rfl <;> rfl
theorem len_eq (l : List Int) (n : Nat) : ((l.length : Int) == (n : Int)) = decide (l.length = n) := by
  rw [Bool.eq_iff_iff]
  simp
  omega
theorem two_true {b c : Int} (h : inZ c 15 = true) : (b != c) = (inZ c 15 && b != c) := by rw [h, Bool.true_and]
theorem two_false {b c : Int} (h : inZ c 15 = false) : false = (inZ c 15 && b != c) := by rw [h, Bool.false_and]
theorem jump_yes {l : List Int} (h : l.length = 1) : allB l 127 = (decide (l.length = 1) && allB l 127) := by rw [decide_eq_true h, Bool.true_and]
theorem jump_no {l : List Int} (h : ¬ l.length = 1) : false = (decide (l.length = 1) && allB l 127) := by rw [decide_eq_false h, Bool.false_and]
theorem branch_yes {l : List Int} (h : 1 ≤ l.length) (h2 : l.length ≤ 8) : allB l 127 = (decide (1 ≤ l.length) && decide (l.length ≤ 8) && allB l 127) := by rw [decide_eq_true h, decide_eq_true h2, Bool.true_and, Bool.true_and]
theorem branch_no {l : List Int} (h : ¬ (1 ≤ l.length ∧ l.length ≤ 8)) : false = (decide (1 ≤ l.length) && decide (l.length ≤ 8) && allB l 127) := by
  rw [← Bool.decide_and, decide_eq_false h, Bool.false_and]
theorem new_yes {l : List Int} (h : l.length = 2) (ha : allB l 15 = true) : unlB l = (decide (l.length = 2) && allB l 15 && unlB l) := by rw [decide_eq_true h, ha, Bool.true_and, Bool.true_and]
theorem new_not {l : List Int} (ha : allB l 15 = false) : false = (decide (l.length = 2) && allB l 15 && unlB l) := by rw [ha, Bool.and_false, Bool.false_and]
theorem new_no {l : List Int} (h : ¬ l.length = 2) : false = (decide (l.length = 2) && allB l 15 && unlB l) := by rw [decide_eq_false h, Bool.false_and, Bool.false_and]
theorem spawn_yes {l : List Int} (h : l.length ≤ 8) (ha : allB l 15 = true) : unlB l = (decide (l.length ≤ 8) && allB l 15 && unlB l) := by rw [decide_eq_true h, ha, Bool.true_and, Bool.true_and]
theorem spawn_not {l : List Int} (ha : allB l 15 = false) : false = (decide (l.length ≤ 8) && allB l 15 && unlB l) := by rw [ha, Bool.and_false, Bool.false_and]
theorem spawn_no {l : List Int} (h : ¬ l.length ≤ 8) : false = (decide (l.length ≤ 8) && allB l 15 && unlB l) := by rw [decide_eq_false h, Bool.false_and, Bool.false_and]
set_option maxRecDepth 100000 in
set_option maxHeartbeats 40000000 in
theorem rcheck_any (s : Sg) (op : Int) (w : World) (hl : IntsA (fun b => b < w.heap.size) w s.lv s.l) (hn : s.l.length ≤ 1000) :
    Calls Tryd.prog 37 #[.agg (s.cells op)] w fun e w' => e = .returned (.int .i64 (chkI (s.ins op))) ∧ w.grownBy w' none := by
  by_cases hop : 0 ≤ op ∧ op ≤ 24
  · obtain ⟨o0, o1⟩ := hop
    have hcl := clI_of o0 o1
    rw [show chkI (s.ins op) = if okR (clI op) (s.ins op) = true then 0 else 2 from chkC_doc _ _ hcl, okR_parts _ _ hcl]
    obtain ⟨a, b, c, d, lv, l⟩ := s
    have HL0 : IntsA (fun b => b < w.heap.size) w lv l := hl
    obtain ⟨A, cp, hlv, _⟩ := hl
    dsimp only at hlv
    subst hlv
    have HAll : Hid (∀ (m : Int) (W : World), w.grownBy W none → Calls Tryd.prog 56 #[.slice A l.length cp, .int .i64 m] W fun e w' => e = .returned (.bool (allB l m)) ∧ W.grownBy w' none) := fun m W hg => rall_any l _ m W (HL0.row hg (fun _ _ e => by cases e)) hn
    have HUnl : Hid (∀ (W : World), w.grownBy W none → Calls Tryd.prog 57 #[.slice A l.length cp] W fun e w' => e = .returned (.bool (unlB l)) ∧ W.grownBy w' none) := fun W hg => runlike_any l _ W (HL0.row hg (fun _ _ e => by cases e)) hn
    clear HL0
    unfold Sg.cells Sg.ins
    dsimp only at hn ⊢
    have h0 : w.grownBy (w.alloc (.cells #[.int .i64 op, .int .i64 a, .int .i64 b, .int .i64 c, .int .i64 d, .slice A l.length cp] 24)) none := only_alloc (only_refl _ _) _
    have hb := Blk.new w 24 #[.int .i64 op, .int .i64 a, .int .i64 b, .int .i64 c, .int .i64 d, .slice A l.length cp]
    obtain ⟨x, hx⟩ : ∃ x : Ins, x = ⟨op, a, b, c, d, l⟩ := ⟨_, rfl⟩
    rw [← hx]
    obtain ⟨r, hr⟩ : ∃ r : Int, (if (pA (clI op) x && pB (clI op) x && pC (clI op) x && pD (clI op) x && pL (clI op) x) = true then (0 : Int) else 2) = r := ⟨_, rfl⟩
    rw [hr]
    have HR := Lib.hid hr
    clear hr
    have hne1 : decide (op < 0) = false := by simp; omega
    have hne2 : decide (24 < op) = false := by simp; omega
    have x0 := hb.cell 0
    have x1 := hb.cell 1
    have x2 := hb.cell 2
    have x3 := hb.cell 3
    have x4 := hb.cell 4
    have x5 := hb.cell 5
    have H0 := Lib.hid h0
    have HB := Lib.hid hb
    clear h0 hb hcl
    by_cases h1 : op = 1
    · go_enter Tryd.func37, Tryd.ntmps37
      go_upto_region 4 with fail
      go_quiet (fail)
      go_upto_block 0 with fail
      go_cut [4, 5, 6, 7] from 39 to 145 (fun v4 v5 v6 v7 wx => v4 = .bool (pB (clI op) x) ∧ v5 = .bool (pC (clI op) x) ∧ v6 = .bool (pD (clI op) x) ∧ v7 = .bool (pL (clI op) x) ∧ w.grownBy wx none)
      case first =>
        have H0' := Lib.hid (only_drewN H0.out nq)
        clear hne1 hne2
        subst h1
        go_wp2_with fail
        go_meet
        exact ⟨by rw [hx]; rfl, by rw [hx]; rfl, by rw [hx]; rfl, by rw [hx]; exact congrArg _ (len_eq l 0), H0'.out⟩
      case rest =>
        obtain ⟨rfl, rfl, rfl, rfl, hg⟩ := hcut
        have HG := Lib.hid hg
        clear hg x0 x1 x2 x3 x4 x5
        have hA : Hid (pA (clI op) x = true) := Lib.hid (by rw [h1]; rfl)
        clear hx hn o0 o1 h1 hne1 hne2
        cases hB : pB (clI op) x with
        | false =>
          have HZ := Lib.hid hB
          go_wp2_with fail
          go_ret
          exact ⟨by rw [← HR.out, hA.out, HZ.out]; rfl, HG.out⟩
        | true =>
          have HhB := Lib.hid hB
          cases hC : pC (clI op) x with
          | false =>
            have HZ := Lib.hid hC
            go_wp2_with fail
            go_ret
            exact ⟨by rw [← HR.out, hA.out, HhB.out, HZ.out]; rfl, HG.out⟩
          | true =>
            have HhC := Lib.hid hC
            cases hD : pD (clI op) x with
            | false =>
              have HZ := Lib.hid hD
              go_wp2_with fail
              go_ret
              exact ⟨by rw [← HR.out, hA.out, HhB.out, HhC.out, HZ.out]; rfl, HG.out⟩
            | true =>
              have HhD := Lib.hid hD
              cases hL : pL (clI op) x with
              | false =>
                have HZ := Lib.hid hL
                go_wp2_with fail
                go_ret
                exact ⟨by rw [← HR.out, hA.out, HhB.out, HhC.out, HhD.out, HZ.out]; rfl, HG.out⟩
              | true =>
                have HhL := Lib.hid hL
                go_wp2_with fail
                go_ret
                exact ⟨by rw [← HR.out, hA.out, HhB.out, HhC.out, HhD.out, HhL.out]; rfl, HG.out⟩
    · have hb1 : (op == 1) = false := by simpa using h1
      go_enter Tryd.func37, Tryd.ntmps37
      go_upto_region 4 with fail
      go_quiet (fail)
      go_upto_block 0 with fail
      go_cut [4, 5, 6, 7] from 39 to 145 (fun v4 v5 v6 v7 wx => v4 = .bool (pB (clI op) x) ∧ v5 = .bool (pC (clI op) x) ∧ v6 = .bool (pD (clI op) x) ∧ v7 = .bool (pL (clI op) x) ∧ w.grownBy wx none)
      case first =>
        have hcases : op = 0 ∨ op = 2 ∨ op = 3 ∨ op = 4 ∨ op = 5 ∨ op = 6 ∨ op = 7 ∨ op = 8 ∨ op = 13 ∨ op = 24 ∨ op = 9 ∨ op = 10 ∨ op = 14 ∨ op = 15 ∨ op = 22 ∨ op = 16 ∨ op = 17 ∨ op = 23 ∨ op = 11 ∨ op = 12 ∨ op = 18 ∨ op = 19 ∨ op = 20 ∨ op = 21 := by omega
        have H0' := Lib.hid (only_drewN H0.out nq)
        clear hne1 hne2 hb1
        rcases hcases with rfl | rfl | rfl | rfl | rfl | rfl | rfl | rfl | rfl | rfl | rfl | rfl | rfl | rfl | rfl | rfl | rfl | rfl | rfl | rfl | rfl | rfl | rfl | rfl
        · go_wp2_with fail
          go_meet
          exact ⟨by rw [hx]; rfl, by rw [hx]; rfl, by rw [hx]; rfl, by rw [hx]; exact congrArg _ (len_eq l 0), H0'.out⟩
        · go_wp2_with fail
          go_meet
          exact ⟨by rw [hx]; rfl, by rw [hx]; rfl, by rw [hx]; rfl, by rw [hx]; exact congrArg _ (len_eq l 0), H0'.out⟩
        · go_wp2_with fail
          go_meet
          exact ⟨by rw [hx]; rfl, by rw [hx]; rfl, by rw [hx]; rfl, by rw [hx]; exact congrArg _ (len_eq l 0), H0'.out⟩
        · go_wp2_with fail
          go_meet
          exact ⟨by rw [hx]; rfl, by rw [hx]; rfl, by rw [hx]; rfl, by rw [hx]; exact congrArg _ (len_eq l 0), H0'.out⟩
        · go_wp2_with fail
          go_meet
          exact ⟨by rw [hx]; rfl, by rw [hx]; rfl, by rw [hx]; rfl, by rw [hx]; exact congrArg _ (len_eq l 0), H0'.out⟩
        · go_wp2_with fail
          go_meet
          exact ⟨by rw [hx]; rfl, by rw [hx]; rfl, by rw [hx]; rfl, by rw [hx]; exact congrArg _ (len_eq l 0), H0'.out⟩
        · go_wp2_with fail
          go_meet
          exact ⟨by rw [hx]; rfl, by rw [hx]; rfl, by rw [hx]; rfl, by rw [hx]; exact congrArg _ (len_eq l 0), H0'.out⟩
        · go_wp2_with fail
          go_meet
          exact ⟨by rw [hx]; rfl, by rw [hx]; rfl, by rw [hx]; rfl, by rw [hx]; exact congrArg _ (len_eq l 0), H0'.out⟩
        · go_wp2_with fail
          go_meet
          exact ⟨by rw [hx]; rfl, by rw [hx]; rfl, by rw [hx]; rfl, by rw [hx]; exact congrArg _ (len_eq l 0), H0'.out⟩
        · go_wp2_with fail
          go_meet
          exact ⟨by rw [hx]; rfl, by rw [hx]; rfl, by rw [hx]; rfl, by rw [hx]; exact congrArg _ (len_eq l 0), H0'.out⟩
        · go_wp2_with fail
          refine (rin_any _ _ _).mono ?_
          rintro e w1 ⟨rfl, hg1⟩
          have HG1 := Lib.hid (only_trans H0'.out hg1)
          have hbk1 := (HB.out.drewN nq).kept hg1
          replace x0 := hbk1.cell 0
          replace x1 := hbk1.cell 1
          replace x2 := hbk1.cell 2
          replace x3 := hbk1.cell 3
          replace x4 := hbk1.cell 4
          replace x5 := hbk1.cell 5
          clear hg1
          go_wp2_with fail
          go_meet
          exact ⟨by rw [hx]; rfl, by rw [hx]; rfl, by rw [hx]; rfl, by rw [hx]; exact congrArg _ (len_eq l 0), HG1.out⟩
        · go_wp2_with fail
          refine (rin_any _ _ _).mono ?_
          rintro e w1 ⟨rfl, hg1⟩
          have HG1 := Lib.hid (only_trans H0'.out hg1)
          have hbk1 := (HB.out.drewN nq).kept hg1
          replace x0 := hbk1.cell 0
          replace x1 := hbk1.cell 1
          replace x2 := hbk1.cell 2
          replace x3 := hbk1.cell 3
          replace x4 := hbk1.cell 4
          replace x5 := hbk1.cell 5
          clear hg1
          go_wp2_with fail
          go_meet
          exact ⟨by rw [hx]; rfl, by rw [hx]; rfl, by rw [hx]; rfl, by rw [hx]; exact congrArg _ (len_eq l 0), HG1.out⟩
        · go_wp2_with fail
          refine (rin_any _ _ _).mono ?_
          rintro e w1 ⟨rfl, hg1⟩
          have HG1 := Lib.hid (only_trans H0'.out hg1)
          have hbk1 := (HB.out.drewN nq).kept hg1
          replace x0 := hbk1.cell 0
          replace x1 := hbk1.cell 1
          replace x2 := hbk1.cell 2
          replace x3 := hbk1.cell 3
          replace x4 := hbk1.cell 4
          replace x5 := hbk1.cell 5
          clear hg1
          go_wp2_with fail
          go_meet
          exact ⟨by rw [hx]; rfl, by rw [hx]; rfl, by rw [hx]; rfl, by rw [hx]; exact congrArg _ (len_eq l 0), HG1.out⟩
        · go_wp2_with fail
          refine (rin_any _ _ _).mono ?_
          rintro e w1 ⟨rfl, hg1⟩
          have HG1 := Lib.hid (only_trans H0'.out hg1)
          have hbk1 := (HB.out.drewN nq).kept hg1
          replace x0 := hbk1.cell 0
          replace x1 := hbk1.cell 1
          replace x2 := hbk1.cell 2
          replace x3 := hbk1.cell 3
          replace x4 := hbk1.cell 4
          replace x5 := hbk1.cell 5
          clear hg1
          go_wp2_with fail
          go_meet
          exact ⟨by rw [hx]; rfl, by rw [hx]; rfl, by rw [hx]; rfl, by rw [hx]; exact congrArg _ (len_eq l 0), HG1.out⟩
        · go_wp2_with fail
          refine (rin_any _ _ _).mono ?_
          rintro e w1 ⟨rfl, hg1⟩
          have HG1 := Lib.hid (only_trans H0'.out hg1)
          have hbk1 := (HB.out.drewN nq).kept hg1
          replace x0 := hbk1.cell 0
          replace x1 := hbk1.cell 1
          replace x2 := hbk1.cell 2
          replace x3 := hbk1.cell 3
          replace x4 := hbk1.cell 4
          replace x5 := hbk1.cell 5
          clear hg1
          go_wp2_with fail
          go_meet
          exact ⟨by rw [hx]; rfl, by rw [hx]; rfl, by rw [hx]; rfl, by rw [hx]; exact congrArg _ (len_eq l 0), HG1.out⟩
        · go_wp2_with fail
          refine (rin_any _ _ _).mono ?_
          rintro e w1 ⟨rfl, hg1⟩
          have HG1 := Lib.hid (only_trans H0'.out hg1)
          have hbk1 := (HB.out.drewN nq).kept hg1
          replace x0 := hbk1.cell 0
          replace x1 := hbk1.cell 1
          replace x2 := hbk1.cell 2
          replace x3 := hbk1.cell 3
          replace x4 := hbk1.cell 4
          replace x5 := hbk1.cell 5
          clear hg1
          go_wp2_with fail
          refine (rin_any _ _ _).mono ?_
          rintro e w2 ⟨rfl, hg2⟩
          have HG2 := Lib.hid (only_trans HG1.out hg2)
          have hbk2 := hbk1.kept hg2
          replace x0 := hbk2.cell 0
          replace x1 := hbk2.cell 1
          replace x2 := hbk2.cell 2
          replace x3 := hbk2.cell 3
          replace x4 := hbk2.cell 4
          replace x5 := hbk2.cell 5
          clear hg2
          cases hcz : inZ c 15 with
          | true =>
            go_wp2_with fail
            go_meet
            exact ⟨by rw [hx]; rfl, by rw [hx]; exact congrArg _ (two_true hcz), by rw [hx]; rfl, by rw [hx]; exact congrArg _ (len_eq l 0), HG2.out⟩
          | false =>
            go_wp2_with fail
            go_meet
            exact ⟨by rw [hx]; rfl, by rw [hx]; exact congrArg _ (two_false hcz), by rw [hx]; rfl, by rw [hx]; exact congrArg _ (len_eq l 0), HG2.out⟩
        · go_wp2_with fail
          refine (rin_any _ _ _).mono ?_
          rintro e w1 ⟨rfl, hg1⟩
          have HG1 := Lib.hid (only_trans H0'.out hg1)
          have hbk1 := (HB.out.drewN nq).kept hg1
          replace x0 := hbk1.cell 0
          replace x1 := hbk1.cell 1
          replace x2 := hbk1.cell 2
          replace x3 := hbk1.cell 3
          replace x4 := hbk1.cell 4
          replace x5 := hbk1.cell 5
          clear hg1
          go_wp2_with fail
          refine (rin_any _ _ _).mono ?_
          rintro e w2 ⟨rfl, hg2⟩
          have HG2 := Lib.hid (only_trans HG1.out hg2)
          have hbk2 := hbk1.kept hg2
          replace x0 := hbk2.cell 0
          replace x1 := hbk2.cell 1
          replace x2 := hbk2.cell 2
          replace x3 := hbk2.cell 3
          replace x4 := hbk2.cell 4
          replace x5 := hbk2.cell 5
          clear hg2
          cases hcz : inZ c 15 with
          | true =>
            go_wp2_with fail
            go_meet
            exact ⟨by rw [hx]; rfl, by rw [hx]; exact congrArg _ (two_true hcz), by rw [hx]; rfl, by rw [hx]; exact congrArg _ (len_eq l 0), HG2.out⟩
          | false =>
            go_wp2_with fail
            go_meet
            exact ⟨by rw [hx]; rfl, by rw [hx]; exact congrArg _ (two_false hcz), by rw [hx]; rfl, by rw [hx]; exact congrArg _ (len_eq l 0), HG2.out⟩
        · go_wp2_with fail
          refine (rin_any _ _ _).mono ?_
          rintro e w1 ⟨rfl, hg1⟩
          have HG1 := Lib.hid (only_trans H0'.out hg1)
          have hbk1 := (HB.out.drewN nq).kept hg1
          replace x0 := hbk1.cell 0
          replace x1 := hbk1.cell 1
          replace x2 := hbk1.cell 2
          replace x3 := hbk1.cell 3
          replace x4 := hbk1.cell 4
          replace x5 := hbk1.cell 5
          clear hg1
          go_wp2_with fail
          refine (rin_any _ _ _).mono ?_
          rintro e w2 ⟨rfl, hg2⟩
          have HG2 := Lib.hid (only_trans HG1.out hg2)
          have hbk2 := hbk1.kept hg2
          replace x0 := hbk2.cell 0
          replace x1 := hbk2.cell 1
          replace x2 := hbk2.cell 2
          replace x3 := hbk2.cell 3
          replace x4 := hbk2.cell 4
          replace x5 := hbk2.cell 5
          clear hg2
          cases hcz : inZ c 15 with
          | true =>
            go_wp2_with fail
            go_meet
            exact ⟨by rw [hx]; rfl, by rw [hx]; exact congrArg _ (two_true hcz), by rw [hx]; rfl, by rw [hx]; exact congrArg _ (len_eq l 0), HG2.out⟩
          | false =>
            go_wp2_with fail
            go_meet
            exact ⟨by rw [hx]; rfl, by rw [hx]; exact congrArg _ (two_false hcz), by rw [hx]; rfl, by rw [hx]; exact congrArg _ (len_eq l 0), HG2.out⟩
        · by_cases hlen : l.length = 1
          · have e1 : ((l.length : Int) == 1) = true := by rw [hlen]; rfl
            have HLN := Lib.hid hlen
            clear hlen
            go_wp2_with fail
            refine (HAll.out 127 _ H0'.out).mono ?_
            rintro e w1 ⟨rfl, hg1⟩
            have HG1 := Lib.hid (only_trans H0'.out hg1)
            have hbk1 := (HB.out.drewN nq).kept hg1
            replace x0 := hbk1.cell 0
            replace x1 := hbk1.cell 1
            replace x2 := hbk1.cell 2
            replace x3 := hbk1.cell 3
            replace x4 := hbk1.cell 4
            replace x5 := hbk1.cell 5
            clear hg1
            go_wp2_with fail
            go_meet
            exact ⟨by rw [hx]; rfl, by rw [hx]; rfl, by rw [hx]; rfl, by rw [hx]; exact congrArg _ (jump_yes HLN.out), HG1.out⟩
          · have e1 : ((l.length : Int) == 1) = false := by simp; omega
            have HLN := Lib.hid hlen
            clear hlen
            go_wp2_with fail
            go_meet
            exact ⟨by rw [hx]; rfl, by rw [hx]; rfl, by rw [hx]; rfl, by rw [hx]; exact congrArg _ (jump_no HLN.out), H0'.out⟩
        · by_cases hlen : l.length = 1
          · have e1 : ((l.length : Int) == 1) = true := by rw [hlen]; rfl
            have HLN := Lib.hid hlen
            clear hlen
            go_wp2_with fail
            refine (HAll.out 127 _ H0'.out).mono ?_
            rintro e w1 ⟨rfl, hg1⟩
            have HG1 := Lib.hid (only_trans H0'.out hg1)
            have hbk1 := (HB.out.drewN nq).kept hg1
            replace x0 := hbk1.cell 0
            replace x1 := hbk1.cell 1
            replace x2 := hbk1.cell 2
            replace x3 := hbk1.cell 3
            replace x4 := hbk1.cell 4
            replace x5 := hbk1.cell 5
            clear hg1
            go_wp2_with fail
            go_meet
            exact ⟨by rw [hx]; rfl, by rw [hx]; rfl, by rw [hx]; rfl, by rw [hx]; exact congrArg _ (jump_yes HLN.out), HG1.out⟩
          · have e1 : ((l.length : Int) == 1) = false := by simp; omega
            have HLN := Lib.hid hlen
            clear hlen
            go_wp2_with fail
            go_meet
            exact ⟨by rw [hx]; rfl, by rw [hx]; rfl, by rw [hx]; rfl, by rw [hx]; exact congrArg _ (jump_no HLN.out), H0'.out⟩
        · go_wp2_with fail
          refine (rin_any _ _ _).mono ?_
          rintro e w1 ⟨rfl, hg1⟩
          have HG1 := Lib.hid (only_trans H0'.out hg1)
          have hbk1 := (HB.out.drewN nq).kept hg1
          replace x0 := hbk1.cell 0
          replace x1 := hbk1.cell 1
          replace x2 := hbk1.cell 2
          replace x3 := hbk1.cell 3
          replace x4 := hbk1.cell 4
          replace x5 := hbk1.cell 5
          clear hg1
          go_wp2_with fail
          refine (rin_any _ _ _).mono ?_
          rintro e w2 ⟨rfl, hg2⟩
          have HG2 := Lib.hid (only_trans HG1.out hg2)
          have hbk2 := hbk1.kept hg2
          replace x0 := hbk2.cell 0
          replace x1 := hbk2.cell 1
          replace x2 := hbk2.cell 2
          replace x3 := hbk2.cell 3
          replace x4 := hbk2.cell 4
          replace x5 := hbk2.cell 5
          clear hg2
          go_wp2_with fail
          go_meet
          exact ⟨by rw [hx]; rfl, by rw [hx]; rfl, by rw [hx]; rfl, by rw [hx]; exact congrArg _ (len_eq l 0), HG2.out⟩
        · go_wp2_with fail
          refine (rin_any _ _ _).mono ?_
          rintro e w1 ⟨rfl, hg1⟩
          have HG1 := Lib.hid (only_trans H0'.out hg1)
          have hbk1 := (HB.out.drewN nq).kept hg1
          replace x0 := hbk1.cell 0
          replace x1 := hbk1.cell 1
          replace x2 := hbk1.cell 2
          replace x3 := hbk1.cell 3
          replace x4 := hbk1.cell 4
          replace x5 := hbk1.cell 5
          clear hg1
          by_cases hlen : 1 ≤ l.length
          · have e1 : (1 : Int) ≤ (l.length : Int) := by omega
            by_cases hlen2 : l.length ≤ 8
            · have e2 : (l.length : Int) ≤ 8 := by omega
              go_wp2_with fail
              refine (HAll.out 127 _ HG1.out).mono ?_
              rintro e w2 ⟨rfl, hg2⟩
              have HG2 := Lib.hid (only_trans HG1.out hg2)
              have hbk2 := hbk1.kept hg2
              replace x0 := hbk2.cell 0
              replace x1 := hbk2.cell 1
              replace x2 := hbk2.cell 2
              replace x3 := hbk2.cell 3
              replace x4 := hbk2.cell 4
              replace x5 := hbk2.cell 5
              clear hg2
              go_wp2_with fail
              go_meet
              exact ⟨by rw [hx]; rfl, by rw [hx]; rfl, by rw [hx]; rfl, by rw [hx]; exact congrArg _ (branch_yes hlen hlen2), HG2.out⟩
            · have e2 : (8 : Int) < (l.length : Int) := by omega
              go_wp2_with fail
              go_meet
              exact ⟨by rw [hx]; rfl, by rw [hx]; rfl, by rw [hx]; rfl, by rw [hx]; exact congrArg _ (branch_no (fun h => hlen2 h.2)), HG1.out⟩
          · have e1 : (l.length : Int) < 1 := by omega
            go_wp2_with fail
            go_meet
            exact ⟨by rw [hx]; rfl, by rw [hx]; rfl, by rw [hx]; rfl, by rw [hx]; exact congrArg _ (branch_no (fun h => hlen h.1)), HG1.out⟩
        · go_wp2_with fail
          refine (rin_any _ _ _).mono ?_
          rintro e w1 ⟨rfl, hg1⟩
          have HG1 := Lib.hid (only_trans H0'.out hg1)
          have hbk1 := (HB.out.drewN nq).kept hg1
          replace x0 := hbk1.cell 0
          replace x1 := hbk1.cell 1
          replace x2 := hbk1.cell 2
          replace x3 := hbk1.cell 3
          replace x4 := hbk1.cell 4
          replace x5 := hbk1.cell 5
          clear hg1
          go_wp2_with fail
          refine (rin_any _ _ _).mono ?_
          rintro e w2 ⟨rfl, hg2⟩
          have HG2 := Lib.hid (only_trans HG1.out hg2)
          have hbk2 := hbk1.kept hg2
          replace x0 := hbk2.cell 0
          replace x1 := hbk2.cell 1
          replace x2 := hbk2.cell 2
          replace x3 := hbk2.cell 3
          replace x4 := hbk2.cell 4
          replace x5 := hbk2.cell 5
          clear hg2
          by_cases hlen : l.length = 2
          · have e1 : ((l.length : Int) == 2) = true := by rw [hlen]; rfl
            have HLN := Lib.hid hlen
            clear hlen
            go_wp2_with fail
            refine (HAll.out 15 _ HG2.out).mono ?_
            rintro e w3 ⟨rfl, hg3⟩
            have HG3 := Lib.hid (only_trans HG2.out hg3)
            have hbk3 := hbk2.kept hg3
            replace x0 := hbk3.cell 0
            replace x1 := hbk3.cell 1
            replace x2 := hbk3.cell 2
            replace x3 := hbk3.cell 3
            replace x4 := hbk3.cell 4
            replace x5 := hbk3.cell 5
            clear hg3
            cases hal : allB l 15 with
            | true =>
              go_wp2_with fail
              refine (HUnl.out _ HG3.out).mono ?_
              rintro e w4 ⟨rfl, hg4⟩
              have HG4 := Lib.hid (only_trans HG3.out hg4)
              have hbk4 := hbk3.kept hg4
              replace x0 := hbk4.cell 0
              replace x1 := hbk4.cell 1
              replace x2 := hbk4.cell 2
              replace x3 := hbk4.cell 3
              replace x4 := hbk4.cell 4
              replace x5 := hbk4.cell 5
              clear hg4
              go_wp2_with fail
              go_meet
              exact ⟨by rw [hx]; rfl, by rw [hx]; rfl, by rw [hx]; rfl, by rw [hx]; exact congrArg _ (new_yes HLN.out hal), HG4.out⟩
            | false =>
              go_wp2_with fail
              go_meet
              exact ⟨by rw [hx]; rfl, by rw [hx]; rfl, by rw [hx]; rfl, by rw [hx]; exact congrArg _ (new_not hal), HG3.out⟩
          · have e1 : ((l.length : Int) == 2) = false := by simp; omega
            have HLN := Lib.hid hlen
            clear hlen
            go_wp2_with fail
            go_meet
            exact ⟨by rw [hx]; rfl, by rw [hx]; rfl, by rw [hx]; rfl, by rw [hx]; exact congrArg _ (new_no HLN.out), HG2.out⟩
        · go_wp2_with fail
          refine (rin_any _ _ _).mono ?_
          rintro e w1 ⟨rfl, hg1⟩
          have HG1 := Lib.hid (only_trans H0'.out hg1)
          have hbk1 := (HB.out.drewN nq).kept hg1
          replace x0 := hbk1.cell 0
          replace x1 := hbk1.cell 1
          replace x2 := hbk1.cell 2
          replace x3 := hbk1.cell 3
          replace x4 := hbk1.cell 4
          replace x5 := hbk1.cell 5
          clear hg1
          by_cases hlen : l.length ≤ 8
          · have e1 : (l.length : Int) ≤ 8 := by omega
            go_wp2_with fail
            refine (HAll.out 15 _ HG1.out).mono ?_
            rintro e w2 ⟨rfl, hg2⟩
            have HG2 := Lib.hid (only_trans HG1.out hg2)
            have hbk2 := hbk1.kept hg2
            replace x0 := hbk2.cell 0
            replace x1 := hbk2.cell 1
            replace x2 := hbk2.cell 2
            replace x3 := hbk2.cell 3
            replace x4 := hbk2.cell 4
            replace x5 := hbk2.cell 5
            clear hg2
            cases hal : allB l 15 with
            | true =>
              go_wp2_with fail
              refine (HUnl.out _ HG2.out).mono ?_
              rintro e w3 ⟨rfl, hg3⟩
              have HG3 := Lib.hid (only_trans HG2.out hg3)
              have hbk3 := hbk2.kept hg3
              replace x0 := hbk3.cell 0
              replace x1 := hbk3.cell 1
              replace x2 := hbk3.cell 2
              replace x3 := hbk3.cell 3
              replace x4 := hbk3.cell 4
              replace x5 := hbk3.cell 5
              clear hg3
              go_wp2_with fail
              go_meet
              exact ⟨by rw [hx]; rfl, by rw [hx]; rfl, by rw [hx]; rfl, by rw [hx]; exact congrArg _ (spawn_yes hlen hal), HG3.out⟩
            | false =>
              go_wp2_with fail
              go_meet
              exact ⟨by rw [hx]; rfl, by rw [hx]; rfl, by rw [hx]; rfl, by rw [hx]; exact congrArg _ (spawn_not hal), HG2.out⟩
          · have e1 : (8 : Int) < (l.length : Int) := by omega
            go_wp2_with fail
            go_meet
            exact ⟨by rw [hx]; rfl, by rw [hx]; rfl, by rw [hx]; rfl, by rw [hx]; exact congrArg _ (spawn_no hlen), HG1.out⟩
      case rest =>
        obtain ⟨rfl, rfl, rfl, rfl, hg⟩ := hcut
        have HG := Lib.hid hg
        clear hg x0 x1 x2 x3 x4 x5
        have hA : Hid (pA (clI op) x = (a == 0)) := Lib.hid (pA_of o0 o1 hx h1)
        clear hx hn o0 o1 h1 hne1 hne2 hb1
        cases ha : (a == 0) with
        | false =>
          have HZ := Lib.hid ha
          go_wp2_with fail
          go_ret
          exact ⟨by rw [← HR.out, hA.out, HZ.out]; rfl, HG.out⟩
        | true =>
          have Hha := Lib.hid ha
          cases hB : pB (clI op) x with
          | false =>
            have HZ := Lib.hid hB
            go_wp2_with fail
            go_ret
            exact ⟨by rw [← HR.out, hA.out, Hha.out, HZ.out]; rfl, HG.out⟩
          | true =>
            have HhB := Lib.hid hB
            cases hC : pC (clI op) x with
            | false =>
              have HZ := Lib.hid hC
              go_wp2_with fail
              go_ret
              exact ⟨by rw [← HR.out, hA.out, Hha.out, HhB.out, HZ.out]; rfl, HG.out⟩
            | true =>
              have HhC := Lib.hid hC
              cases hD : pD (clI op) x with
              | false =>
                have HZ := Lib.hid hD
                go_wp2_with fail
                go_ret
                exact ⟨by rw [← HR.out, hA.out, Hha.out, HhB.out, HhC.out, HZ.out]; rfl, HG.out⟩
              | true =>
                have HhD := Lib.hid hD
                cases hL : pL (clI op) x with
                | false =>
                  have HZ := Lib.hid hL
                  go_wp2_with fail
                  go_ret
                  exact ⟨by rw [← HR.out, hA.out, Hha.out, HhB.out, HhC.out, HhD.out, HZ.out]; rfl, HG.out⟩
                | true =>
                  have HhL := Lib.hid hL
                  go_wp2_with fail
                  go_ret
                  exact ⟨by rw [← HR.out, hA.out, Hha.out, HhB.out, HhC.out, HhD.out, HhL.out]; rfl, HG.out⟩
  · have hcl := clI_no (show op < 0 ∨ 24 < op by omega)
    rw [show chkI (s.ins op) = 11 by unfold chkI; rw [show (s.ins op).op = op from rfl, hcl]; rfl]
    obtain ⟨A, cp, hlv, _⟩ := hl
    have hcs : s.cells op = #[.int .i64 op, .int .i64 s.a, .int .i64 s.b, .int .i64 s.c, .int .i64 s.d, .slice A s.l.length cp] := by unfold Sg.cells; rw [hlv]
    rw [hcs]
    have hb := Blk.new w 24 #[.int .i64 op, .int .i64 s.a, .int .i64 s.b, .int .i64 s.c, .int .i64 s.d, .slice A s.l.length cp]
    have x0 := hb.cell 0
    clear hlv hcs hn hcl hb
    rcases (by omega : op < 0 ∨ 0 ≤ op ∧ 24 < op) with h | ⟨h1, h2⟩
    · clear hop
      go_enter Tryd.func37, Tryd.ntmps37
      go_wp2_with fail
      go_ret
      exact ⟨rfl, only_alloc (only_refl _ _) _⟩
    · clear hop
      go_enter Tryd.func37, Tryd.ntmps37
      go_wp2_with fail
      go_ret
      exact ⟨rfl, only_alloc (only_refl _ _) _⟩
end Go.Proofs.YtmbdaenjeeklfaaDoor

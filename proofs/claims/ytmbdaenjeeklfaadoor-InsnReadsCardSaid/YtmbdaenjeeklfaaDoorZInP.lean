/- Texts joined for the claim's sake: IRfA, IRfF. -/
import Derived.Test.YtmbdaenjeeklfaaDoorZInF
import Derived.LoopTactic
import Derived.BigQuiet
import Derived.Deep.QuietTactic
/- Instructions: the document's own check, op by op, is the same as by forms. No program. -/
namespace Go.Proofs.YtmbdaenjeeklfaaDoor

def inZ (z most : Int) : Bool := decide (0 ≤ z) && decide (z ≤ most)
def allB (l : List Int) (most : Int) : Bool := l.all fun z => inZ z most
def unlB (l : List Int) : Bool := decide l.Nodup
def wrongV (k : Kd) : List Int → List Int → Bool
  | _, [] => false
  | rs, z :: r => if inK z k then (if k.reg then (if rs.contains z then true else wrongV k (rs ++ [z]) r) else wrongV k rs r) else true
theorem wrongF_E {f : Fm} {x : Ins} : ∀ (is : List Nat) (rs : List Int), wrongF f x rs (is.map .E) = wrongV f.each rs (is.map fun i => x.l.getD i 0)
  | [], _ => rfl
  | i :: is, rs => by
    simp only [List.map_cons, wrongF, wrongV, isA, val, kOf, Bool.false_eq_true, if_false]
    rw [wrongF_E is rs, wrongF_E is]
    rfl
theorem wrongF_els {f : Fm} {x : Ins} (rs : List Int) : wrongF f x rs (els x.l.length) = wrongV f.each rs x.l := by
  unfold els
  rw [wrongF_E, ← list_getD]
theorem wrongV_no {m : Int} : ∀ (l rs : List Int), wrongV ⟨m, false⟩ rs l = !allB l m
  | [], _ => rfl
  | z :: l, rs => by
    simp only [wrongV, allB, List.all_cons, Bool.false_eq_true, if_false]
    rw [wrongV_no l rs]
    unfold allB inK inZ
    cases decide (0 ≤ z) <;> cases decide (z ≤ m) <;> simp
theorem wrongV_reg {m : Int} : ∀ (l rs : List Int), rs.Nodup → wrongV ⟨m, true⟩ rs l = !(allB l m && decide (rs ++ l).Nodup)
  | [], rs, h => by simp [wrongV, allB, h]
  | z :: l, rs, h => by
    simp only [wrongV, allB, List.all_cons, if_true]
    have hi : inK z ⟨m, true⟩ = inZ z m := rfl
    rw [hi]
    cases hb : inZ z m with
    | false => simp
    | true =>
      simp only [if_true, Bool.true_and]
      by_cases hz : z ∈ rs
      · have : (rs.contains z) = true := by simpa using hz
        rw [this]
        have hn : ¬ (rs ++ z :: l).Nodup := fun hn => by
          rw [List.nodup_append] at hn
          exact hn.2.2 z hz z (List.mem_cons_self) rfl
        simp [hn]
      · have : (rs.contains z) = false := by simpa using hz
        rw [this]
        have hn : (rs ++ [z]).Nodup := by
          rw [List.nodup_append]
          refine ⟨h, by simp, fun a ha b hb => ?_⟩
          simp at hb
          subst hb
          intro e
          subst e
          exact hz ha
        have e : rs ++ [z] ++ l = rs ++ z :: l := by simp
        have := wrongV_reg (m := m) l (rs ++ [z]) hn
        rw [e] at this
        simp only [Bool.false_eq_true, if_false]
        exact this
def okR (c : Kl) (x : Ins) : Bool := match c with
  | .no => false
  | .plain => x.a == 0 && x.b == 0 && x.c == 0 && x.d == 0 && decide (x.l.length = 0)
  | .push => x.b == 0 && x.c == 0 && x.d == 0 && decide (x.l.length = 0)
  | .one => x.a == 0 && inZ x.b 15 && x.c == 0 && x.d == 0 && decide (x.l.length = 0)
  | .two => x.a == 0 && inZ x.b 15 && (inZ x.c 15 && x.b != x.c) && x.d == 0 && decide (x.l.length = 0)
  | .jump => x.a == 0 && x.b == 0 && x.c == 0 && x.d == 0 && (decide (x.l.length = 1) && allB x.l 127)
  | .select => x.a == 0 && inZ x.b 15 && inZ x.c 7 && x.d == 0 && decide (x.l.length = 0)
  | .branch => x.a == 0 && inZ x.b 15 && x.c == 0 && x.d == 0 && (decide (1 ≤ x.l.length) && decide (x.l.length ≤ 8) && allB x.l 127)
  | .new_ => x.a == 0 && inZ x.b 63 && x.c == 0 && inZ x.d 1000 && (decide (x.l.length = 2) && allB x.l 15 && unlB x.l)
  | .spawn => x.a == 0 && inZ x.b 15 && x.c == 0 && x.d == 0 && (decide (x.l.length ≤ 8) && allB x.l 15 && unlB x.l)
theorem decide_le_eq (n k : Nat) : (decide (k ≤ n) && decide (n ≤ k)) = decide (n = k) := by
  by_cases h : n = k
  · subst h; simp
  · by_cases h1 : n ≤ k
    · have : ¬ k ≤ n := by omega
      simp [h, h1, this]
    · simp [h, h1]
theorem wrongF_cons {f : Fm} {x : Ins} (rs : List Int) (k : Fld) (r : List Fld) (hA : isA k = false) : wrongF f x rs (k :: r) = if inK (val x k) (kOf f k) then (if (kOf f k).reg then (if rs.contains (val x k) then true else wrongF f x (rs ++ [val x k]) r) else wrongF f x rs r) else true := by
  rw [wrongF, hA]
  rfl
theorem no_elems {l : List Int} (h : l.length = 0) : l = [] := List.length_eq_zero_iff.1 h
theorem all_nil (m : Int) : allB [] m = true := rfl
theorem okR_eq (c : Kl) (x : Ins) (hc : c ≠ .no) : (coversA (fmOf c) x && !(wrongF (fmOf c) x [] (hdF c ++ els x.l.length))) = okR c x := by
  obtain ⟨op, a, b, cc, d, l⟩ := x
  have hE : ∀ (f : Fm) (rs : List Int), wrongF f ⟨op, a, b, cc, d, l⟩ rs (els l.length) = wrongV f.each rs l := fun f rs => wrongF_els (x := ⟨op, a, b, cc, d, l⟩) rs
  cases c
  case no => exact absurd rfl hc
  case plain =>
    show (((a == 0) && (b == 0) && (cc == 0) && (d == 0) && decide (0 ≤ l.length) && decide (l.length ≤ 0)) && !(wrongF (fmOf .plain) ⟨op, a, b, cc, d, l⟩ [] (els l.length))) = ((a == 0) && (b == 0) && (cc == 0) && (d == 0) && decide (l.length = 0))
    rw [hE, show (fmOf .plain).each = ⟨0, false⟩ from rfl, wrongV_no]
    by_cases h : l = []
    · subst h; simp [all_nil]
    · simp [h]
  case push =>
    show ((true && (b == 0) && (cc == 0) && (d == 0) && decide (0 ≤ l.length) && decide (l.length ≤ 0)) && !(wrongF (fmOf .push) ⟨op, a, b, cc, d, l⟩ [] (els l.length))) = ((b == 0) && (cc == 0) && (d == 0) && decide (l.length = 0))
    rw [hE, show (fmOf .push).each = ⟨0, false⟩ from rfl, wrongV_no]
    by_cases h : l = []
    · subst h; simp [all_nil]
    · simp [h]
  case one =>
    show (((a == 0) && true && (cc == 0) && (d == 0) && decide (0 ≤ l.length) && decide (l.length ≤ 0)) && !(if inZ b 15 = true then wrongF (fmOf .one) ⟨op, a, b, cc, d, l⟩ [b] (els l.length) else true)) = ((a == 0) && inZ b 15 && (cc == 0) && (d == 0) && decide (l.length = 0))
    rw [hE, show (fmOf .one).each = ⟨0, false⟩ from rfl, wrongV_no]
    by_cases h : l = []
    · subst h; cases inZ b 15 <;> simp [all_nil]
    · simp [h]
  case two =>
    show (((a == 0) && true && true && (d == 0) && decide (0 ≤ l.length) && decide (l.length ≤ 0)) && !(if inZ b 15 = true then (if inZ cc 15 = true then (if [b].contains cc = true then true else wrongF (fmOf .two) ⟨op, a, b, cc, d, l⟩ [b, cc] (els l.length)) else true) else true)) = ((a == 0) && inZ b 15 && (inZ cc 15 && b != cc) && (d == 0) && decide (l.length = 0))
    rw [hE, show (fmOf .two).each = ⟨0, false⟩ from rfl, wrongV_no]
    by_cases h : l = []
    · subst h
      by_cases hb : b = cc
      · subst hb; cases inZ b 15 <;> simp
      · have hb' : ¬ cc = b := fun e => hb e.symm
        have hb2 : (b != cc) = true := by simpa using hb
        rw [hb2]
        cases inZ b 15 <;> cases inZ cc 15 <;> simp [all_nil, hb']
    · simp [h]
  case select =>
    show (((a == 0) && true && true && (d == 0) && decide (0 ≤ l.length) && decide (l.length ≤ 0)) && !(if inZ b 15 = true then (if inZ cc 7 = true then wrongF (fmOf .select) ⟨op, a, b, cc, d, l⟩ [b] (els l.length) else true) else true)) = ((a == 0) && inZ b 15 && inZ cc 7 && (d == 0) && decide (l.length = 0))
    rw [hE, show (fmOf .select).each = ⟨0, false⟩ from rfl, wrongV_no]
    by_cases h : l = []
    · subst h; cases inZ b 15 <;> cases inZ cc 7 <;> simp [all_nil]
    · simp [h]
  case jump =>
    show (((a == 0) && (b == 0) && (cc == 0) && (d == 0) && decide (1 ≤ l.length) && decide (l.length ≤ 1)) && !(wrongF (fmOf .jump) ⟨op, a, b, cc, d, l⟩ [] (els l.length))) = ((a == 0) && (b == 0) && (cc == 0) && (d == 0) && (decide (l.length = 1) && allB l 127))
    rw [hE, show (fmOf .jump).each = ⟨127, false⟩ from rfl, wrongV_no, Bool.not_not, ← decide_le_eq l.length 1]
    simp only [Bool.and_assoc]
  case branch =>
    show (((a == 0) && true && (cc == 0) && (d == 0) && decide (1 ≤ l.length) && decide (l.length ≤ 8)) && !(if inZ b 15 = true then (if inZ l.length 8 = true then wrongF (fmOf .branch) ⟨op, a, b, cc, d, l⟩ [b] (els l.length) else true) else true)) = ((a == 0) && inZ b 15 && (cc == 0) && (d == 0) && (decide (1 ≤ l.length) && decide (l.length ≤ 8) && allB l 127))
    rw [hE, show (fmOf .branch).each = ⟨127, false⟩ from rfl, wrongV_no]
    by_cases h : l.length ≤ 8
    · have h8 : inZ l.length 8 = true := by simp [inZ]; omega
      rw [h8]
      cases inZ b 15 <;> cases allB l 127 <;> simp [h]
    · simp [h]
  case new_ =>
    show (((a == 0) && true && (cc == 0) && true && decide (2 ≤ l.length) && decide (l.length ≤ 2)) && !(if inZ b 63 = true then (if inZ d 1000 = true then wrongF (fmOf .new_) ⟨op, a, b, cc, d, l⟩ [] (els l.length) else true) else true)) = ((a == 0) && inZ b 63 && (cc == 0) && inZ d 1000 && (decide (l.length = 2) && allB l 15 && unlB l))
    rw [hE, show (fmOf .new_).each = ⟨15, true⟩ from rfl, wrongV_reg _ _ List.nodup_nil, ← decide_le_eq l.length 2, List.nil_append]
    unfold unlB
    cases inZ b 63 <;> cases inZ d 1000 <;> cases allB l 15 <;> simp [Bool.and_assoc]
  case spawn =>
    show (((a == 0) && true && (cc == 0) && (d == 0) && decide (0 ≤ l.length) && decide (l.length ≤ 8)) && !(if inZ b 15 = true then (if inZ l.length 8 = true then wrongF (fmOf .spawn) ⟨op, a, b, cc, d, l⟩ [] (els l.length) else true) else true)) = ((a == 0) && inZ b 15 && (cc == 0) && (d == 0) && (decide (l.length ≤ 8) && allB l 15 && unlB l))
    rw [hE, show (fmOf .spawn).each = ⟨15, true⟩ from rfl, wrongV_reg _ _ List.nodup_nil, List.nil_append]
    unfold unlB
    by_cases h : l.length ≤ 8
    · have h8 : inZ l.length 8 = true := by simp [inZ]; omega
      rw [h8]
      cases inZ b 15 <;> cases allB l 15 <;> simp [h]
    · simp [h]
theorem chkC_doc (c : Kl) (x : Ins) (hc : c ≠ .no) : chkC c x = if okR c x = true then 0 else 2 := by
  rw [← okR_eq c x hc]
  cases c
  case no => exact absurd rfl hc
  all_goals rfl
end Go.Proofs.YtmbdaenjeeklfaaDoor

/- The document's answer for instructions (colloquyref09): in, all, unlike: what each answers, and what it leaves. -/
namespace Go.Proofs.YtmbdaenjeeklfaaDoor
open Go.RowKit

set_option maxHeartbeats 1000000 in
theorem rin_any (z m : Int) (w : World) : Calls Tryd.prog 55 #[.int .i64 z, .int .i64 m] w fun e w' => e = .returned (.bool (inZ z m)) ∧ w.grownBy w' none := by
  unfold inZ
  by_cases h : 0 ≤ z
  · have h1 : decide (0 ≤ z) = true := by simpa using h
    rw [h1]
    go_enter Tryd.func55, Tryd.ntmps55
    go_wp2_with fail
    go_ret
    exact ⟨by simp, only_refl _ _⟩
  · have h1 : decide (0 ≤ z) = false := by simpa using h
    rw [h1]
    have h2 : z < 0 := by omega
    go_enter Tryd.func55, Tryd.ntmps55
    go_wp2_with fail
    go_ret
    exact ⟨by simp, only_refl _ _⟩

theorem allB_at {l : List Int} {m z : Int} {k : Nat} (h : allB (l.take k) m = true) (hz : l[k]? = some z) : allB (l.take (k + 1)) m = inZ z m := by
  unfold allB at h ⊢
  rw [List.take_add_one, List.all_append, h, hz]
  simp
theorem allB_not {l : List Int} {m z : Int} {k : Nat} (hz : l[k]? = some z) (h : inZ z m = false) : allB l m = false := by
  unfold allB
  rw [Bool.eq_false_iff]
  intro ha
  rw [List.all_eq_true] at ha
  have := ha z (List.mem_of_getElem? hz)
  rw [h] at this
  cases this
set_option maxRecDepth 100000 in
set_option maxHeartbeats 1000000 in
theorem rall_any {S : Nat → Prop} (l : List Int) (v : Value) (m : Int) (w : World) (hl : IntsA S w v l) (hn : l.length ≤ 1000) : Calls Tryd.prog 56 #[v, .int .i64 m] w fun e w' => e = .returned (.bool (allB l m)) ∧ w.grownBy w' none := by
  obtain ⟨A, c, rfl, hc⟩ := hl
  have HC := Lib.hid hc
  obtain ⟨r, hr⟩ : ∃ r, allB l m = r := ⟨_, rfl⟩
  rw [hr]
  have HR := Lib.hid hr
  clear hc hr
  go_enter Tryd.func56, Tryd.ntmps56
  go_wp2_with fail
  go_loopw [5] (fun v wr => ∃ k : Nat, v = .int .i64 (k : Int) ∧ k ≤ l.length ∧ allB (l.take k) m = true ∧ w.grownBy wr none) (fun v _ => l.length - (intOf v).toNat)
  case atStart => exact ⟨0, rfl, by omega, rfl, only_refl _ _⟩
  case round =>
    obtain ⟨k, rfl, hk, ha, hg⟩ := hrel
    by_cases hlt : k < l.length
    · obtain ⟨b, off, rfl, _, hcell⟩ := HC.out (fun e => by rw [e] at hlt; simp at hlt)
      have hz := List.getElem?_eq_getElem hlt
      have c0 := cell_row (hcell k _ hz) hg (fun e => by cases e)
      have HA := Lib.hid (allB_at ha hz)
      have HN : inZ l[k] m = false → allB l m = false := allB_not hz
      generalize l[k] = z at *
      have i0 : (0 : Int) ≤ (k : Int) := by omega
      have i1 : (k : Int) < (l.length : Int) := by omega
      have HG := Lib.hid hg
      clear hcell hz ha hg
      go_wp2_with fail
      refine (rin_any z m _).mono ?_
      rintro e w1 ⟨rfl, hg1⟩
      have HG1 := Lib.hid (only_trans HG.out hg1)
      clear hg1 c0
      cases hi : inZ z m with
      | true =>
        rw [hi] at HA
        go_wp2_with fail
        go_roundw
        case rel => exact ⟨k + 1, by go_num, by omega, HA.out, HG1.out⟩
        case measure => simp [intOf]; omega
      | false =>
        have HR2 : Hid (r = false) := HR.out.symm.trans (HN hi)
        go_wp2_with fail
        go_ret
        exact ⟨by rw [HR2.out]; rfl, HG1.out⟩
    · have i1 : (l.length : Int) ≤ (k : Int) := by omega
      have hal : allB l m = true := by rwa [List.take_of_length_le (by omega)] at ha
      have HG := Lib.hid hg
      have HR2 : Hid (r = true) := HR.out.symm.trans hal
      clear hg ha hal
      go_wp2_with fail
      go_ret
      exact ⟨by rw [HR2.out]; rfl, HG.out⟩

theorem unlB_take {l : List Int} {k : Nat} {z : Int} (h : (l.take k).Nodup) (hz : l[k]? = some z) (hn : ∀ j x, j < k → l[j]? = some x → z ≠ x) : (l.take (k + 1)).Nodup := by
  rw [List.take_add_one, hz, List.nodup_append]
  refine ⟨h, by simp, fun a ha b hb e => ?_⟩
  simp at hb
  subst hb
  subst e
  obtain ⟨j, hj⟩ := List.mem_iff_getElem?.1 ha
  rw [List.getElem?_take] at hj
  split at hj
  · exact hn j _ (by assumption) hj rfl
  · cases hj
theorem unlB_not {l : List Int} {j k : Nat} {z : Int} (h : j < k) (hj : l[j]? = some z) (hk : l[k]? = some z) : unlB l = false := by
  unfold unlB
  rw [decide_eq_false_iff_not]
  intro hn
  obtain ⟨h1, h2⟩ := List.getElem?_eq_some_iff.1 hj
  obtain ⟨h3, h4⟩ := List.getElem?_eq_some_iff.1 hk
  exact List.pairwise_iff_getElem.1 hn j k h1 h3 h (h2.trans h4.symm)
set_option maxRecDepth 100000 in
set_option maxHeartbeats 2000000 in
theorem runlike_any {S : Nat → Prop} (l : List Int) (v : Value) (w : World) (hl : IntsA S w v l) (hn : l.length ≤ 1000) : Calls Tryd.prog 57 #[v] w fun e w' => e = .returned (.bool (unlB l)) ∧ w.grownBy w' none := by
  obtain ⟨A, c, rfl, hc⟩ := hl
  have HC := Lib.hid hc
  obtain ⟨r, hr⟩ : ∃ r, unlB l = r := ⟨_, rfl⟩
  rw [hr]
  have HR := Lib.hid hr
  clear hc hr
  go_enter Tryd.func57, Tryd.ntmps57
  go_wp2_with fail
  go_loopw [3] (fun v wr => ∃ k : Nat, v = .int .i64 (k : Int) ∧ k ≤ l.length ∧ (l.take k).Nodup ∧ w.grownBy wr none) (fun v _ => l.length - (intOf v).toNat)
  case atStart => exact ⟨0, rfl, by omega, by simp, only_refl _ _⟩
  case round =>
    obtain ⟨k, rfl, hk, ha, hg⟩ := hrel
    by_cases hlt : k < l.length
    · obtain ⟨b, off, rfl, _, hcell⟩ := HC.out (fun e => by rw [e] at hlt; simp at hlt)
      have hz := List.getElem?_eq_getElem hlt
      have i0 : (0 : Int) ≤ (k : Int) := by omega
      have i1 : (k : Int) < (l.length : Int) := by omega
      have HG := Lib.hid hg
      have HA := Lib.hid ha
      have HZ := Lib.hid hz
      have HCe := Lib.hid hcell
      clear hcell hz ha hg
      go_wp2_with fail
      generalize wr = W1 at *
      go_loopw [4] (fun v wr => ∃ j : Nat, v = .int .i64 (j : Int) ∧ j ≤ k ∧ (∀ i x, i < j → l[i]? = some x → l[k] ≠ x) ∧ W1.grownBy wr none) (fun v _ => k - (intOf v).toNat)
      case atStart => exact ⟨0, rfl, by omega, fun i x h => by omega, only_refl _ _⟩
      case round =>
        obtain ⟨j, rfl, hj, hne, hg1⟩ := hrel
        have HG1 := Lib.hid (only_trans HG.out hg1)
        have HG0 := Lib.hid hg1
        clear hg1
        by_cases hjk : j < k
        · have hj2 := List.getElem?_eq_getElem (show j < l.length by omega)
          have c0 := cell_row (HCe.out k _ HZ.out) HG1.out (fun e => by cases e)
          have c1 := cell_row (HCe.out j _ hj2) HG1.out (fun e => by cases e)
          have HJ := Lib.hid hj2
          have HNE := Lib.hid hne
          have j0 : (0 : Int) ≤ (j : Int) := by omega
          have j1 : (j : Int) < (l.length : Int) := by omega
          have j2 : (j : Int) < (k : Int) := by omega
          have HS : Hid (l[j] ≠ l[k] → ∀ i x, i < j + 1 → l[i]? = some x → l[k] ≠ x) := fun hd i x hi hx => by
            rcases (by omega : i < j ∨ i = j) with h | h
            · exact HNE.out i x h hx
            · subst h
              rw [HJ.out] at hx
              injection hx with hx
              rw [← hx]
              exact fun e => hd e.symm
          have HU : Hid (l[j] = l[k] → unlB l = false) := fun e => unlB_not hjk HJ.out (e ▸ HZ.out)
          clear hj2 hne
          generalize l[j] = y at *
          generalize l[k] = z at *
          by_cases hyz : y = z
          · have hu := HU.out hyz
            have HR2 : Hid (r = false) := HR.out.symm.trans hu
            subst hyz
            go_wp2_with fail
            go_quiet (fail)
            go_wp2_with fail
            go_ret
            exact ⟨by rw [HR2.out]; rfl, only_drewN HG1.out _⟩
          · have hb : (z == y) = false := by simpa using fun e => hyz e.symm
            have HS' := Lib.hid (HS.out hyz)
            go_wp2_with fail
            go_quiet (fail)
            go_wp2_with fail
            go_roundw
            case rel => exact ⟨j + 1, by go_num, by omega, HS'.out, only_drewN HG0.out _⟩
            case measure => simp [intOf]; omega
        · have j2 : (k : Int) ≤ (j : Int) := by omega
          have HN2 := Lib.hid (unlB_take HA.out HZ.out (fun i x hi hx => hne i x (by omega) hx))
          clear hne
          go_wp2_with fail
          go_roundw
          case rel => exact ⟨k + 1, by go_num, by omega, HN2.out, HG1.out⟩
          case measure => simp [intOf]; omega
    · have i1 : (l.length : Int) ≤ (k : Int) := by omega
      have hal : unlB l = true := by
        rw [List.take_of_length_le (by omega)] at ha
        simpa [unlB] using ha
      have HG := Lib.hid hg
      have HR2 : Hid (r = true) := HR.out.symm.trans hal
      clear hg ha hal
      go_wp2_with fail
      go_ret
      exact ⟨by rw [HR2.out]; rfl, HG.out⟩
end Go.Proofs.YtmbdaenjeeklfaaDoor

/- Whether two lists of numbers are alike (the statements' own 'ints'); the document's jumps. -/
import Derived.Test.YtgdoklbcmgkllaaBGo
import Derived.Deep.CutBlock
import Derived.Deep.DeepCutAuto
import Derived.Deep.QuietTactic
import Derived.BigQuiet
namespace Go.Proofs.Ytgdoklbcmgkllaa
open Go.RowKit

set_option maxRecDepth 100000 in
set_option maxHeartbeats 2000000 in
theorem bints_any (es fs : List Int) (v u : Value) (S T : Nat → Prop) (w : World) (hE : IntsA S w v es) (hF : IntsA T w u fs) (hle : es.length ≤ 10000000) :
    Calls Try.prog 16 #[v, u] w fun e w' => e = .returned (.bool (decide (es = fs))) ∧ w.grownBy w' none := by
  have hlI : (es.length : Int) ≤ 10000000 := by omega
  clear hle
  obtain ⟨A, c, rfl, hc⟩ := hE
  obtain ⟨B, d, rfl, hd⟩ := hF
  have HC := Lib.hid hc
  have HD := Lib.hid hd
  clear hc hd
  obtain ⟨r, hr⟩ : ∃ r, decide (es = fs) = r := ⟨_, rfl⟩
  rw [hr]
  have HR := Lib.hid hr
  clear hr
  by_cases hne : es.length = fs.length
  · have hb : ((es.length : Int) != (fs.length : Int)) = false := by simp [hne]
    have HNE := Lib.hid hne
    clear hne
    go_enter Try.func16, Try.ntmps16
    go_wp2_with fail
    go_loopw [5] (fun i wr => ∃ k : Nat, k ≤ es.length ∧ i = .int .i64 (k : Int) ∧ w.grownBy wr none ∧ es.take k = fs.take k) (fun i _ => es.length - (intOf i).toNat)
    case atStart => exact ⟨0, Nat.zero_le _, rfl, only_refl _ _, by simp⟩
    case round =>
      obtain ⟨k, hk, rfl, hg, hq⟩ := hrel
      have HG := Lib.hid hg
      have HQ := Lib.hid hq
      clear hg hq
      by_cases hlt : k < es.length
      · obtain ⟨x, hx⟩ : ∃ e, es[k]? = some e := ⟨_, List.getElem?_eq_getElem hlt⟩
        obtain ⟨y, hy⟩ : ∃ e, fs[k]? = some e := ⟨_, List.getElem?_eq_getElem (by have := HNE.out; omega)⟩
        obtain ⟨b1, o1, rfl, _, hce⟩ := HC.out (by intro e0; rw [e0] at hlt; simp at hlt)
        obtain ⟨b2, o2, rfl, _, hde⟩ := HD.out (by intro e0; rw [e0] at hy; simp at hy)
        have g0 := cell_row (hce k _ hx) HG.out (fun e => by cases e)
        have g2 := cell_row (hde k _ hy) HG.out (fun e => by cases e)
        have hk0 : (0 : Int) ≤ (k : Int) := by omega
        have hk1 : (k : Int) < (es.length : Int) := by omega
        have hk2 : (k : Int) < (fs.length : Int) := by have := HNE.out; omega
        have HX := Lib.hid hx
        have HY := Lib.hid hy
        clear hce hde hx hy
        by_cases hxy : x = y
        · have hb2 : (x != y) = false := by simp [hxy]
          have hq2 : es.take (k + 1) = fs.take (k + 1) := by
            rw [List.take_add_one, List.take_add_one, HQ.out, HX.out, HY.out, hxy]
          have HQ2 := Lib.hid hq2
          clear hq2 hxy
          go_upto_region 6 with fail
          go_quiet (fail)
          go_wp2_with fail
          go_roundw
          case rel => exact ⟨k + 1, by omega, by go_num, only_drewN HG.out _, HQ2.out⟩
          case measure => simp [intOf]; omega
        · have hb2 : (x != y) = true := by simp [hxy]
          have hrf : r = false := by
            rw [← HR.out]
            refine decide_eq_false fun e => hxy ?_
            have h1 := HX.out
            rw [e, HY.out] at h1
            injection h1 with h1
            exact h1.symm
          subst hrf
          clear hxy
          go_upto_region 6 with fail
          go_quiet (fail)
          go_wp2_with fail
          go_ret
          exact ⟨rfl, only_drewN HG.out _⟩
      · have hge : (es.length : Int) ≤ (k : Int) := by omega
        have hrt : r = true := by
          rw [← HR.out]
          refine decide_eq_true ?_
          have h1 := HQ.out
          rw [List.take_of_length_le (by omega), List.take_of_length_le (by have := HNE.out; omega)] at h1
          exact h1
        subst hrt
        clear hlt hk
        go_wp2_with fail
        go_ret
        exact ⟨rfl, HG.out⟩
  · have hb : ((es.length : Int) != (fs.length : Int)) = true := by simp; omega
    have hrf : r = false := by
      rw [← HR.out]
      exact decide_eq_false fun e => hne (by rw [e])
    subst hrf
    clear hne
    go_enter Try.func16, Try.ntmps16
    go_wp2_with fail
    go_ret
    exact ⟨rfl, only_refl _ _⟩
end Go.Proofs.Ytgdoklbcmgkllaa

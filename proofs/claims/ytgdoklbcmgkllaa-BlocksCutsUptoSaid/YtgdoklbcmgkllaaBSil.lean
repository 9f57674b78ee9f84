/- blocks: firstSilent. -/
import Derived.Test.YtgdoklbcmgkllaaBCom
namespace Go.Proofs.Ytgdoklbcmgkllaa
open Go.RowKit

def silentZ (cs : List Bi) : Int := match (List.range cs.length).find? (roundB cs) with
  | some i => (i : Int)
  | none => -1
theorem round_quiet {cs : List Bi} {i : Nat} (h : quietN cs i = false) : roundB cs i = false := by
  rw [Bool.eq_false_iff]
  intro e
  obtain ⟨m, hm⟩ := round_iff.1 e
  obtain ⟨h1, P, p0, pk, hs⟩ := hm.fns
  have := (hs 0 (by omega)).1
  rw [p0] at this
  unfold silB at this
  rw [h] at this
  cases this
set_option maxRecDepth 100000 in
set_option maxHeartbeats 4000000 in
theorem firstSilent_any (cs : List Bi) (v : Value) (w : World) (hC : CodeA w v cs) (hl : ∀ x ∈ cs, x.2.length ≤ 1048576) (hn : cs.length ≤ 128) (hj : ∀ i x, cs[i]? = some x → jumpX cs.length i x = true) : Calls Try.prog 12 #[v] w fun e w' => e = .returned (.int .i64 (silentZ cs)) ∧ w.grownBy w' none := by
  obtain ⟨A, cp, rfl, _⟩ := id hC
  have HC := Lib.hid hC
  have HL := Lib.hid hl
  have HN := Lib.hid hn
  have HJ := Lib.hid hj
  have hnI : (cs.length : Int) ≤ 128 := by omega
  clear hC hl hn hj
  go_enter Try.func12, Try.ntmps12
  go_wp2_with fail
  go_loopw [7] (fun z wr => ∃ k : Nat, k ≤ cs.length ∧ z = .int .i64 (k : Int) ∧ w.grownBy wr none ∧ ∀ j, j < k → roundB cs j = false) (fun z _ => cs.length - (intOf z).toNat)
  case atStart => exact ⟨0, Nat.zero_le _, rfl, only_refl _ _, fun j h => by omega⟩
  case round =>
    obtain ⟨k, hk, rfl, hg, hlow⟩ := hrel
    by_cases hlt : k < cs.length
    · have hk0 : (0 : Int) ≤ (k : Int) := by omega
      have hk1 : (k : Int) < (cs.length : Int) := by omega
      obtain ⟨x, hx⟩ : ∃ x, cs[k]? = some x := ⟨_, List.getElem?_eq_getElem hlt⟩
      obtain ⟨b, off, a2, b2, c2, d2, A3, cp3, rfl, hb, hIA, m0, m1, m2, m3, m4, m5⟩ := code_at (HC.out.kept hg) hx
      obtain ⟨op, l⟩ := x
      dsimp only at m0 m5
      have hta := fun w => blTalks_any op w
      obtain ⟨tb, htb⟩ : ∃ tb, talkB op = tb := ⟨_, rfl⟩
      rw [htb] at hta
      have HQ : Hid (quietN cs k = !tb) := Lib.hid (by unfold quietN; rw [hx, ← htb])
      have HG1 := Lib.hid (only_alloc hg (.cells #[.int .i64 op, .int .i64 a2, .int .i64 b2, .int .i64 c2, .int .i64 d2, .slice A3 l.length cp3] 43))
      have HLow := Lib.hid hlow
      clear hg hlow hIA hx htb
      go_wp2_with fail
      refine (hta _).mono ?_
      rintro e w2 ⟨rfl, hg2⟩
      have HG2 := Lib.hid (only_trans HG1.out hg2)
      clear hta hg2 m0 m1 m2 m3 m4 m5
      cases tb with
      | true =>
        have HR : Hid (∀ j, j < k + 1 → roundB cs j = false) := Lib.hid fun j hj => by
          rcases Nat.lt_or_eq_of_le (Nat.le_of_lt_succ hj) with h | h
          · exact HLow.out j h
          · rw [h]; exact round_quiet HQ.out
        go_wp2_with fail
        go_roundw
        case rel => exact ⟨k + 1, by omega, by go_num, HG2.out, HR.out⟩
        case measure => simp [intOf]; omega
      | false =>
        obtain ⟨r, hr⟩ : ∃ r, roundB cs k = r := ⟨_, rfl⟩
        have hcb := fun w hC => comesBack_any cs (.slice (some ⟨b, off, none⟩) cs.length cp) k w hlt hC HL.out HN.out HJ.out HQ.out
        rw [hr] at hcb
        have HR := Lib.hid hr
        clear hr
        go_wp2_with fail
        refine (hcb _ (HC.out.kept HG2.out)).mono ?_
        rintro e w3 ⟨rfl, hg3⟩
        have HG3 := Lib.hid (only_trans HG2.out hg3)
        clear hcb hg3
        cases r with
        | true =>
          have HO : Hid (silentZ cs = (k : Int)) := Lib.hid (by unfold silentZ; rw [find_here hlt HLow.out HR.out])
          go_wp2_with fail
          go_ret
          exact ⟨by rw [HO.out]; rfl, HG3.out⟩
        | false =>
          have HR2 : Hid (∀ j, j < k + 1 → roundB cs j = false) := Lib.hid fun j hj => by
            rcases Nat.lt_or_eq_of_le (Nat.le_of_lt_succ hj) with h | h
            · exact HLow.out j h
            · rw [h]; exact HR.out
          go_wp2_with fail
          go_roundw
          case rel => exact ⟨k + 1, by omega, by go_num, HG3.out, HR2.out⟩
          case measure => simp [intOf]; omega
    · have hge : (cs.length : Int) ≤ (k : Int) := by omega
      have HO : Hid (silentZ cs = -1) := Lib.hid (by unfold silentZ; rw [find_never fun j hj => hlow j (by omega)])
      have HG := Lib.hid hg
      clear hg hlow hk
      go_wp2_with fail
      go_ret
      exact ⟨by rw [HO.out]; rfl, HG.out⟩
end Go.Proofs.Ytgdoklbcmgkllaa

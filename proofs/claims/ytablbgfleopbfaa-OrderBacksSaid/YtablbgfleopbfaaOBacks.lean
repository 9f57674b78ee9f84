/- OrderBacks: the walk. -/
import Derived.Test.YtablbgfleopbfaaOChecks
import Derived.Test.YtablbgfleopbfaaORBk
namespace Go.Proofs.Ytablbgfleopbfaa
open Go.RowKit Go.Shelf

set_option maxRecDepth 100000 in
set_option maxHeartbeats 4000000 in
theorem obacks_any (xs : List Nd) (A : Option Addr) (c : Nat) (nd : Int) (w : World) (hT : TblC w (.slice A xs.length c) xs) :
    Calls Try.prog 4 #[.slice A xs.length c, .int .i64 nd] w fun en w' => en = .returned (.bool true) ∧ w.grownBy w' none := by
  have HT := Lib.hid hT
  have HZ : Hid ((fewL xs).length ≤ 16) := fewL_len xs
  generalize hzs : fewL xs = zs at *
  have HZS := Lib.hid hzs
  have HZ2 : Hid (zs.length ≤ 1000) := Nat.le_trans HZ.out (by decide)
  clear hT hzs
  go_enter Try.func4, Try.ntmps4
  go_wp2_with fail
  refine (few_any xs A c _ HT.out).mono ?_
  rintro en W1 ⟨⟨v, ns, rfl, hot, hns⟩, hg⟩
  have s : FS1 w v zs W1 := ⟨hg, by rw [← HZS.out, ← hns]; exact hot.tbl⟩
  have hv : ∃ A3 c3, v = .slice A3 zs.length c3 := by
    obtain ⟨A3, c3, h, _⟩ := s.tab
    exact ⟨A3, c3, h⟩
  obtain ⟨A3, c3, rfl⟩ := hv
  have S := Lib.hid s
  clear hot hns hg s
  go_wp2_with fail
  go_loopw [5] (fun i wr => ∃ k : Nat, k ≤ zs.length ∧ i = .int .i64 (k : Int) ∧ FS1 w (.slice A3 zs.length c3) zs wr) (fun i _ => zs.length - (intOf i).toNat)
  case atStart => exact ⟨0, Nat.zero_le _, rfl, S.out⟩
  case round =>
    clear S
    obtain ⟨k, hk, rfl, s⟩ := hrel
    have hl16 := HZ.out
    by_cases hlt : k < zs.length
    · have hk0 : (0 : Int) ≤ (k : Int) := by omega
      have hk1 : (k : Int) < (zs.length : Int) := by omega
      go_wp2_with (first | (go_at_call 14; go_must (refine (oback_any zs _ _ _ s.tab HZ2.out).mono ?_; rintro en W2 ⟨rfl, hg⟩; replace s := s.none_ hg; clear hg)) | (go_at_call 15; go_must (refine (rback_any zs _ _ _ s.tab HZ2.out).mono ?_; rintro en W3 ⟨rfl, hg⟩; replace s := s.none_ hg; clear hg)))
      go_roundw
      case rel => exact ⟨k + 1, by omega, by go_num, s⟩
      case measure => simp [intOf]; omega
    · have hge : (zs.length : Int) ≤ (k : Int) := by omega
      have hge2 : decide (k < zs.length) = false := decide_eq_false hlt
      clear hk hlt
      go_wp2_with (first | (go_at_call 14; go_must (refine (oback_any zs _ _ _ s.tab HZ2.out).mono ?_; rintro en W2 ⟨rfl, hg⟩; replace s := s.none_ hg; clear hg)) | (go_at_call 15; go_must (refine (rback_any zs _ _ _ s.tab HZ2.out).mono ?_; rintro en W3 ⟨rfl, hg⟩; replace s := s.none_ hg; clear hg)) | (go_at_call 13; go_must (refine (oworks_any _).mono ?_; rintro en W6 ⟨rfl, hg⟩; replace s := s.none_ hg; clear hg)))
      all_goals go_ret
      all_goals exact ⟨rfl, s.step⟩
end Go.Proofs.Ytablbgfleopbfaa

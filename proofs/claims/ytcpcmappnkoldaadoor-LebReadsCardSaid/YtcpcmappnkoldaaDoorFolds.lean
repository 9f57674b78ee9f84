/- LebFolds: whatever two whole numbers, the call returns true, and turns nothing that was there. -/
import Derived.Test.YtcpcmappnkoldaaDoorLebV
import Derived.LoopTactic
import Derived.Deep.LoopGhost
namespace Go.Proofs.YtcpcmappnkoldaaDoor
open Go.RowKit

theorem sev_mono : ∀ (m n : Nat), n ≤ m → (sev n).length ≤ (sev m).length := by
  intro m
  induction m using Nat.strongRecOn with
  | _ m ih =>
    intro n hn
    by_cases h1 : n < 128
    · rw [sev_lt h1]; exact sev_pos m
    · rw [sev_ge (by omega : 128 ≤ n), sev_ge (by omega : 128 ≤ m), List.length_cons, List.length_cons]
      have := ih (m / 128) (by omega) (n / 128) (by omega)
      omega
theorem St.drop {w0 w : World} {rs : List RD} {fs : List FD} (s : St w0 w rs fs) : St w0 w [] [] := ⟨s.err, s.err0, s.step, by simp, by simp, by simp⟩
theorem folded_len {w0 w : World} {rs : List RD} {fs : List FD} (s : St w0 w rs fs) (z : Int) (hz : Whole z) :
    Calls Tryd.prog 29 #[.int .i64 z] w fun e w' => ∃ t : ByteArray, t.data.toList = sev (foldN z) ∧ t.size = (sev (foldN z)).length ∧ e = .returned (.string t) ∧ St w0 w' rs fs :=
  (folded_any z hz w).mono fun _ _ ⟨h1, h2⟩ => ⟨_, by simp, by rw [← bytes_len], h1, s.none_ h2⟩
theorem put_eq {w0 w : World} {rs : List RD} {fs : List FD} (s : St w0 w rs fs) (n : Nat) (v : Int) (t : ByteArray) (hn : n < 18446744073709551616) (hv : v = (n : Int)) (ht : t.data.toList = sev n) :
    Calls Tryd.prog 28 #[.int .u64 v] w fun e w' => e = .returned (.string t) ∧ St w0 w' rs fs := by
  subst hv
  exact put_st s n t hn ht.symm
theorem u_eq {w0 w : World} {rs : List RD} {fs : List FD} {g a bg : Nat} {bs rest : List UInt8} (s : St w0 w (⟨g, bs, a, bg⟩ :: rs) fs) (n b : Nat) (v : Int) (hv : v = (n : Int)) (hn : n < 18446744073709551616) (he : bs.drop a = sev n ++ rest) (hb : a + (sev n).length = b) :
    Calls Tryd.prog 10 #[.pointer (some ⟨g, 0, none⟩)] w fun e w' => e = .returned (.tuple #[.int .u64 v, .nilIface]) ∧ St w0 w' (⟨g, bs, b, bg⟩ :: rs) fs := by
  subst hv
  exact u_laid s n b hn he hb

set_option maxRecDepth 100000 in
set_option maxHeartbeats 8000000 in
theorem folds_any (a b : Int) (ha : Whole a) (hb : Whole b) (w : World) (hE : ErrType w) :
    Calls Tryd.prog 7 #[.int .i64 a, .int .i64 b] w fun e w' => e = .returned (.bool true) ∧ w.grownBy w' none := by
  have hg0 : w.grownBy (w.alloc (.cells #[.int .i64 a, .int .i64 b] 2)) none := only_alloc (only_refl _ _) _
  have S0 := St.start (hE.kept hg0 (fun _ e => by cases e))
  have B0 := Blk.new w 2 #[.int .i64 a, .int .i64 b]
  clear hE
  go_enter Tryd.func7, Tryd.ntmps7
  go_wp2_with fail
  generalize hW : w.alloc (.cells #[.int .i64 a, .int .i64 b] 2) = W at *
  generalize w.heap.size = q at *
  go_loopw [16] (fun vi wr => ∃ k : Nat, vi = .int .i64 (k : Int) ∧ k ≤ 2 ∧ St W wr [] []) (fun vi _ => 2 - (intOf vi).toNat)
  case atStart => exact ⟨0, rfl, by omega, S0⟩
  case round =>
    obtain ⟨k, rfl, hk, S1⟩ := hrel
    have B1 := B0.kept S1.step
    clear S0 B0 hW
    by_cases hk2 : k < 2
    · obtain ⟨z, hz, hc⟩ : ∃ z, Whole z ∧ wr.cell? ⟨q, k, none⟩ = some (.int .i64 z) := by
        rcases (by omega : k = 0 ∨ k = 1) with rfl | rfl
        · exact ⟨a, ha, B1.cell 0⟩
        · exact ⟨b, hb, B1.cell 1⟩
      have hk2' : (k : Int) < 2 := by omega
      clear ha hb B1
      have hz' := Lib.hid hz
      obtain ⟨hz1, hz2⟩ := hz
      go_wp2_with fail
      refine (folded_len S1 z hz'.out).mono ?_
      rintro e w1 ⟨t, ht, hsz, rfl, S2⟩
      have hT := Lib.hid ht
      have hlen := sev_len10 (foldN_lt hz'.out)
      clear ht S1 hc
      go_wp2_with fail
      refine (reader_st S2 t (by omega)).mono ?_
      rintro e w2 ⟨g, rfl, S3⟩
      clear S2 hsz hlen
      by_cases h0 : 0 ≤ z
      · have hv : Hid (2 * z = (foldN z : Int)) := by show _ = _; unfold foldN; rw [if_pos h0]; omega
        go_wp2_with fail
        refine (u_eq S3 (foldN z) _ (2 * z) hv.out (foldN_lt hz'.out) (rest := []) (by rw [hT.out]; simp) rfl).mono ?_
        rintro e w3 ⟨rfl, S4⟩
        clear S3
        go_wp2_with fail
        refine (folded_st S4 z t hz'.out hT.out.symm).mono ?_
        rintro e w4 ⟨rfl, S5⟩
        clear S4
        go_wp2_with fail
        refine (put_eq S5 (foldN z) (2 * z) t (foldN_lt hz'.out) hv.out hT.out).mono ?_
        rintro e w5 ⟨rfl, S6⟩
        clear S5
        go_wp2_with fail
        go_roundw
        case rel => exact ⟨k + 1, by go_num, by omega, S6.drop⟩
        case measure => simp [intOf]; omega
      · have hv : Hid (2 * (-z) - 1 = (foldN z : Int)) := by show _ = _; unfold foldN; rw [if_neg h0]; omega
        have h1 : z < 0 := by omega
        go_wp2_with fail
        refine (u_eq S3 (foldN z) _ (2 * (-z) - 1) hv.out (foldN_lt hz'.out) (rest := []) (by rw [hT.out]; simp) rfl).mono ?_
        rintro e w3 ⟨rfl, S4⟩
        clear S3
        go_wp2_with fail
        refine (folded_st S4 z t hz'.out hT.out.symm).mono ?_
        rintro e w4 ⟨rfl, S5⟩
        clear S4
        go_wp2_with fail
        refine (put_eq S5 (foldN z) (2 * (-z) - 1) t (foldN_lt hz'.out) hv.out hT.out).mono ?_
        rintro e w5 ⟨rfl, S6⟩
        clear S5
        go_wp2_with fail
        go_roundw
        case rel => exact ⟨k + 1, by go_num, by omega, S6.drop⟩
        case measure => simp [intOf]; omega
    · have hk3 : (2 : Int) ≤ (k : Int) := by omega
      clear B1
      have HA := Lib.hid ha
      have HB := Lib.hid hb
      have hend := Lib.hid (fun w' (h : W.grownBy w' none) => only_trans hg0 h)
      clear hg0 ha hb
      rcases (by omega : (a < b ∧ b < 0) ∨ (a < b ∧ a < 0 ∧ 0 ≤ b) ∨ (a < b ∧ 0 ≤ a) ∨ (a = b ∧ a < 0) ∨ (a = b ∧ 0 ≤ a) ∨ (b < a ∧ a < 0) ∨ (b < a ∧ b < 0 ∧ 0 ≤ a) ∨ (b < a ∧ 0 ≤ b)) with ⟨h1, h2⟩ | ⟨h1, h2, h3⟩ | ⟨h1, h2⟩ | ⟨h1, h2⟩ | ⟨h1, h2⟩ | ⟨h1, h2⟩ | ⟨h1, h2, h3⟩ | ⟨h1, h2⟩
      · have hm : Hid (foldN b ≤ foldN a) := by show _ ≤ _; unfold foldN; split <;> split <;> omega
        go_wp2_with fail
        refine (works_any _ S1.err).mono ?_
        rintro e w1 ⟨rfl, hg1⟩
        have S2 := S1.none_ hg1
        clear S1 hg1
        go_wp2_with fail
        refine (folded_len S2 b HB.out).mono ?_
        rintro e w2 ⟨t1, ht1, hs1, rfl, S3⟩
        have HS1 := Lib.hid hs1
        clear S2 ht1 hs1
        go_wp2_with fail
        refine (folded_len S3 a HA.out).mono ?_
        rintro e w3 ⟨t2, ht2, hs2, rfl, S4⟩
        clear S3 ht2
        have hle : (t1.size : Int) ≤ (t2.size : Int) := by rw [HS1.out, hs2]; exact Int.ofNat_le.2 (sev_mono _ _ hm.out)
        clear hs2
        go_wp2_with fail
        go_ret
        exact ⟨rfl, hend.out _ S4.step⟩
      · go_wp2_with fail
        refine (works_any _ S1.err).mono ?_
        rintro e w1 ⟨rfl, hg1⟩
        have S2 := S1.none_ hg1
        clear S1 hg1
        go_wp2_with fail
        go_ret
        exact ⟨rfl, hend.out _ S2.step⟩
      · have hm : Hid (foldN a ≤ foldN b) := by show _ ≤ _; unfold foldN; split <;> split <;> omega
        go_wp2_with fail
        refine (works_any _ S1.err).mono ?_
        rintro e w1 ⟨rfl, hg1⟩
        have S2 := S1.none_ hg1
        clear S1 hg1
        go_wp2_with fail
        refine (folded_len S2 a HA.out).mono ?_
        rintro e w2 ⟨t1, ht1, hs1, rfl, S3⟩
        have HS1 := Lib.hid hs1
        clear S2 ht1 hs1
        go_wp2_with fail
        refine (folded_len S3 b HB.out).mono ?_
        rintro e w3 ⟨t2, ht2, hs2, rfl, S4⟩
        clear S3 ht2
        have hle : (t1.size : Int) ≤ (t2.size : Int) := by rw [HS1.out, hs2]; exact Int.ofNat_le.2 (sev_mono _ _ hm.out)
        clear hs2
        go_wp2_with fail
        go_ret
        exact ⟨rfl, hend.out _ S4.step⟩
      · subst h1
        have hm : Hid (foldN a ≤ foldN a) := Nat.le_refl _
        go_wp2_with fail
        refine (works_any _ S1.err).mono ?_
        rintro e w1 ⟨rfl, hg1⟩
        have S2 := S1.none_ hg1
        clear S1 hg1
        go_wp2_with fail
        refine (folded_len S2 a HA.out).mono ?_
        rintro e w2 ⟨t1, ht1, hs1, rfl, S3⟩
        have HS1 := Lib.hid hs1
        clear S2 ht1 hs1
        go_wp2_with fail
        refine (folded_len S3 a HA.out).mono ?_
        rintro e w3 ⟨t2, ht2, hs2, rfl, S4⟩
        clear S3 ht2
        have hle : (t1.size : Int) ≤ (t2.size : Int) := by rw [HS1.out, hs2]; exact Int.ofNat_le.2 (sev_mono _ _ hm.out)
        clear hs2
        go_wp2_with fail
        go_ret
        exact ⟨rfl, hend.out _ S4.step⟩
      · subst h1
        have hm : Hid (foldN a ≤ foldN a) := Nat.le_refl _
        go_wp2_with fail
        refine (works_any _ S1.err).mono ?_
        rintro e w1 ⟨rfl, hg1⟩
        have S2 := S1.none_ hg1
        clear S1 hg1
        go_wp2_with fail
        refine (folded_len S2 a HA.out).mono ?_
        rintro e w2 ⟨t1, ht1, hs1, rfl, S3⟩
        have HS1 := Lib.hid hs1
        clear S2 ht1 hs1
        go_wp2_with fail
        refine (folded_len S3 a HA.out).mono ?_
        rintro e w3 ⟨t2, ht2, hs2, rfl, S4⟩
        clear S3 ht2
        have hle : (t1.size : Int) ≤ (t2.size : Int) := by rw [HS1.out, hs2]; exact Int.ofNat_le.2 (sev_mono _ _ hm.out)
        clear hs2
        go_wp2_with fail
        go_ret
        exact ⟨rfl, hend.out _ S4.step⟩
      · have hm : Hid (foldN a ≤ foldN b) := by show _ ≤ _; unfold foldN; split <;> split <;> omega
        go_wp2_with fail
        refine (works_any _ S1.err).mono ?_
        rintro e w1 ⟨rfl, hg1⟩
        have S2 := S1.none_ hg1
        clear S1 hg1
        go_wp2_with fail
        refine (folded_len S2 a HA.out).mono ?_
        rintro e w2 ⟨t1, ht1, hs1, rfl, S3⟩
        have HS1 := Lib.hid hs1
        clear S2 ht1 hs1
        go_wp2_with fail
        refine (folded_len S3 b HB.out).mono ?_
        rintro e w3 ⟨t2, ht2, hs2, rfl, S4⟩
        clear S3 ht2
        have hle : (t1.size : Int) ≤ (t2.size : Int) := by rw [HS1.out, hs2]; exact Int.ofNat_le.2 (sev_mono _ _ hm.out)
        clear hs2
        go_wp2_with fail
        go_ret
        exact ⟨rfl, hend.out _ S4.step⟩
      · go_wp2_with fail
        refine (works_any _ S1.err).mono ?_
        rintro e w1 ⟨rfl, hg1⟩
        have S2 := S1.none_ hg1
        clear S1 hg1
        go_wp2_with fail
        go_ret
        exact ⟨rfl, hend.out _ S2.step⟩
      · have hm : Hid (foldN b ≤ foldN a) := by show _ ≤ _; unfold foldN; split <;> split <;> omega
        go_wp2_with fail
        refine (works_any _ S1.err).mono ?_
        rintro e w1 ⟨rfl, hg1⟩
        have S2 := S1.none_ hg1
        clear S1 hg1
        go_wp2_with fail
        refine (folded_len S2 b HB.out).mono ?_
        rintro e w2 ⟨t1, ht1, hs1, rfl, S3⟩
        have HS1 := Lib.hid hs1
        clear S2 ht1 hs1
        go_wp2_with fail
        refine (folded_len S3 a HA.out).mono ?_
        rintro e w3 ⟨t2, ht2, hs2, rfl, S4⟩
        clear S3 ht2
        have hle : (t1.size : Int) ≤ (t2.size : Int) := by rw [HS1.out, hs2]; exact Int.ofNat_le.2 (sev_mono _ _ hm.out)
        clear hs2
        go_wp2_with fail
        go_ret
        exact ⟨rfl, hend.out _ S4.step⟩
end Go.Proofs.YtcpcmappnkoldaaDoor

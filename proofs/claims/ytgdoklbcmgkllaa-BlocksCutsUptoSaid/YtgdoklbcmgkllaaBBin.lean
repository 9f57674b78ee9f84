/- slices.BinarySearch over numbers that rise: where the number lies; slices.Index of false. -/
import Derived.Test.YtgdoklbcmgkllaaBSil
namespace Go.Proofs.Ytgdoklbcmgkllaa
open Go.RowKit

theorem cmpNaN_any (a : Int) (w : World) : Calls Try.prog 36 #[.int .i64 a] w fun e w' => e = .returned (.bool false) ∧ w.grownBy w' none := by
  have h : (a != a) = false := by simp
  go_enter Try.func36, Try.ntmps36
  go_wp2_with fail
  go_ret
  exact ⟨rfl, only_refl _ _⟩
theorem cmpLess_any (a b : Int) (w : World) : Calls Try.prog 34 #[.int .i64 a, .int .i64 b] w fun e w' => e = .returned (.bool (decide (a < b))) ∧ w.grownBy w' none := by
  have h1 := fun w => cmpNaN_any a w
  go_enter Try.func34, Try.ntmps34
  go_wp2_with fail
  refine (h1 _).mono ?_
  rintro e w1 ⟨rfl, hg⟩
  go_wp2_with fail
  go_ret
  exact ⟨rfl, hg⟩
set_option maxRecDepth 100000 in
set_option maxHeartbeats 4000000 in
theorem binary_any (S : Nat → Prop) (v : Value) (zs : List Int) (t : Int) (b : Nat) (w : World) (hI : IntsA S w v zs) (hS : ∀ k, S k → k < w.heap.size) (hn : zs.length ≤ 128) (hb : zs[b]? = some t) (hup : ∀ (i j : Nat) (x y : Int), zs[i]? = some x → zs[j]? = some y → i < j → x < y) :
    Calls Try.prog 23 #[v, .int .i64 t] w fun e w' => e = .returned (.tuple #[.int .i64 (b : Int), .bool true]) ∧ w.grownBy w' none := by
  obtain ⟨A, cp, rfl, hA⟩ := id hI
  obtain ⟨bb, off, rfl, hSb, hcell⟩ := hA (by intro e; rw [e] at hb; simp at hb)
  have hbl : b < zs.length := (List.getElem?_eq_some_iff.1 hb).1
  have hbb := hS _ hSb
  have HC : Hid (∀ W, w.grownBy W none → ∀ i z, zs[i]? = some z → W.cell? ⟨bb, off + i, none⟩ = some (.int .i64 z)) := Lib.hid fun W hW i z hz => cell_row (hcell i z hz) hW (fun e => by cases e)
  have HB := Lib.hid hb
  have HU := Lib.hid hup
  have hnI : (zs.length : Int) ≤ 128 := by omega
  clear hA hcell hb hup hI hS
  go_enter Try.func23, Try.ntmps23
  go_wp2_with fail
  go_loopw [7, 8] (fun x y wr => ∃ i j : Nat, x = .int .i64 (i : Int) ∧ y = .int .i64 (j : Int) ∧ i ≤ b ∧ b ≤ j ∧ j ≤ zs.length ∧ w.grownBy wr none) (fun x y _ => (intOf y).toNat - (intOf x).toNat)
  case atStart => exact ⟨0, zs.length, rfl, rfl, Nat.zero_le _, by omega, Nat.le_refl _, only_refl _ _⟩
  case round =>
    obtain ⟨i, j, rfl, rfl, hib, hbj, hjn, hg⟩ := hrel
    have HG := Lib.hid hg
    clear hg
    have hi0 : (0 : Int) ≤ (i : Int) := by omega
    have hj0 : (0 : Int) ≤ (j : Int) := by omega
    have hjI : (j : Int) ≤ 128 := by omega
    have hiI : (i : Int) ≤ 128 := by omega
    by_cases hij : i < j
    · have hijI : (i : Int) < (j : Int) := by omega
      obtain ⟨z, hz⟩ : ∃ z, zs[(i + j) / 2]? = some z := ⟨_, List.getElem?_eq_getElem (by omega)⟩
      have c0 := HC.out _ HG.out _ _ hz
      have hls := fun w => cmpLess_any z t w
      have HZ := Lib.hid hz
      clear hz
      go_wp2_with fail
      refine (hls _).mono ?_
      rintro e w2 ⟨rfl, hg2⟩
      have HG2 := Lib.hid (only_trans HG.out hg2)
      clear hls hg2 c0
      by_cases hzt : z < t
      · have hlt : (i + j) / 2 < b := by
          rcases Nat.lt_or_ge ((i + j) / 2) b with h | h
          · exact h
          · exfalso
            rcases Nat.lt_or_eq_of_le h with h | h
            · have := HU.out _ _ _ _ HB.out HZ.out h
              omega
            · have h1 := HZ.out
              rw [← h, HB.out] at h1
              injection h1 with h1
              omega
        go_wp2_with fail
        go_roundw
        case rel => exact ⟨(i + j) / 2 + 1, j, by go_num, rfl, by omega, hbj, hjn, HG2.out⟩
        case measure => simp [intOf]; omega
      · have hle : b ≤ (i + j) / 2 := by
          rcases Nat.lt_or_ge ((i + j) / 2) b with h | h
          · have := HU.out _ _ _ _ HZ.out HB.out h
            omega
          · exact h
        go_wp2_with fail
        go_roundw
        case rel => exact ⟨i, (i + j) / 2, rfl, by go_num, hib, hle, by omega, HG2.out⟩
        case measure => simp [intOf]; omega
    · obtain rfl : i = b := by omega
      obtain rfl : i = j := by omega
      have c0 := HC.out _ HG.out i t HB.out
      have hlt : (i : Int) < (zs.length : Int) := by omega
      clear hib hbj hjn hij
      go_wp2_with fail
      refine bodyPost_ret (v := .tuple #[.int .i64 (i : Int), .bool true]) (by simp [results, Try.results23, go_sem]) rfl ?_
      exact ⟨rfl, HG.out⟩
def indexF (s : List Bool) : Int := match (List.range s.length).find? (fun i => !(s.getD i true)) with
  | some i => (i : Int)
  | none => -1
set_option maxRecDepth 100000 in
set_option maxHeartbeats 4000000 in
/-- The first one that is false. -/
theorem index_any (g : Nat) (s : List Bool) (w : World) (hb : Blk w g 4 (bsV s)) (hn : s.length ≤ 128) :
    Calls Try.prog 24 #[.slice (some ⟨g, 0, none⟩) s.length s.length, .bool false] w fun e w' => e = .returned (.int .i64 (indexF s)) ∧ w.grownBy w' none := by
  have HB := Lib.hid hb
  have hnI : (s.length : Int) ≤ 128 := by omega
  clear hb
  go_enter Try.func24, Try.ntmps24
  go_wp2_with fail
  go_loopw [8] (fun z wr => ∃ k : Nat, k ≤ s.length ∧ z = .int .i64 (k : Int) ∧ w.grownBy wr none ∧ ∀ j, j < k → s.getD j true = true) (fun z _ => s.length - (intOf z).toNat)
  case atStart => exact ⟨0, Nat.zero_le _, rfl, only_refl _ _, fun j h => by omega⟩
  case round =>
    obtain ⟨k, hk, rfl, hg, hlow⟩ := hrel
    have HG := Lib.hid hg
    have HLow := Lib.hid hlow
    by_cases hlt : k < s.length
    · have hk0 : (0 : Int) ≤ (k : Int) := by omega
      have hk1 : (k : Int) < (s.length : Int) := by omega
      obtain ⟨b, hb⟩ : ∃ b, s[k]? = some b := ⟨_, List.getElem?_eq_getElem hlt⟩
      have c0 : wr.cell? ⟨g, k, none⟩ = some (.bool b) := by rw [(HB.out.kept hg).cell k, bsV_at hb]
      have HD : Hid (s.getD k true = b) := Lib.hid (by rw [List.getD_eq_getElem?_getD, hb]; rfl)
      clear hg hlow hb
      cases b with
      | true =>
        have HR : Hid (∀ j, j < k + 1 → s.getD j true = true) := Lib.hid fun j hj => by
          rcases Nat.lt_or_eq_of_le (Nat.le_of_lt_succ hj) with h | h
          · exact HLow.out j h
          · rw [h]; exact HD.out
        go_wp2_with fail
        go_roundw
        case rel => exact ⟨k + 1, by omega, by go_num, HG.out, HR.out⟩
        case measure => simp [intOf]; omega
      | false =>
        have HO : Hid (indexF s = (k : Int)) := Lib.hid (by unfold indexF; rw [find_here hlt (fun j hj => by rw [HLow.out j hj]; rfl) (by rw [HD.out]; rfl)])
        go_wp2_with fail
        go_ret
        exact ⟨by rw [HO.out]; rfl, HG.out⟩
    · have hge : (s.length : Int) ≤ (k : Int) := by omega
      have HO : Hid (indexF s = -1) := Lib.hid (by unfold indexF; rw [find_never fun j hj => by rw [hlow j (by omega)]; rfl])
      clear hg hlow hk
      go_wp2_with fail
      go_ret
      exact ⟨by rw [HO.out]; rfl, HG.out⟩
end Go.Proofs.Ytgdoklbcmgkllaa

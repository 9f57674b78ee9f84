/- LebPuts: whatever rows of numbers and whole numbers, the call returns true, and turns nothing that was there. -/
import Derived.Test.YtcpcmappnkoldaaDoorNums
import Derived.LoopTactic
import Derived.Deep.LoopGhost
import Derived.Deep.DeepCutAuto
import Derived.Deep.CutBlock
import Derived.Laws.StructEq
namespace Go.Proofs.YtcpcmappnkoldaaDoor
open Go.RowKit

set_option maxRecDepth 100000 in
set_option maxHeartbeats 8000000 in
theorem puts_any (A B : Option Addr) (n c m d : Nat) (lf : Nat → Nat) (mf : Nat → Int) (w : World) (hE : ErrType w) (hl : U64s w A n lf) (hm : I64s w B m mf) :
    Calls Tryd.prog 4 #[.slice A n c, .slice B m d] w fun e w' => e = .returned (.bool true) ∧ w.grownBy w' none := by
  have HL := Lib.hid hl
  have HM := Lib.hid hm
  have HB := Lib.hid (allB_len (n := n) (m := m) (lf := lf) (mf := mf) (fun k hk => by obtain ⟨_, _, _, _, h, _⟩ := hl k hk; exact h) (fun k hk => by obtain ⟨_, _, _, _, h, _⟩ := hm k hk; exact h))
  clear hl hm
  go_enter Tryd.func4, Tryd.ntmps4
  go_wp2_with fail
  refine (newWriter_any w.heap.size _ (Nat.le_refl _)).mono ?_
  rintro e w1 ⟨g, rfl, _, hg, hw⟩
  have S0 : PW w w1 g [] := ⟨hE, hg, hw⟩
  clear hE hg hw
  go_wp2_with fail
  go_loopw [6, 7] (fun vt vi wr => ∃ (k : Nat) (t : ByteArray), vt = .string t ∧ vi = .int .i64 (k : Int) ∧ k ≤ 30 ∧ t.data.toList = allB n m lf mf k ∧ PW w wr g (allB n m lf mf k)) (fun _ vi _ => 30 - (intOf vi).toNat)
  case atStart => exact ⟨0, ⟨#[]⟩, rfl, rfl, by omega, rfl, S0⟩
  case round =>
    obtain ⟨k, t, rfl, rfl, hk, ht, S⟩ := hrel
    have HT := Lib.hid ht
    have hlen := HB.out k
    have hts : t.size ≤ 600 := by rw [← bytes_len, ht]; omega
    clear ht S0
    rcases (by omega : (k < 30 ∧ k < n ∧ k < m) ∨ (k < 30 ∧ k < n ∧ ¬ k < m) ∨ (k < 30 ∧ ¬ k < n ∧ k < m) ∨ (¬ k < n ∧ ¬ k < m) ∨ (k = 30 ∧ (k < n ∨ k < m))) with ⟨hk30, hkn, hkm⟩ | ⟨hk30, hkn, hkm⟩ | ⟨hk30, hkn, hkm⟩ | ⟨hkn, hkm⟩ | ⟨hk30, hkk⟩
    · have i1 : (k : Int) < 30 := by omega
      have i2 : (k : Int) < (n : Int) := by omega
      have i3 : (k : Int) < (m : Int) := by omega
      rcases (by omega : n < m ∨ m ≤ n) with hnm | hnm
      · have i4 : (n : Int) < (m : Int) := by omega
        obtain ⟨b1, o1, rfl, hbl1, hlk, hcell1⟩ := HL.out k hkn
        have HLK := Lib.hid hlk
        have HCL : Hid (∀ v, w.grownBy v none → v.cell? ⟨b1, o1 + k, none⟩ = some (.int .u64 (lf k : Int))) := fun v hv => (World.cell?_of_block (hv.block b1 hbl1 (fun e => by cases e))).trans hcell1
        clear hcell1 hlk hbl1
        obtain ⟨b2, o2, rfl, hbl2, hmk, hcell2⟩ := HM.out k hkm
        have HMK := Lib.hid hmk
        have HCM : Hid (∀ v, w.grownBy v none → v.cell? ⟨b2, o2 + k, none⟩ = some (.int .i64 (mf k))) := fun v hv => (World.cell?_of_block (hv.block b2 hbl2 (fun e => by cases e))).trans hcell2
        clear hcell2 hmk hbl2
        have hlen2 : Hid ((allB n m lf mf k ++ sev (lf k)).length ≤ 1000) := by show _ ≤ _; rw [List.length_append]; have := sev_len10 HLK.out; omega
        have c1 := HCL.out _ S.step
        go_wp2_with fail
        refine (putU_pw S (lf k) HLK.out (by omega)).mono ?_
        rintro e w1 ⟨rfl, S1⟩
        clear S c1
        have c1 := HCL.out _ S1.step
        go_wp2_with fail
        refine (rbytes_pw S1 (lf k) HLK.out).mono ?_
        rintro e w2 ⟨s1, rfl, hs1, hsz1, S2⟩
        clear S1 c1
        have hcc : ¬ (9223372036854775807 < (t.size : Int) + (s1.size : Int)) := by omega
        have hcc2 : ¬ (IntKind.i64.max < (t.size : Int) + (s1.size : Int)) := hcc
        have HT2 := Lib.hid (app_list t s1 HT.out hs1)
        have hts2 : Hid ((t ++ s1).size ≤ 610) := by show _ ≤ _; rw [← bytes_len, app_list t s1 rfl rfl, List.length_append, bytes_len, bytes_len]; omega
        clear hs1 HT
        go_upto_region 9 with fail
        generalize t ++ s1 = t2 at *
        clear hcc hcc2 hts hsz1
        have hts4 := hts2.out
        clear hts2
        have c2 := HCM.out _ S2.step
        go_wp2_with fail
        refine (putS_pw S2 (mf k) HMK.out (by have := hlen2.out; omega)).mono ?_
        rintro e w3 ⟨rfl, S3⟩
        clear S2 c2
        have c2 := HCM.out _ S3.step
        go_wp2_with fail
        refine (rfold_pw S3 (mf k) HMK.out).mono ?_
        rintro e w4 ⟨rfl, S4⟩
        clear S3 c2
        go_wp2_with fail
        refine (rbytes_pw S4 (foldN (mf k)) (foldN_lt HMK.out)).mono ?_
        rintro e w5 ⟨s3, rfl, hs3, hsz3, S5⟩
        clear S4
        have hcc : ¬ (9223372036854775807 < (t2.size : Int) + (s3.size : Int)) := by omega
        have hcc2 : ¬ (IntKind.i64.max < (t2.size : Int) + (s3.size : Int)) := hcc
        have HT3 := Lib.hid (app_list t2 s3 HT2.out hs3)
        clear hs3 HT2
        go_upto_region 12 with fail
        generalize t2 ++ s3 = t3 at *
        clear hcc hcc2 hsz3
        go_wp2_with fail
        refine (wtext_eq S5.wtr t3 HT3.out).mono ?_
        rintro e w6 ⟨rfl, rfl⟩
        go_wp2_with fail
        go_roundw
        case rel => exact ⟨k + 1, t3, rfl, by go_num, by omega, by rw [allB_both hkn hkm]; exact HT3.out, by rw [allB_both hkn hkm]; exact S5⟩
        case measure => simp [intOf]; omega
      · have i4 : (m : Int) ≤ (n : Int) := by omega
        obtain ⟨b1, o1, rfl, hbl1, hlk, hcell1⟩ := HL.out k hkn
        have HLK := Lib.hid hlk
        have HCL : Hid (∀ v, w.grownBy v none → v.cell? ⟨b1, o1 + k, none⟩ = some (.int .u64 (lf k : Int))) := fun v hv => (World.cell?_of_block (hv.block b1 hbl1 (fun e => by cases e))).trans hcell1
        clear hcell1 hlk hbl1
        obtain ⟨b2, o2, rfl, hbl2, hmk, hcell2⟩ := HM.out k hkm
        have HMK := Lib.hid hmk
        have HCM : Hid (∀ v, w.grownBy v none → v.cell? ⟨b2, o2 + k, none⟩ = some (.int .i64 (mf k))) := fun v hv => (World.cell?_of_block (hv.block b2 hbl2 (fun e => by cases e))).trans hcell2
        clear hcell2 hmk hbl2
        have hlen2 : Hid ((allB n m lf mf k ++ sev (lf k)).length ≤ 1000) := by show _ ≤ _; rw [List.length_append]; have := sev_len10 HLK.out; omega
        have c1 := HCL.out _ S.step
        go_wp2_with fail
        refine (putU_pw S (lf k) HLK.out (by omega)).mono ?_
        rintro e w1 ⟨rfl, S1⟩
        clear S c1
        have c1 := HCL.out _ S1.step
        go_wp2_with fail
        refine (rbytes_pw S1 (lf k) HLK.out).mono ?_
        rintro e w2 ⟨s1, rfl, hs1, hsz1, S2⟩
        clear S1 c1
        have hcc : ¬ (9223372036854775807 < (t.size : Int) + (s1.size : Int)) := by omega
        have hcc2 : ¬ (IntKind.i64.max < (t.size : Int) + (s1.size : Int)) := hcc
        have HT2 := Lib.hid (app_list t s1 HT.out hs1)
        have hts2 : Hid ((t ++ s1).size ≤ 610) := by show _ ≤ _; rw [← bytes_len, app_list t s1 rfl rfl, List.length_append, bytes_len, bytes_len]; omega
        clear hs1 HT
        go_upto_region 9 with fail
        generalize t ++ s1 = t2 at *
        clear hcc hcc2 hts hsz1
        have hts4 := hts2.out
        clear hts2
        have c2 := HCM.out _ S2.step
        go_wp2_with fail
        refine (putS_pw S2 (mf k) HMK.out (by have := hlen2.out; omega)).mono ?_
        rintro e w3 ⟨rfl, S3⟩
        clear S2 c2
        have c2 := HCM.out _ S3.step
        go_wp2_with fail
        refine (rfold_pw S3 (mf k) HMK.out).mono ?_
        rintro e w4 ⟨rfl, S4⟩
        clear S3 c2
        go_wp2_with fail
        refine (rbytes_pw S4 (foldN (mf k)) (foldN_lt HMK.out)).mono ?_
        rintro e w5 ⟨s3, rfl, hs3, hsz3, S5⟩
        clear S4
        have hcc : ¬ (9223372036854775807 < (t2.size : Int) + (s3.size : Int)) := by omega
        have hcc2 : ¬ (IntKind.i64.max < (t2.size : Int) + (s3.size : Int)) := hcc
        have HT3 := Lib.hid (app_list t2 s3 HT2.out hs3)
        clear hs3 HT2
        go_upto_region 12 with fail
        generalize t2 ++ s3 = t3 at *
        clear hcc hcc2 hsz3
        go_wp2_with fail
        refine (wtext_eq S5.wtr t3 HT3.out).mono ?_
        rintro e w6 ⟨rfl, rfl⟩
        go_wp2_with fail
        go_roundw
        case rel => exact ⟨k + 1, t3, rfl, by go_num, by omega, by rw [allB_both hkn hkm]; exact HT3.out, by rw [allB_both hkn hkm]; exact S5⟩
        case measure => simp [intOf]; omega
    · have i1 : (k : Int) < 30 := by omega
      have i2 : (k : Int) < (n : Int) := by omega
      have i3 : (m : Int) ≤ (k : Int) := by omega
      have i4 : (m : Int) ≤ (n : Int) := by omega
      obtain ⟨b1, o1, rfl, hbl1, hlk, hcell1⟩ := HL.out k hkn
      have HLK := Lib.hid hlk
      have HCL : Hid (∀ v, w.grownBy v none → v.cell? ⟨b1, o1 + k, none⟩ = some (.int .u64 (lf k : Int))) := fun v hv => (World.cell?_of_block (hv.block b1 hbl1 (fun e => by cases e))).trans hcell1
      clear hcell1 hlk hbl1
      have c1 := HCL.out _ S.step
      go_wp2_with fail
      refine (putU_pw S (lf k) HLK.out (by omega)).mono ?_
      rintro e w1 ⟨rfl, S1⟩
      clear S c1
      have c1 := HCL.out _ S1.step
      go_wp2_with fail
      refine (rbytes_pw S1 (lf k) HLK.out).mono ?_
      rintro e w2 ⟨s1, rfl, hs1, hsz1, S2⟩
      clear S1 c1
      have hcc : ¬ (9223372036854775807 < (t.size : Int) + (s1.size : Int)) := by omega
      have hcc2 : ¬ (IntKind.i64.max < (t.size : Int) + (s1.size : Int)) := hcc
      have HT2 := Lib.hid (app_list t s1 HT.out hs1)
      have hts2 : Hid ((t ++ s1).size ≤ 610) := by show _ ≤ _; rw [← bytes_len, app_list t s1 rfl rfl, List.length_append, bytes_len, bytes_len]; omega
      clear hs1 HT
      go_upto_region 9 with fail
      generalize t ++ s1 = t2 at *
      clear hcc hcc2 hts hsz1
      go_wp2_with fail
      refine (wtext_eq S2.wtr t2 HT2.out).mono ?_
      rintro e w6 ⟨rfl, rfl⟩
      go_wp2_with fail
      go_roundw
      case rel => exact ⟨k + 1, t2, rfl, by go_num, by omega, by rw [allB_left hkn hkm]; exact HT2.out, by rw [allB_left hkn hkm]; exact S2⟩
      case measure => simp [intOf]; omega
    · have i1 : (k : Int) < 30 := by omega
      have i2 : (n : Int) ≤ (k : Int) := by omega
      have i3 : (k : Int) < (m : Int) := by omega
      have i4 : (n : Int) < (m : Int) := by omega
      obtain ⟨b2, o2, rfl, hbl2, hmk, hcell2⟩ := HM.out k hkm
      have HMK := Lib.hid hmk
      have HCM : Hid (∀ v, w.grownBy v none → v.cell? ⟨b2, o2 + k, none⟩ = some (.int .i64 (mf k))) := fun v hv => (World.cell?_of_block (hv.block b2 hbl2 (fun e => by cases e))).trans hcell2
      clear hcell2 hmk hbl2
      have c2 := HCM.out _ S.step
      go_wp2_with fail
      refine (putS_pw S (mf k) HMK.out (by omega)).mono ?_
      rintro e w3 ⟨rfl, S3⟩
      clear S c2
      have c2 := HCM.out _ S3.step
      go_wp2_with fail
      refine (rfold_pw S3 (mf k) HMK.out).mono ?_
      rintro e w4 ⟨rfl, S4⟩
      clear S3 c2
      go_wp2_with fail
      refine (rbytes_pw S4 (foldN (mf k)) (foldN_lt HMK.out)).mono ?_
      rintro e w5 ⟨s3, rfl, hs3, hsz3, S5⟩
      clear S4
      have hcc : ¬ (9223372036854775807 < (t.size : Int) + (s3.size : Int)) := by omega
      have hcc2 : ¬ (IntKind.i64.max < (t.size : Int) + (s3.size : Int)) := hcc
      have HT3 := Lib.hid (app_list t s3 HT.out hs3)
      clear hs3 HT
      go_upto_region 12 with fail
      generalize t ++ s3 = t3 at *
      clear hcc hcc2 hsz3
      go_wp2_with fail
      refine (wtext_eq S5.wtr t3 HT3.out).mono ?_
      rintro e w6 ⟨rfl, rfl⟩
      go_wp2_with fail
      go_roundw
      case rel => exact ⟨k + 1, t3, rfl, by go_num, by omega, by rw [allB_right hkn hkm]; exact HT3.out, by rw [allB_right hkn hkm]; exact S5⟩
      case measure => simp [intOf]; omega
    · have i2 : (n : Int) ≤ (k : Int) := by omega
      have i3 : (m : Int) ≤ (k : Int) := by omega
      rcases (by omega : n < m ∨ m ≤ n) with hnm | hnm
      · have i4 : (n : Int) < (m : Int) := by omega
        go_wp2_with fail
        refine (works_any _ S.err).mono ?_
        rintro e w9 ⟨rfl, hg9⟩
        have S9 := S.none_ hg9
        clear S hg9
        go_wp2_with fail
        go_ret
        exact ⟨rfl, S9.step⟩
      · have i4 : (m : Int) ≤ (n : Int) := by omega
        go_wp2_with fail
        refine (works_any _ S.err).mono ?_
        rintro e w9 ⟨rfl, hg9⟩
        have S9 := S.none_ hg9
        clear S hg9
        go_wp2_with fail
        go_ret
        exact ⟨rfl, S9.step⟩
    · have i1 : (30 : Int) ≤ (k : Int) := by omega
      rcases (by omega : n < m ∨ m ≤ n) with hnm | hnm
      · have i4 : (n : Int) < (m : Int) := by omega
        have i5 : (k : Int) < (m : Int) := by omega
        go_wp2_with fail
        refine (works_any _ S.err).mono ?_
        rintro e w9 ⟨rfl, hg9⟩
        have S9 := S.none_ hg9
        clear S hg9
        go_wp2_with fail
        go_ret
        exact ⟨rfl, S9.step⟩
      · have i4 : (m : Int) ≤ (n : Int) := by omega
        have i5 : (k : Int) < (n : Int) := by omega
        go_wp2_with fail
        refine (works_any _ S.err).mono ?_
        rintro e w9 ⟨rfl, hg9⟩
        have S9 := S.none_ hg9
        clear S hg9
        go_wp2_with fail
        go_ret
        exact ⟨rfl, S9.step⟩
end Go.Proofs.YtcpcmappnkoldaaDoor

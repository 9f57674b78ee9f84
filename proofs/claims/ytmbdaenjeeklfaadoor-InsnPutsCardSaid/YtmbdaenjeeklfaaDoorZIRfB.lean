/- The document's answer for instructions (colloquyref09): Bytes: what it answers, and what it leaves. -/
import Derived.Test.YtmbdaenjeeklfaaDoorZIRfC
import Derived.Test.YtmbdaenjeeklfaaDoorZInQ
import Derived.Test.YtmbdaenjeeklfaaDoorZInG
import Derived.Test.YtmbdaenjeeklfaaDoorZInS
import Derived.Test.YtmbdaenjeeklfaaDoorZInR
namespace Go.Proofs.YtmbdaenjeeklfaaDoor
open Go.RowKit

theorem cat_list {T U : ByteArray} {l m : List UInt8} (h1 : T.data.toList = l) (h2 : U.data.toList = m) : (T ++ U).data.toList = l ++ m := by
  rw [ByteArray.data_append, Array.toList_append, h1, h2]
theorem cat_size (T U : ByteArray) : (T ++ U).size = T.size + U.size := ByteArray.size_append
theorem bytes_arr {T : ByteArray} {l : List UInt8} (h : T.data.toList = l) : T = ⟨l.toArray⟩ := by
  rw [← h]
theorem tl_none {op a b c d : Int} {l : List Int} {x : Ins} (h0 : 0 ≤ op) (h1 : op ≤ 24) (h20 : ¬ op = 20) (h19 : ¬ (op = 19 ∨ op = 21)) (hx : x = ⟨op, a, b, c, d, l⟩) : tl2 (clI op) x = [] := by
  subst hx
  rcases (by omega : op = 0 ∨ op = 1 ∨ op = 2 ∨ op = 3 ∨ op = 4 ∨ op = 5 ∨ op = 6 ∨ op = 7 ∨ op = 8 ∨ op = 13 ∨ op = 24 ∨ op = 9 ∨ op = 10 ∨ op = 14 ∨ op = 15 ∨ op = 22 ∨ op = 16 ∨ op = 17 ∨ op = 23 ∨ op = 11 ∨ op = 12 ∨ op = 18) with rfl | rfl | rfl | rfl | rfl | rfl | rfl | rfl | rfl | rfl | rfl | rfl | rfl | rfl | rfl | rfl | rfl | rfl | rfl | rfl | rfl | rfl <;> rfl
theorem push_not {op : Int} (h0 : 0 ≤ op) (h1 : op ≤ 24) (h : ¬ op = 1) : clI op ≠ .push := by
  rcases (by omega : op = 0 ∨ op = 2 ∨ op = 3 ∨ op = 4 ∨ op = 5 ∨ op = 6 ∨ op = 7 ∨ op = 8 ∨ op = 13 ∨ op = 24 ∨ op = 9 ∨ op = 10 ∨ op = 14 ∨ op = 15 ∨ op = 22 ∨ op = 16 ∨ op = 17 ∨ op = 23 ∨ op = 11 ∨ op = 12 ∨ op = 18 ∨ op = 19 ∨ op = 20 ∨ op = 21) with rfl | rfl | rfl | rfl | rfl | rfl | rfl | rfl | rfl | rfl | rfl | rfl | rfl | rfl | rfl | rfl | rfl | rfl | rfl | rfl | rfl | rfl | rfl | rfl <;> (intro e; cases e)
theorem push_ops {c : Kl} {x : Ins} (hc : c = .push) (hm : May c x) : opsB c x = sev (foldN x.a) := by
  have h8 := hm.parts.2.2.2.2.2
  subst hc
  have hl : x.l = [] := List.length_eq_zero_iff.1 (Nat.le_zero.1 h8)
  rw [opsB_eq, hl]
  simp [hdF, fB, isA]
theorem ints_slice {S : Nat → Prop} {W : World} {A : Option Addr} {n c : Nat} {l : List Int} (h : IntsA S W (.slice A n c) l) (hn : l ≠ []) : ∃ b off, A = some ⟨b, off, none⟩ ∧ ∀ (i : Nat) (z : Int), l[i]? = some z → W.cell? ⟨b, off + i, none⟩ = some (.int .i64 z) := by
  obtain ⟨A', c', e, h2⟩ := h
  injection e with e1 _ _
  subst e1
  obtain ⟨b, off, h3, _, h4⟩ := h2 hn
  exact ⟨b, off, h3, h4⟩
set_option maxRecDepth 100000 in
set_option maxHeartbeats 40000000 in
theorem rinsn_any (s : Sg) (op : Int) (w : World) (hl : IntsA (fun b => b < w.heap.size) w s.lv s.l) (hn : s.l.length ≤ 1000) (ha : Whole s.a) :
    Calls Tryd.prog 12 #[.agg (s.cells op)] w fun e w' => e = .returned (.tuple #[.string ⟨(if chkI (s.ins op) = 0 then bytesI (s.ins op) else []).toArray⟩, .int .i64 (chkI (s.ins op))]) ∧ w.grownBy w' none := by
  have h0 : w.grownBy (w.alloc (.cells (s.cells op) 24)) none := only_alloc (only_refl _ _) _
  have HC := rcheck_any s op (w.alloc (.cells (s.cells op) 24)) (by
    obtain ⟨A, c, k1, k2⟩ := hl.row h0 (fun _ _ e => by cases e)
    refine ⟨A, c, k1, fun hn => ?_⟩
    obtain ⟨b, off, k3, k4, k5⟩ := k2 hn
    exact ⟨b, off, k3, Nat.lt_of_lt_of_le k4 h0.size, k5⟩) hn
  have hb := Blk.new w 24 (s.cells op)
  by_cases hchk : chkI (s.ins op) = 0
  · have hmay : May (clI op) (s.ins op) := may_of hchk
    obtain ⟨o0, o1, _, _⟩ := chkI_op hchk
    have o0 : 0 ≤ op := o0
    have o1 : op ≤ 24 := o1
    obtain ⟨mb, mc, md, m8, ml⟩ := may_all hmay
    have hbe := bytesI_eq (x := s.ins op)
    have hbo : bytesI (s.ins op) = UInt8.ofNat op.toNat :: opsB (clI op) (s.ins op) := rfl
    rw [hchk] at HC ⊢
    rw [if_pos rfl]
    obtain ⟨BT, hBT⟩ : ∃ BT : List UInt8, bytesI (s.ins op) = BT := ⟨_, rfl⟩
    rw [hBT] at hbe hbo ⊢
    obtain ⟨a, b, c, d, lv, l⟩ := s
    have HL := Lib.hid hl
    obtain ⟨A, cp, hlv, _⟩ := hl
    dsimp only at hlv
    subst hlv
    unfold Sg.cells at *
    dsimp only [Sg.ins] at hn ha mb mc md m8 ml hbe hbo hmay HC h0 hb ⊢
    obtain ⟨x, hx⟩ : ∃ x : Ins, x = ⟨op, a, b, c, d, l⟩ := ⟨_, rfl⟩
    rw [← hx] at hbe hbo hmay
    obtain ⟨b0, b1⟩ := mb
    obtain ⟨c0, c1⟩ := mc
    obtain ⟨d0, d1⟩ := md
    have hu8 := byte_of o0 o1
    have hw8 : IntKind.u8.wrap op = op := IntWalk.u8_in op ⟨by omega, by omega⟩
    have x0 := hb.cell 0
    have x1 := hb.cell 1
    have x2 := hb.cell 2
    have x3 := hb.cell 3
    have x4 := hb.cell 4
    have x5 := hb.cell 5
    have H0 := Lib.hid h0
    have HB := Lib.hid hb
    have HML := Lib.hid ml
    have HBE := Lib.hid hbe
    have HBO := Lib.hid hbo
    have HMay := Lib.hid hmay
    clear h0 hb ml hbe hbo hBT hmay
    go_enter Tryd.func12, Tryd.ntmps12
    go_wp2_with fail
    refine HC.mono ?_
    rintro e w1 ⟨rfl, hg1⟩
    have HG1 := Lib.hid (only_trans H0.out hg1)
    have HB1 := Lib.hid (HB.out.kept hg1)
    have hal := (HB.out.kept hg1).alloc (.cells #[.int .u8 op] 5)
    replace x0 := hal.cell 0
    replace x1 := hal.cell 1
    replace x2 := hal.cell 2
    replace x3 := hal.cell 3
    replace x4 := hal.cell 4
    replace x5 := hal.cell 5
    have y0 := HB1.out.cell 0
    have hcv : (convert 63 9 (.slice (some ⟨w1.heap.size, 0, none⟩) 1 1)).run Tryd.prog (w1.alloc (.cells #[.int .u8 op] 5)) = .ok (.string ⟨#[UInt8.ofNat op.toNat]⟩) (w1.alloc (.cells #[.int .u8 op] 5)) := byte_string (Blk.new w1 _ _) hu8
    have HG2 := Lib.hid (only_alloc HG1.out (.cells #[.int .u8 op] 5))
    have HB2 := Lib.hid hal
    clear hg1 hal hu8 HC
    go_upto_block 0 with fail
    generalize w1.alloc (.cells #[.int .u8 op] 5) = w2 at *
    obtain ⟨T0, hT0⟩ : ∃ T0 : ByteArray, (⟨#[UInt8.ofNat op.toNat]⟩ : ByteArray) = T0 := ⟨_, rfl⟩
    rw [hT0]
    have HT0 : Hid (T0.data.toList = [UInt8.ofNat op.toNat] ∧ T0.size = 1) := Lib.hid (by rw [← hT0]; exact ⟨rfl, rfl⟩)
    have HBb : Hid (∀ W, Calls Tryd.prog 38 #[.int .u64 b] W fun e w' => ∃ T : ByteArray, e = .returned (.string T) ∧ T.data.toList = sevZ b ∧ T.size ≤ 10 ∧ W.grownBy w' none) := fun W => rbz b b0 b1 W
    have HBc : Hid (∀ W, Calls Tryd.prog 38 #[.int .u64 c] W fun e w' => ∃ T : ByteArray, e = .returned (.string T) ∧ T.data.toList = sevZ c ∧ T.size ≤ 10 ∧ W.grownBy w' none) := fun W => rbz c c0 c1 W
    have HBd : Hid (∀ W, Calls Tryd.prog 38 #[.int .u64 d] W fun e w' => ∃ T : ByteArray, e = .returned (.string T) ∧ T.data.toList = sevZ d ∧ T.size ≤ 10 ∧ W.grownBy w' none) := fun W => rbz d d0 d1 W
    have kb : IntKind.u64.wrap b = b := IntWalk.u64_in b ⟨b0, by omega⟩
    have kc : IntKind.u64.wrap c = c := IntWalk.u64_in c ⟨c0, by omega⟩
    have kd : IntKind.u64.wrap d = d := IntWalk.u64_in d ⟨d0, by omega⟩
    obtain ⟨TB, hTB⟩ : ∃ T : ByteArray, (⟨(sev b.toNat).toArray⟩ : ByteArray) = T := ⟨_, rfl⟩
    obtain ⟨TC, hTC⟩ : ∃ T : ByteArray, (⟨(sev c.toNat).toArray⟩ : ByteArray) = T := ⟨_, rfl⟩
    have HTB : Hid (∀ W, Calls Tryd.prog 38 #[.int .u64 b] W fun e w' => e = .returned (.string TB) ∧ W.grownBy w' none) := fun W => by
      have := rbytes_any b.toNat (by omega) W
      rwa [hTB, show ((b.toNat : Nat) : Int) = b by omega] at this
    have HTC : Hid (∀ W, Calls Tryd.prog 38 #[.int .u64 c] W fun e w' => e = .returned (.string TC) ∧ W.grownBy w' none) := fun W => by
      have := rbytes_any c.toNat (by omega) W
      rwa [hTC, show ((c.toNat : Nat) : Int) = c by omega] at this
    have HTS : Hid (TB.data.toList = sevZ b ∧ TB.size ≤ 10 ∧ TC.data.toList = sevZ c ∧ TC.size ≤ 10) := Lib.hid (by
      rw [← hTB, ← hTC]
      refine ⟨rfl, ?_, rfl, ?_⟩
      · rw [← bytes_len]; exact sev_len10 (by omega)
      · rw [← bytes_len]; exact sev_len10 (by omega))
    have hrunB : ∀ {args : Array Value} W, (callFunc 38 args).run Tryd.prog W = .ok (.enter 38 args) W := fun W => enters_of Tryd.func38 (by kernel_rfl) rfl _ W
    clear hT0 hcv hw8 y0 HB HB1 H0 HG1 hTB hTC
    by_cases h1 : op = 1
    · have hBP : Hid (BT = UInt8.ofNat op.toNat :: sev (foldN a)) := by
        show _ = _
        rw [HBO.out, push_ops (by rw [h1]; rfl) HMay.out, hx]
      have HFo := Lib.hid (fun W => rfold_any a ha W)
      have HBa := Lib.hid (fun W => rbf a ha W)
      have HX := Lib.hid hx
      subst h1
      clear hx
      go_wp2_with fail
      refine (HFo.out _).mono ?_
      rintro e w3 ⟨rfl, hg3⟩
      have HG3 := Lib.hid (only_trans HG2.out hg3)
      clear hg3
      go_wp2_with fail
      refine (HBa.out _).mono ?_
      rintro e w4 ⟨T1, rfl, hT1, hs1, hg4⟩
      have hcc : ¬ (9223372036854775807 < (T0.size : Int) + (T1.size : Int)) := by have := HT0.out.2; omega
      have HG4 := Lib.hid (only_trans HG3.out hg4)
      have HT : Hid ((T0 ++ T1) = (⟨BT.toArray⟩ : ByteArray)) := by
        refine bytes_arr ?_
        rw [cat_list HT0.out.1 hT1, hBP.out]
        rfl
      clear hT1 hs1 hg4
      go_wp2_with fail
      exact bodyPost_ret (v := .tuple #[.string (T0 ++ T1), .int .i64 0]) (by simp [results, Tryd.results12, go_sem]) rfl ⟨by rw [← HT.out], HG4.out⟩
    · go_cut [5] from 19 to 57 (fun v wx => ∃ T : ByteArray, v = .string T ∧ T.data.toList = UInt8.ofNat op.toNat :: hd2 (clI op) x ∧ T.size ≤ 30 ∧ w2.grownBy wx none)
      case first =>
        have hcases : op = 0 ∨ op = 2 ∨ op = 3 ∨ op = 4 ∨ op = 5 ∨ op = 6 ∨ op = 7 ∨ op = 8 ∨ op = 11 ∨ op = 12 ∨ op = 13 ∨ op = 24 ∨ op = 9 ∨ op = 10 ∨ op = 14 ∨ op = 15 ∨ op = 22 ∨ op = 20 ∨ op = 21 ∨ op = 19 ∨ op = 16 ∨ op = 17 ∨ op = 23 ∨ op = 18 := by omega
        rcases hcases with rfl | rfl | rfl | rfl | rfl | rfl | rfl | rfl | rfl | rfl | rfl | rfl | rfl | rfl | rfl | rfl | rfl | rfl | rfl | rfl | rfl | rfl | rfl | rfl
        · go_wp2_with fail
          go_meet
          exact ⟨T0, rfl, by rw [HT0.out.1, hx]; rfl, by have := HT0.out.2; omega, only_refl _ _⟩
        · go_wp2_with fail
          go_meet
          exact ⟨T0, rfl, by rw [HT0.out.1, hx]; rfl, by have := HT0.out.2; omega, only_refl _ _⟩
        · go_wp2_with fail
          go_meet
          exact ⟨T0, rfl, by rw [HT0.out.1, hx]; rfl, by have := HT0.out.2; omega, only_refl _ _⟩
        · go_wp2_with fail
          go_meet
          exact ⟨T0, rfl, by rw [HT0.out.1, hx]; rfl, by have := HT0.out.2; omega, only_refl _ _⟩
        · go_wp2_with fail
          go_meet
          exact ⟨T0, rfl, by rw [HT0.out.1, hx]; rfl, by have := HT0.out.2; omega, only_refl _ _⟩
        · go_wp2_with fail
          go_meet
          exact ⟨T0, rfl, by rw [HT0.out.1, hx]; rfl, by have := HT0.out.2; omega, only_refl _ _⟩
        · go_wp2_with fail
          go_meet
          exact ⟨T0, rfl, by rw [HT0.out.1, hx]; rfl, by have := HT0.out.2; omega, only_refl _ _⟩
        · go_wp2_with fail
          go_meet
          exact ⟨T0, rfl, by rw [HT0.out.1, hx]; rfl, by have := HT0.out.2; omega, only_refl _ _⟩
        · go_wp2_with fail
          go_meet
          exact ⟨T0, rfl, by rw [HT0.out.1, hx]; rfl, by have := HT0.out.2; omega, only_refl _ _⟩
        · go_wp2_with fail
          go_meet
          exact ⟨T0, rfl, by rw [HT0.out.1, hx]; rfl, by have := HT0.out.2; omega, only_refl _ _⟩
        · go_wp2_with fail
          go_meet
          exact ⟨T0, rfl, by rw [HT0.out.1, hx]; rfl, by have := HT0.out.2; omega, only_refl _ _⟩
        · go_wp2_with fail
          go_meet
          exact ⟨T0, rfl, by rw [HT0.out.1, hx]; rfl, by have := HT0.out.2; omega, only_refl _ _⟩
        · go_wp2_with fail
          refine (HBb.out _).mono ?_
          rintro e w3 ⟨T1, rfl, hT1, hs1, hg3⟩
          have hcc : ¬ (9223372036854775807 < (T0.size : Int) + (T1.size : Int)) := by have := HT0.out.2; omega
          have HT1 := Lib.hid hT1
          have HS1 := Lib.hid hs1
          have HG3 := Lib.hid hg3
          clear hT1 hs1 hg3
          go_wp2_with fail
          go_meet
          exact ⟨T0 ++ T1, rfl, by rw [cat_list HT0.out.1 HT1.out, hx]; rfl, by rw [cat_size]; have := HT0.out.2; have := HS1.out; omega, HG3.out⟩
        · go_wp2_with fail
          refine (HBb.out _).mono ?_
          rintro e w3 ⟨T1, rfl, hT1, hs1, hg3⟩
          have hcc : ¬ (9223372036854775807 < (T0.size : Int) + (T1.size : Int)) := by have := HT0.out.2; omega
          have HT1 := Lib.hid hT1
          have HS1 := Lib.hid hs1
          have HG3 := Lib.hid hg3
          clear hT1 hs1 hg3
          go_wp2_with fail
          go_meet
          exact ⟨T0 ++ T1, rfl, by rw [cat_list HT0.out.1 HT1.out, hx]; rfl, by rw [cat_size]; have := HT0.out.2; have := HS1.out; omega, HG3.out⟩
        · go_wp2_with fail
          refine (HBb.out _).mono ?_
          rintro e w3 ⟨T1, rfl, hT1, hs1, hg3⟩
          have hcc : ¬ (9223372036854775807 < (T0.size : Int) + (T1.size : Int)) := by have := HT0.out.2; omega
          have HT1 := Lib.hid hT1
          have HS1 := Lib.hid hs1
          have HG3 := Lib.hid hg3
          clear hT1 hs1 hg3
          go_wp2_with fail
          go_meet
          exact ⟨T0 ++ T1, rfl, by rw [cat_list HT0.out.1 HT1.out, hx]; rfl, by rw [cat_size]; have := HT0.out.2; have := HS1.out; omega, HG3.out⟩
        · go_wp2_with fail
          refine (HBb.out _).mono ?_
          rintro e w3 ⟨T1, rfl, hT1, hs1, hg3⟩
          have hcc : ¬ (9223372036854775807 < (T0.size : Int) + (T1.size : Int)) := by have := HT0.out.2; omega
          have HT1 := Lib.hid hT1
          have HS1 := Lib.hid hs1
          have HG3 := Lib.hid hg3
          clear hT1 hs1 hg3
          go_wp2_with fail
          go_meet
          exact ⟨T0 ++ T1, rfl, by rw [cat_list HT0.out.1 HT1.out, hx]; rfl, by rw [cat_size]; have := HT0.out.2; have := HS1.out; omega, HG3.out⟩
        · go_wp2_with fail
          refine (HBb.out _).mono ?_
          rintro e w3 ⟨T1, rfl, hT1, hs1, hg3⟩
          have hcc : ¬ (9223372036854775807 < (T0.size : Int) + (T1.size : Int)) := by have := HT0.out.2; omega
          have HT1 := Lib.hid hT1
          have HS1 := Lib.hid hs1
          have HG3 := Lib.hid hg3
          clear hT1 hs1 hg3
          go_wp2_with fail
          go_meet
          exact ⟨T0 ++ T1, rfl, by rw [cat_list HT0.out.1 HT1.out, hx]; rfl, by rw [cat_size]; have := HT0.out.2; have := HS1.out; omega, HG3.out⟩
        · go_wp2_with fail
          refine (HBb.out _).mono ?_
          rintro e w3 ⟨T1, rfl, hT1, hs1, hg3⟩
          have hcc : ¬ (9223372036854775807 < (T0.size : Int) + (T1.size : Int)) := by have := HT0.out.2; omega
          have HT1 := Lib.hid hT1
          have HS1 := Lib.hid hs1
          have HG3 := Lib.hid hg3
          clear hT1 hs1 hg3
          go_wp2_with fail
          go_meet
          exact ⟨T0 ++ T1, rfl, by rw [cat_list HT0.out.1 HT1.out, hx]; rfl, by rw [cat_size]; have := HT0.out.2; have := HS1.out; omega, HG3.out⟩
        · go_wp2_with fail
          refine (HBb.out _).mono ?_
          rintro e w3 ⟨T1, rfl, hT1, hs1, hg3⟩
          have hcc : ¬ (9223372036854775807 < (T0.size : Int) + (T1.size : Int)) := by have := HT0.out.2; omega
          have HT1 := Lib.hid hT1
          have HS1 := Lib.hid hs1
          have HG3 := Lib.hid hg3
          clear hT1 hs1 hg3
          go_wp2_with fail
          go_meet
          exact ⟨T0 ++ T1, rfl, by rw [cat_list HT0.out.1 HT1.out, hx]; rfl, by rw [cat_size]; have := HT0.out.2; have := HS1.out; omega, HG3.out⟩
        · go_wp2_with fail
          refine (HBb.out _).mono ?_
          rintro e w3 ⟨T1, rfl, hT1, hs1, hg3⟩
          have hcc : ¬ (9223372036854775807 < (T0.size : Int) + (T1.size : Int)) := by have := HT0.out.2; omega
          have HT1 := Lib.hid hT1
          have HS1 := Lib.hid hs1
          have HG3 := Lib.hid hg3
          clear hT1 hs1 hg3
          go_wp2_with fail
          go_meet
          exact ⟨T0 ++ T1, rfl, by rw [cat_list HT0.out.1 HT1.out, hx]; rfl, by rw [cat_size]; have := HT0.out.2; have := HS1.out; omega, HG3.out⟩
        · have HU1 : Hid (∀ W, w2.grownBy W none → Calls Tryd.prog 38 #[.int .u64 b] W fun e w' => e = .returned (.string TB) ∧ W.grownBy w' none) := fun W _ => HTB.out W
          have HU2 : Hid (∀ W, w2.grownBy W none → Calls Tryd.prog 38 #[.int .u64 c] W fun e w' => e = .returned (.string TC) ∧ W.grownBy w' none) := fun W _ => HTC.out W
          go_upto_region 21 with fail
          refine region_upd (by kernel_rfl)
            [(47, .string T0), (48, .pointer (some ⟨w.heap.size, 0 + 2, none⟩)), (49, .int .i64 b), (50, .int .u64 b), (51, .string TB), (52, .string (T0 ++ TB)), (53, .pointer (some ⟨w.heap.size, 0 + 3, none⟩)), (54, .int .i64 c), (55, .int .u64 c), (56, .string TC), (57, .string (T0 ++ TB ++ TC))]
            [(1, .pointer (some ⟨w.heap.size, 0, none⟩)), (5, .string T0)]
            11 5 57 (.string (T0 ++ TB ++ TC)) (by kernel_rfl) [47, 48, 49, 50, 51, 52, 53, 54, 55, 56, 57, 5] (by kernel_rfl) (by kernel_rfl) (by decide) (by kernel_rfl) ⟨rfl, rfl, trivial⟩ ?hops (by kernel_rfl) (by kernel_rfl) ?hQ
          case hops =>
            exact ⟨fun _ => og (t := 47) rfl rfl (ov_move rfl rfl), fun _ => og (t := 48) rfl rfl (ov_fld_insn (by decide) rfl rfl), fun _ => og (t := 49) rfl rfl (ov_ld_int rfl rfl x2), fun _ => og (t := 50) rfl rfl (ov_conv64 rfl rfl kb), fun _ => og (t := 51) rfl rfl (ov_call1 rfl rfl (fun W => hrunB W) (fun W hg => HU1.out W hg)), fun _ => og (t := 52) rfl rfl (ov_cat_t rfl rfl rfl (by have := HT0.out.2; have := HTS.out.2.1; omega)),
              fun _ => og (t := 53) rfl rfl (ov_fld_insn (by decide) rfl rfl), fun _ => og (t := 54) rfl rfl (ov_ld_int rfl rfl x3), fun _ => og (t := 55) rfl rfl (ov_conv64 rfl rfl kc), fun _ => og (t := 56) rfl rfl (ov_call1 rfl rfl (fun W => hrunB W) (fun W hg => HU2.out W hg)), fun _ => og (t := 57) rfl rfl (ov_cat_t rfl rfl rfl (by rw [cat_size]; have := HT0.out.2; have := HTS.out.2.1; have := HTS.out.2.2.2; omega)), fun h => absurd rfl h, trivial⟩
          case hQ =>
            intro vs W hg hv
            have HZ : Hid (vs 5 = .string (T0 ++ TB ++ TC) ∧ w2.grownBy W none) := Lib.hid ⟨hv, hg⟩
            clear hv hg
            simp only [List.foldl_cons, List.foldl_nil, List.setIfInBounds_toArray, List.set_cons_zero, List.set_cons_succ]
            go_wp2_with fail
            go_meet
            refine ⟨T0 ++ TB ++ TC, HZ.out.1, ?_, ?_, HZ.out.2⟩
            · rw [cat_list (cat_list HT0.out.1 HTS.out.1) HTS.out.2.2.1, hx]
              rfl
            · rw [cat_size, cat_size]
              have := HT0.out.2; have := HTS.out.2.1; have := HTS.out.2.2.2
              omega
        · have HU1 : Hid (∀ W, w2.grownBy W none → Calls Tryd.prog 38 #[.int .u64 b] W fun e w' => e = .returned (.string TB) ∧ W.grownBy w' none) := fun W _ => HTB.out W
          have HU2 : Hid (∀ W, w2.grownBy W none → Calls Tryd.prog 38 #[.int .u64 c] W fun e w' => e = .returned (.string TC) ∧ W.grownBy w' none) := fun W _ => HTC.out W
          go_upto_region 21 with fail
          refine region_upd (by kernel_rfl)
            [(47, .string T0), (48, .pointer (some ⟨w.heap.size, 0 + 2, none⟩)), (49, .int .i64 b), (50, .int .u64 b), (51, .string TB), (52, .string (T0 ++ TB)), (53, .pointer (some ⟨w.heap.size, 0 + 3, none⟩)), (54, .int .i64 c), (55, .int .u64 c), (56, .string TC), (57, .string (T0 ++ TB ++ TC))]
            [(1, .pointer (some ⟨w.heap.size, 0, none⟩)), (5, .string T0)]
            11 5 57 (.string (T0 ++ TB ++ TC)) (by kernel_rfl) [47, 48, 49, 50, 51, 52, 53, 54, 55, 56, 57, 5] (by kernel_rfl) (by kernel_rfl) (by decide) (by kernel_rfl) ⟨rfl, rfl, trivial⟩ ?hops (by kernel_rfl) (by kernel_rfl) ?hQ
          case hops =>
            exact ⟨fun _ => og (t := 47) rfl rfl (ov_move rfl rfl), fun _ => og (t := 48) rfl rfl (ov_fld_insn (by decide) rfl rfl), fun _ => og (t := 49) rfl rfl (ov_ld_int rfl rfl x2), fun _ => og (t := 50) rfl rfl (ov_conv64 rfl rfl kb), fun _ => og (t := 51) rfl rfl (ov_call1 rfl rfl (fun W => hrunB W) (fun W hg => HU1.out W hg)), fun _ => og (t := 52) rfl rfl (ov_cat_t rfl rfl rfl (by have := HT0.out.2; have := HTS.out.2.1; omega)),
              fun _ => og (t := 53) rfl rfl (ov_fld_insn (by decide) rfl rfl), fun _ => og (t := 54) rfl rfl (ov_ld_int rfl rfl x3), fun _ => og (t := 55) rfl rfl (ov_conv64 rfl rfl kc), fun _ => og (t := 56) rfl rfl (ov_call1 rfl rfl (fun W => hrunB W) (fun W hg => HU2.out W hg)), fun _ => og (t := 57) rfl rfl (ov_cat_t rfl rfl rfl (by rw [cat_size]; have := HT0.out.2; have := HTS.out.2.1; have := HTS.out.2.2.2; omega)), fun h => absurd rfl h, trivial⟩
          case hQ =>
            intro vs W hg hv
            have HZ : Hid (vs 5 = .string (T0 ++ TB ++ TC) ∧ w2.grownBy W none) := Lib.hid ⟨hv, hg⟩
            clear hv hg
            simp only [List.foldl_cons, List.foldl_nil, List.setIfInBounds_toArray, List.set_cons_zero, List.set_cons_succ]
            go_wp2_with fail
            go_meet
            refine ⟨T0 ++ TB ++ TC, HZ.out.1, ?_, ?_, HZ.out.2⟩
            · rw [cat_list (cat_list HT0.out.1 HTS.out.1) HTS.out.2.2.1, hx]
              rfl
            · rw [cat_size, cat_size]
              have := HT0.out.2; have := HTS.out.2.1; have := HTS.out.2.2.2
              omega
        · have HU1 : Hid (∀ W, w2.grownBy W none → Calls Tryd.prog 38 #[.int .u64 b] W fun e w' => e = .returned (.string TB) ∧ W.grownBy w' none) := fun W _ => HTB.out W
          have HU2 : Hid (∀ W, w2.grownBy W none → Calls Tryd.prog 38 #[.int .u64 c] W fun e w' => e = .returned (.string TC) ∧ W.grownBy w' none) := fun W _ => HTC.out W
          go_upto_region 21 with fail
          refine region_upd (by kernel_rfl)
            [(47, .string T0), (48, .pointer (some ⟨w.heap.size, 0 + 2, none⟩)), (49, .int .i64 b), (50, .int .u64 b), (51, .string TB), (52, .string (T0 ++ TB)), (53, .pointer (some ⟨w.heap.size, 0 + 3, none⟩)), (54, .int .i64 c), (55, .int .u64 c), (56, .string TC), (57, .string (T0 ++ TB ++ TC))]
            [(1, .pointer (some ⟨w.heap.size, 0, none⟩)), (5, .string T0)]
            11 5 57 (.string (T0 ++ TB ++ TC)) (by kernel_rfl) [47, 48, 49, 50, 51, 52, 53, 54, 55, 56, 57, 5] (by kernel_rfl) (by kernel_rfl) (by decide) (by kernel_rfl) ⟨rfl, rfl, trivial⟩ ?hops (by kernel_rfl) (by kernel_rfl) ?hQ
          case hops =>
            exact ⟨fun _ => og (t := 47) rfl rfl (ov_move rfl rfl), fun _ => og (t := 48) rfl rfl (ov_fld_insn (by decide) rfl rfl), fun _ => og (t := 49) rfl rfl (ov_ld_int rfl rfl x2), fun _ => og (t := 50) rfl rfl (ov_conv64 rfl rfl kb), fun _ => og (t := 51) rfl rfl (ov_call1 rfl rfl (fun W => hrunB W) (fun W hg => HU1.out W hg)), fun _ => og (t := 52) rfl rfl (ov_cat_t rfl rfl rfl (by have := HT0.out.2; have := HTS.out.2.1; omega)),
              fun _ => og (t := 53) rfl rfl (ov_fld_insn (by decide) rfl rfl), fun _ => og (t := 54) rfl rfl (ov_ld_int rfl rfl x3), fun _ => og (t := 55) rfl rfl (ov_conv64 rfl rfl kc), fun _ => og (t := 56) rfl rfl (ov_call1 rfl rfl (fun W => hrunB W) (fun W hg => HU2.out W hg)), fun _ => og (t := 57) rfl rfl (ov_cat_t rfl rfl rfl (by rw [cat_size]; have := HT0.out.2; have := HTS.out.2.1; have := HTS.out.2.2.2; omega)), fun h => absurd rfl h, trivial⟩
          case hQ =>
            intro vs W hg hv
            have HZ : Hid (vs 5 = .string (T0 ++ TB ++ TC) ∧ w2.grownBy W none) := Lib.hid ⟨hv, hg⟩
            clear hv hg
            simp only [List.foldl_cons, List.foldl_nil, List.setIfInBounds_toArray, List.set_cons_zero, List.set_cons_succ]
            go_wp2_with fail
            go_meet
            refine ⟨T0 ++ TB ++ TC, HZ.out.1, ?_, ?_, HZ.out.2⟩
            · rw [cat_list (cat_list HT0.out.1 HTS.out.1) HTS.out.2.2.1, hx]
              rfl
            · rw [cat_size, cat_size]
              have := HT0.out.2; have := HTS.out.2.1; have := HTS.out.2.2.2
              omega
        · have HU1 : Hid (∀ W, w2.grownBy W none → Calls Tryd.prog 38 #[.int .u64 b] W fun e w' => e = .returned (.string TB) ∧ W.grownBy w' none) := fun W _ => HTB.out W
          have HU2 : Hid (∀ W, w2.grownBy W none → Calls Tryd.prog 38 #[.int .u64 c] W fun e w' => e = .returned (.string TC) ∧ W.grownBy w' none) := fun W _ => HTC.out W
          go_upto_region 21 with fail
          refine region_upd (by kernel_rfl)
            [(47, .string T0), (48, .pointer (some ⟨w.heap.size, 0 + 2, none⟩)), (49, .int .i64 b), (50, .int .u64 b), (51, .string TB), (52, .string (T0 ++ TB)), (53, .pointer (some ⟨w.heap.size, 0 + 3, none⟩)), (54, .int .i64 c), (55, .int .u64 c), (56, .string TC), (57, .string (T0 ++ TB ++ TC))]
            [(1, .pointer (some ⟨w.heap.size, 0, none⟩)), (5, .string T0)]
            11 5 57 (.string (T0 ++ TB ++ TC)) (by kernel_rfl) [47, 48, 49, 50, 51, 52, 53, 54, 55, 56, 57, 5] (by kernel_rfl) (by kernel_rfl) (by decide) (by kernel_rfl) ⟨rfl, rfl, trivial⟩ ?hops (by kernel_rfl) (by kernel_rfl) ?hQ
          case hops =>
            exact ⟨fun _ => og (t := 47) rfl rfl (ov_move rfl rfl), fun _ => og (t := 48) rfl rfl (ov_fld_insn (by decide) rfl rfl), fun _ => og (t := 49) rfl rfl (ov_ld_int rfl rfl x2), fun _ => og (t := 50) rfl rfl (ov_conv64 rfl rfl kb), fun _ => og (t := 51) rfl rfl (ov_call1 rfl rfl (fun W => hrunB W) (fun W hg => HU1.out W hg)), fun _ => og (t := 52) rfl rfl (ov_cat_t rfl rfl rfl (by have := HT0.out.2; have := HTS.out.2.1; omega)),
              fun _ => og (t := 53) rfl rfl (ov_fld_insn (by decide) rfl rfl), fun _ => og (t := 54) rfl rfl (ov_ld_int rfl rfl x3), fun _ => og (t := 55) rfl rfl (ov_conv64 rfl rfl kc), fun _ => og (t := 56) rfl rfl (ov_call1 rfl rfl (fun W => hrunB W) (fun W hg => HU2.out W hg)), fun _ => og (t := 57) rfl rfl (ov_cat_t rfl rfl rfl (by rw [cat_size]; have := HT0.out.2; have := HTS.out.2.1; have := HTS.out.2.2.2; omega)), fun h => absurd rfl h, trivial⟩
          case hQ =>
            intro vs W hg hv
            have HZ : Hid (vs 5 = .string (T0 ++ TB ++ TC) ∧ w2.grownBy W none) := Lib.hid ⟨hv, hg⟩
            clear hv hg
            simp only [List.foldl_cons, List.foldl_nil, List.setIfInBounds_toArray, List.set_cons_zero, List.set_cons_succ]
            go_wp2_with fail
            go_meet
            refine ⟨T0 ++ TB ++ TC, HZ.out.1, ?_, ?_, HZ.out.2⟩
            · rw [cat_list (cat_list HT0.out.1 HTS.out.1) HTS.out.2.2.1, hx]
              rfl
            · rw [cat_size, cat_size]
              have := HT0.out.2; have := HTS.out.2.1; have := HTS.out.2.2.2
              omega
      case rest =>
        obtain ⟨T, rfl, hTl, hTs, hg2⟩ := hcut
        have hbx := HB2.out.kept hg2
        have HP := Lib.hid hTl
        have HGX := Lib.hid (only_trans HG2.out hg2)
        have HL0 : Hid (IntsA (fun b => b < w.heap.size) w (.slice A l.length cp) l) := HL.out
        have hnp := push_not o0 o1 h1
        have hBE : Hid (BT = UInt8.ofNat op.toNat :: (hd2 (clI op) x ++ (tl2 (clI op) x ++ l.flatMap sevZ))) := by
          have := HBE.out hnp
          rw [this, hx]
          rfl
        replace x0 := hbx.cell 0
        replace x1 := hbx.cell 1
        replace x2 := hbx.cell 2
        replace x3 := hbx.cell 3
        replace x4 := hbx.cell 4
        replace x5 := hbx.cell 5
        have HBX := Lib.hid hbx
        have kl : IntKind.u64.wrap (l.length : Int) = (l.length : Int) := IntWalk.u64_in _ ⟨by omega, by omega⟩
        have HBl : Hid (∀ W, Calls Tryd.prog 38 #[.int .u64 (l.length : Int)] W fun e w' => ∃ T : ByteArray, e = .returned (.string T) ∧ T.data.toList = sevZ l.length ∧ T.size ≤ 10 ∧ W.grownBy w' none) := fun W => rbz l.length (by omega) (by omega) W
        have HTZ := Lib.hid hTs
        clear hg2 hbx hTl hnp HL HBE HBO HMay HTB HTC HTS HT0 HG2 HB2 hrunB kb kc
        by_cases h20 : op = 20
        · have HPQ : Hid (tl2 (clI op) x = sevZ d) := by show _ = _; rw [h20, hx]; rfl
          have e1 : (op == 20) = true := by simpa using h20
          have e2 : (op == 19) = false := by simp; omega
          have e3 : (op == 21) = false := by simp; omega
          have H20 := Lib.hid h20
          clear h20 h1 hx
          go_wp2_with fail
          refine (HBd.out _).mono ?_
          rintro e w3 ⟨T1, rfl, hT1, hs1, hg3⟩
          have hcc : ¬ (9223372036854775807 < (T.size : Int) + (T1.size : Int)) := by omega
          have hT2 := cat_list HP.out hT1
          have hs2 := cat_size T T1
          have hbx := HBX.out.kept hg3
          replace x0 := hbx.cell 0
          replace x5 := hbx.cell 5
          have HP2 := Lib.hid hT2
          have HS2 : Hid ((T ++ T1).size ≤ 40) := by show _ ≤ _; omega
          have HG3 := Lib.hid (only_trans HGX.out hg3)
          have HB3 := Lib.hid hbx
          clear x1 x2 x3 x4 hT1 hs1 hT2 hs2 hg3 hbx
          go_wp2_with fail
          have HPre : Hid ((T ++ T1).data.toList ++ l.flatMap sevZ = BT) := by
            show _ = _
            rw [HP2.out, hBE.out, HPQ.out]
            simp
          obtain ⟨P, hP⟩ : ∃ P : List UInt8, (T ++ T1).data.toList = P := ⟨_, rfl⟩
          rw [hP] at HPre
          have HPP := Lib.hid hP
          clear hP
          generalize (T ++ T1) = TT at *
          go_loopw [5, 6] (fun v5 v6 wr => ∃ (k : Nat) (U : ByteArray), v6 = .int .i64 (k : Int) ∧ v5 = .string U ∧ k ≤ l.length ∧ U.data.toList = P ++ (l.take k).flatMap sevZ ∧ U.size ≤ 50 + 10 * k ∧ w3.grownBy wr none) (fun _ v6 _ => l.length - (intOf v6).toNat)
          case atStart => exact ⟨0, TT, rfl, rfl, by omega, by rw [HPP.out]; simp, by have := HS2.out; omega, only_refl _ _⟩
          case round =>
            obtain ⟨k, U, rfl, rfl, hk, hU, hUs, hg⟩ := hrel
            have x5 := (HB3.out.kept hg).cell 5
            have HGk := Lib.hid (only_trans HG3.out hg)
            have HGw := Lib.hid hg
            have HU := Lib.hid hU
            have HUS := Lib.hid hUs
            by_cases hlt : k < l.length
            · obtain ⟨bl, off, rfl, hcell⟩ := ints_slice HL0.out (fun e => by rw [e] at hlt; simp at hlt)
              obtain ⟨z, hz⟩ : ∃ z, l[k]? = some z := ⟨_, List.getElem?_eq_getElem hlt⟩
              obtain ⟨z0, z1⟩ := HML.out z (List.mem_of_getElem? hz)
              have e0 := cell_row (hcell k z hz) HGk.out (fun e => by cases e)
              have kz : IntKind.u64.wrap z = z := IntWalk.u64_in z ⟨z0, by omega⟩
              have HBz := Lib.hid (fun W => rbz z z0 z1 W)
              have hk50 : U.size ≤ 10050 := by omega
              have HNX : Hid ((l.take (k + 1)).flatMap sevZ = (l.take k).flatMap sevZ ++ sevZ z) := by
                show _ = _
                rw [List.take_add_one, hz, List.flatMap_append]
                simp
              have i0 : (0 : Int) ≤ (k : Int) := by omega
              have i1 : (k : Int) < (l.length : Int) := by omega
              have i2 : (l.length : Int) ≤ 1000 := by omega
              clear hcell hz hU hUs hg
              go_wp2_with fail
              refine (HBz.out _).mono ?_
              rintro e wz ⟨Tz, rfl, hTz, hsz, hgz⟩
              have hcc2 : ¬ (9223372036854775807 < (U.size : Int) + (Tz.size : Int)) := by omega
              have HNL : Hid ((U ++ Tz).data.toList = P ++ (l.take (k + 1)).flatMap sevZ ∧ (U ++ Tz).size ≤ 50 + 10 * (k + 1)) := Lib.hid ⟨by rw [cat_list HU.out hTz, HNX.out, List.append_assoc], by rw [cat_size]; have := HUS.out; omega⟩
              have HGz := Lib.hid (only_trans HGw.out hgz)
              clear hTz hsz hgz
              go_wp2_with fail
              go_roundw
              case rel => exact ⟨k + 1, _, by go_num, rfl, by omega, HNL.out.1, HNL.out.2, HGz.out⟩
              case measure => simp [intOf]; omega
            · have hkl : k = l.length := by omega
              have HT : Hid (U = (⟨BT.toArray⟩ : ByteArray)) := by
                refine bytes_arr ?_
                rw [HU.out, hkl, List.take_length]
                exact HPre.out
              have i1 : (l.length : Int) ≤ (k : Int) := by omega
              clear hkl hU hUs hg hlt hk
              go_wp2_with fail
              exact bodyPost_ret (v := .tuple #[.string U, .int .i64 0]) (by simp [results, Tryd.results12, go_sem]) rfl ⟨by rw [← HT.out], HGk.out⟩
        · by_cases h19 : op = 19 ∨ op = 21
          · have HPQ : Hid (tl2 (clI op) x = sevZ l.length) := by
              show _ = _
              rcases h19 with h | h <;> rw [h, hx] <;> rfl
            have e1 : (op == 20) = false := by simpa using h20
            have e2 : (op == 19 || op == 21) = true := by simpa using h19
            have H19 := Lib.hid h19
            rcases (by omega : op = 19 ∨ op = 21 ∧ ¬ op = 19) with h | ⟨h, h'⟩
            · have e3 : (op == 19) = true := by simpa using h
              clear h20 h1 h19 hx h e2
              go_wp2_with fail
              refine (HBl.out _).mono ?_
              rintro e w3 ⟨T1, rfl, hT1, hs1, hg3⟩
              have hcc : ¬ (9223372036854775807 < (T.size : Int) + (T1.size : Int)) := by omega
              have hT2 := cat_list HP.out hT1
              have hs2 := cat_size T T1
              have hbx := HBX.out.kept hg3
              replace x0 := hbx.cell 0
              replace x5 := hbx.cell 5
              have HP2 := Lib.hid hT2
              have HS2 : Hid ((T ++ T1).size ≤ 40) := by show _ ≤ _; omega
              have HG3 := Lib.hid (only_trans HGX.out hg3)
              have HB3 := Lib.hid hbx
              clear x1 x2 x3 x4 hT1 hs1 hT2 hs2 hg3 hbx
              go_wp2_with fail
              have HPre : Hid ((T ++ T1).data.toList ++ l.flatMap sevZ = BT) := by
                show _ = _
                rw [HP2.out, hBE.out, HPQ.out]
                simp
              obtain ⟨P, hP⟩ : ∃ P : List UInt8, (T ++ T1).data.toList = P := ⟨_, rfl⟩
              rw [hP] at HPre
              have HPP := Lib.hid hP
              clear hP
              generalize (T ++ T1) = TT at *
              go_loopw [5, 6] (fun v5 v6 wr => ∃ (k : Nat) (U : ByteArray), v6 = .int .i64 (k : Int) ∧ v5 = .string U ∧ k ≤ l.length ∧ U.data.toList = P ++ (l.take k).flatMap sevZ ∧ U.size ≤ 50 + 10 * k ∧ w3.grownBy wr none) (fun _ v6 _ => l.length - (intOf v6).toNat)
              case atStart => exact ⟨0, TT, rfl, rfl, by omega, by rw [HPP.out]; simp, by have := HS2.out; omega, only_refl _ _⟩
              case round =>
                obtain ⟨k, U, rfl, rfl, hk, hU, hUs, hg⟩ := hrel
                have x5 := (HB3.out.kept hg).cell 5
                have HGk := Lib.hid (only_trans HG3.out hg)
                have HGw := Lib.hid hg
                have HU := Lib.hid hU
                have HUS := Lib.hid hUs
                by_cases hlt : k < l.length
                · obtain ⟨bl, off, rfl, hcell⟩ := ints_slice HL0.out (fun e => by rw [e] at hlt; simp at hlt)
                  obtain ⟨z, hz⟩ : ∃ z, l[k]? = some z := ⟨_, List.getElem?_eq_getElem hlt⟩
                  obtain ⟨z0, z1⟩ := HML.out z (List.mem_of_getElem? hz)
                  have e0 := cell_row (hcell k z hz) HGk.out (fun e => by cases e)
                  have kz : IntKind.u64.wrap z = z := IntWalk.u64_in z ⟨z0, by omega⟩
                  have HBz := Lib.hid (fun W => rbz z z0 z1 W)
                  have hk50 : U.size ≤ 10050 := by omega
                  have HNX : Hid ((l.take (k + 1)).flatMap sevZ = (l.take k).flatMap sevZ ++ sevZ z) := by
                    show _ = _
                    rw [List.take_add_one, hz, List.flatMap_append]
                    simp
                  have i0 : (0 : Int) ≤ (k : Int) := by omega
                  have i1 : (k : Int) < (l.length : Int) := by omega
                  have i2 : (l.length : Int) ≤ 1000 := by omega
                  clear hcell hz hU hUs hg
                  go_wp2_with fail
                  refine (HBz.out _).mono ?_
                  rintro e wz ⟨Tz, rfl, hTz, hsz, hgz⟩
                  have hcc2 : ¬ (9223372036854775807 < (U.size : Int) + (Tz.size : Int)) := by omega
                  have HNL : Hid ((U ++ Tz).data.toList = P ++ (l.take (k + 1)).flatMap sevZ ∧ (U ++ Tz).size ≤ 50 + 10 * (k + 1)) := Lib.hid ⟨by rw [cat_list HU.out hTz, HNX.out, List.append_assoc], by rw [cat_size]; have := HUS.out; omega⟩
                  have HGz := Lib.hid (only_trans HGw.out hgz)
                  clear hTz hsz hgz
                  go_wp2_with fail
                  go_roundw
                  case rel => exact ⟨k + 1, _, by go_num, rfl, by omega, HNL.out.1, HNL.out.2, HGz.out⟩
                  case measure => simp [intOf]; omega
                · have hkl : k = l.length := by omega
                  have HT : Hid (U = (⟨BT.toArray⟩ : ByteArray)) := by
                    refine bytes_arr ?_
                    rw [HU.out, hkl, List.take_length]
                    exact HPre.out
                  have i1 : (l.length : Int) ≤ (k : Int) := by omega
                  clear hkl hU hUs hg hlt hk
                  go_wp2_with fail
                  exact bodyPost_ret (v := .tuple #[.string U, .int .i64 0]) (by simp [results, Tryd.results12, go_sem]) rfl ⟨by rw [← HT.out], HGk.out⟩
            · have e3 : (op == 19) = false := by simpa using h'
              have e4 : (op == 21) = true := by simpa using h
              clear h20 h1 h19 hx h h' e2
              go_wp2_with fail
              refine (HBl.out _).mono ?_
              rintro e w3 ⟨T1, rfl, hT1, hs1, hg3⟩
              have hcc : ¬ (9223372036854775807 < (T.size : Int) + (T1.size : Int)) := by omega
              have hT2 := cat_list HP.out hT1
              have hs2 := cat_size T T1
              have hbx := HBX.out.kept hg3
              replace x0 := hbx.cell 0
              replace x5 := hbx.cell 5
              have HP2 := Lib.hid hT2
              have HS2 : Hid ((T ++ T1).size ≤ 40) := by show _ ≤ _; omega
              have HG3 := Lib.hid (only_trans HGX.out hg3)
              have HB3 := Lib.hid hbx
              clear x1 x2 x3 x4 hT1 hs1 hT2 hs2 hg3 hbx
              go_wp2_with fail
              have HPre : Hid ((T ++ T1).data.toList ++ l.flatMap sevZ = BT) := by
                show _ = _
                rw [HP2.out, hBE.out, HPQ.out]
                simp
              obtain ⟨P, hP⟩ : ∃ P : List UInt8, (T ++ T1).data.toList = P := ⟨_, rfl⟩
              rw [hP] at HPre
              have HPP := Lib.hid hP
              clear hP
              generalize (T ++ T1) = TT at *
              go_loopw [5, 6] (fun v5 v6 wr => ∃ (k : Nat) (U : ByteArray), v6 = .int .i64 (k : Int) ∧ v5 = .string U ∧ k ≤ l.length ∧ U.data.toList = P ++ (l.take k).flatMap sevZ ∧ U.size ≤ 50 + 10 * k ∧ w3.grownBy wr none) (fun _ v6 _ => l.length - (intOf v6).toNat)
              case atStart => exact ⟨0, TT, rfl, rfl, by omega, by rw [HPP.out]; simp, by have := HS2.out; omega, only_refl _ _⟩
              case round =>
                obtain ⟨k, U, rfl, rfl, hk, hU, hUs, hg⟩ := hrel
                have x5 := (HB3.out.kept hg).cell 5
                have HGk := Lib.hid (only_trans HG3.out hg)
                have HGw := Lib.hid hg
                have HU := Lib.hid hU
                have HUS := Lib.hid hUs
                by_cases hlt : k < l.length
                · obtain ⟨bl, off, rfl, hcell⟩ := ints_slice HL0.out (fun e => by rw [e] at hlt; simp at hlt)
                  obtain ⟨z, hz⟩ : ∃ z, l[k]? = some z := ⟨_, List.getElem?_eq_getElem hlt⟩
                  obtain ⟨z0, z1⟩ := HML.out z (List.mem_of_getElem? hz)
                  have e0 := cell_row (hcell k z hz) HGk.out (fun e => by cases e)
                  have kz : IntKind.u64.wrap z = z := IntWalk.u64_in z ⟨z0, by omega⟩
                  have HBz := Lib.hid (fun W => rbz z z0 z1 W)
                  have hk50 : U.size ≤ 10050 := by omega
                  have HNX : Hid ((l.take (k + 1)).flatMap sevZ = (l.take k).flatMap sevZ ++ sevZ z) := by
                    show _ = _
                    rw [List.take_add_one, hz, List.flatMap_append]
                    simp
                  have i0 : (0 : Int) ≤ (k : Int) := by omega
                  have i1 : (k : Int) < (l.length : Int) := by omega
                  have i2 : (l.length : Int) ≤ 1000 := by omega
                  clear hcell hz hU hUs hg
                  go_wp2_with fail
                  refine (HBz.out _).mono ?_
                  rintro e wz ⟨Tz, rfl, hTz, hsz, hgz⟩
                  have hcc2 : ¬ (9223372036854775807 < (U.size : Int) + (Tz.size : Int)) := by omega
                  have HNL : Hid ((U ++ Tz).data.toList = P ++ (l.take (k + 1)).flatMap sevZ ∧ (U ++ Tz).size ≤ 50 + 10 * (k + 1)) := Lib.hid ⟨by rw [cat_list HU.out hTz, HNX.out, List.append_assoc], by rw [cat_size]; have := HUS.out; omega⟩
                  have HGz := Lib.hid (only_trans HGw.out hgz)
                  clear hTz hsz hgz
                  go_wp2_with fail
                  go_roundw
                  case rel => exact ⟨k + 1, _, by go_num, rfl, by omega, HNL.out.1, HNL.out.2, HGz.out⟩
                  case measure => simp [intOf]; omega
                · have hkl : k = l.length := by omega
                  have HT : Hid (U = (⟨BT.toArray⟩ : ByteArray)) := by
                    refine bytes_arr ?_
                    rw [HU.out, hkl, List.take_length]
                    exact HPre.out
                  have i1 : (l.length : Int) ≤ (k : Int) := by omega
                  clear hkl hU hUs hg hlt hk
                  go_wp2_with fail
                  exact bodyPost_ret (v := .tuple #[.string U, .int .i64 0]) (by simp [results, Tryd.results12, go_sem]) rfl ⟨by rw [← HT.out], HGk.out⟩
          · have HPQ : Hid (tl2 (clI op) x = []) := tl_none o0 o1 h20 h19 hx
            have e1 : (op == 20) = false := by simpa using h20
            have e2 : (op == 19) = false := by simp; omega
            have e3 : (op == 21) = false := by simp; omega
            have HS2 : Hid (T.size ≤ 40) := by show _ ≤ _; omega
            have HGX0 := Lib.hid HGX.out
            clear h20 h1 h19 hx
            go_wp2_with fail
            have HPre : Hid (T.data.toList ++ l.flatMap sevZ = BT) := by
              show _ = _
              rw [HP.out, hBE.out, HPQ.out]
              simp
            obtain ⟨P, hP⟩ : ∃ P : List UInt8, T.data.toList = P := ⟨_, rfl⟩
            rw [hP] at HPre
            have HPP := Lib.hid hP
            clear hP
            generalize T = TT at *
            go_loopw [5, 6] (fun v5 v6 wr => ∃ (k : Nat) (U : ByteArray), v6 = .int .i64 (k : Int) ∧ v5 = .string U ∧ k ≤ l.length ∧ U.data.toList = P ++ (l.take k).flatMap sevZ ∧ U.size ≤ 50 + 10 * k ∧ wc.grownBy wr none) (fun _ v6 _ => l.length - (intOf v6).toNat)
            case atStart => exact ⟨0, TT, rfl, rfl, by omega, by rw [HPP.out]; simp, by have := HS2.out; omega, only_refl _ _⟩
            case round =>
              obtain ⟨k, U, rfl, rfl, hk, hU, hUs, hg⟩ := hrel
              have x5 := (HBX.out.kept hg).cell 5
              have HGk := Lib.hid (only_trans HGX.out hg)
              have HGw := Lib.hid hg
              have HU := Lib.hid hU
              have HUS := Lib.hid hUs
              by_cases hlt : k < l.length
              · obtain ⟨bl, off, rfl, hcell⟩ := ints_slice HL0.out (fun e => by rw [e] at hlt; simp at hlt)
                obtain ⟨z, hz⟩ : ∃ z, l[k]? = some z := ⟨_, List.getElem?_eq_getElem hlt⟩
                obtain ⟨z0, z1⟩ := HML.out z (List.mem_of_getElem? hz)
                have e0 := cell_row (hcell k z hz) HGk.out (fun e => by cases e)
                have kz : IntKind.u64.wrap z = z := IntWalk.u64_in z ⟨z0, by omega⟩
                have HBz := Lib.hid (fun W => rbz z z0 z1 W)
                have hk50 : U.size ≤ 10050 := by omega
                have HNX : Hid ((l.take (k + 1)).flatMap sevZ = (l.take k).flatMap sevZ ++ sevZ z) := by
                  show _ = _
                  rw [List.take_add_one, hz, List.flatMap_append]
                  simp
                have i0 : (0 : Int) ≤ (k : Int) := by omega
                have i1 : (k : Int) < (l.length : Int) := by omega
                have i2 : (l.length : Int) ≤ 1000 := by omega
                clear hcell hz hU hUs hg
                go_wp2_with fail
                refine (HBz.out _).mono ?_
                rintro e wz ⟨Tz, rfl, hTz, hsz, hgz⟩
                have hcc2 : ¬ (9223372036854775807 < (U.size : Int) + (Tz.size : Int)) := by omega
                have HNL : Hid ((U ++ Tz).data.toList = P ++ (l.take (k + 1)).flatMap sevZ ∧ (U ++ Tz).size ≤ 50 + 10 * (k + 1)) := Lib.hid ⟨by rw [cat_list HU.out hTz, HNX.out, List.append_assoc], by rw [cat_size]; have := HUS.out; omega⟩
                have HGz := Lib.hid (only_trans HGw.out hgz)
                clear hTz hsz hgz
                go_wp2_with fail
                go_roundw
                case rel => exact ⟨k + 1, _, by go_num, rfl, by omega, HNL.out.1, HNL.out.2, HGz.out⟩
                case measure => simp [intOf]; omega
              · have hkl : k = l.length := by omega
                have HT : Hid (U = (⟨BT.toArray⟩ : ByteArray)) := by
                  refine bytes_arr ?_
                  rw [HU.out, hkl, List.take_length]
                  exact HPre.out
                have i1 : (l.length : Int) ≤ (k : Int) := by omega
                clear hkl hU hUs hg hlt hk
                go_wp2_with fail
                exact bodyPost_ret (v := .tuple #[.string U, .int .i64 0]) (by simp [results, Tryd.results12, go_sem]) rfl ⟨by rw [← HT.out], HGk.out⟩
  · have hck := hchk
    obtain ⟨A, cp, hlv, _⟩ := id hl
    rw [if_neg hchk]
    have hcl : s.cells op = #[.int .i64 op, .int .i64 s.a, .int .i64 s.b, .int .i64 s.c, .int .i64 s.d, .slice A s.l.length cp] := by unfold Sg.cells; rw [hlv]
    rw [hcl] at h0 HC hb ⊢
    obtain ⟨ck, hce⟩ : ∃ ck, chkI (s.ins op) = ck := ⟨_, rfl⟩
    rw [hce] at HC hck ⊢
    have x0 := hb.cell 0
    have x1 := hb.cell 1
    have x2 := hb.cell 2
    have x3 := hb.cell 3
    have x4 := hb.cell 4
    have x5 := hb.cell 5
    have hb0 : (ck != 0) = true := by simpa using hck
    have H0 := Lib.hid h0
    clear hl hlv hcl hce hchk h0 hb
    go_enter Tryd.func12, Tryd.ntmps12
    go_wp2_with fail
    refine HC.mono ?_
    rintro e w1 ⟨rfl, hg1⟩
    have HG1 := Lib.hid (only_trans H0.out hg1)
    clear hg1 HC
    go_wp2_with fail
    exact bodyPost_ret (v := .tuple #[.string ⟨#[]⟩, .int .i64 ck]) (by simp [results, Tryd.results12, go_sem]) rfl ⟨rfl, HG1.out⟩
end Go.Proofs.YtmbdaenjeeklfaaDoor

/- InsnReads: whatever bytes, the call returns true, and turns nothing that was there. -/
import Derived.Test.YtmbdaenjeeklfaaDoorZInW
import Derived.Test.YtmbdaenjeeklfaaDoorZInI
import Derived.LoopTactic
import Derived.Deep.DeepCutAuto
import Derived.Deep.CutBlock
namespace Go.Proofs.YtmbdaenjeeklfaaDoor
open Go.RowKit

/-- A reader and the document's, at one place; nothing that was there has turned. -/
structure RP (w0 w : World) (g q : Nat) (bs : List UInt8) (a : Nat) : Prop where
  err : ErrType w0
  st : w0.grownBy w none
  ge : w0.heap.size ≤ g
  qe : w0.heap.size ≤ q
  rd : Rdr w g bs a 0
  rf : RefR w q bs a 0
section
variable {w0 w w' : World} {g q a a' : Nat} {bs : List UInt8}
theorem RP.none_ (h : RP w0 w g q bs a) (hg : w.grownBy w' none) : RP w0 w' g q bs a := ⟨h.err, only_trans h.st hg, h.ge, h.qe, h.rd.kept hg, h.rf.kept hg (fun e => by cases e)⟩
theorem RP.errT (h : RP w0 w g q bs a) : ErrType w := h.err.kept h.st (fun _ e => by cases e)
theorem RP.ref1 (h : RP w0 w g q bs a) (hg : w.grownBy w' (some g)) : RefR w' q bs a 0 := by
  obtain ⟨cs, hb⟩ := h.rf.blk
  obtain ⟨cs2, hb2⟩ := h.rd.blk
  exact h.rf.kept hg (fun e => Blk.ne_ hb hb2 (by decide) (by injection e))
end

theorem ref_rdr {w w' : World} {g q a b : Nat} {bs bs' : List UInt8} (h : Rdr w g bs a 0) (hq : RefR w q bs' b 0) (hg : w.grownBy w' (some q)) : Rdr w' g bs a 0 := by
  obtain ⟨cs, hb⟩ := h.blk
  obtain ⟨cs2, hb2⟩ := hq.blk
  exact h.grown hg (fun e => Blk.ne_ hb hb2 (by decide) (by injection e)) (fun k e => by injection e with e; subst e; exact ⟨_, _, hb2, by decide⟩)
theorem bytesI_posR (x : Ins) : 0 < (bytesI x).length := by unfold bytesI; simp
set_option maxRecDepth 100000 in
set_option maxHeartbeats 8000000 in
theorem ireads_of (HRd : ∀ (w : World) (q a : Nat) (bs : List UInt8), RefR w q bs a 0 → Calls Tryd.prog 22 #[.pointer (some ⟨q, 0, none⟩)] w (RRead q bs (readI bs a) w)) (t : ByteArray) (w : World) (hE : ErrType w) :
    Calls Tryd.prog 4 #[.string t] w fun e w' => e = .returned (.bool true) ∧ w.grownBy w' none := by
  have HE := Lib.hid hE
  have HRD := Lib.hid HRd
  clear hE HRd
  go_enter Tryd.func4, Tryd.ntmps4
  go_upto_region 1 with fail
  go_cut [0] from 10 to 14 (fun v wx => ∃ s : ByteArray, v = .string s ∧ s.size ≤ 200 ∧ w = wx)
  case first =>
    by_cases h200 : t.size ≤ 200
    · have h2 : (t.size : Int) ≤ 200 := by omega
      go_wp2_with fail
      go_meet
      exact ⟨t, rfl, h200, rfl⟩
    · have h2 : (200 : Int) < (t.size : Int) := by omega
      go_wp2_with fail
      go_meet
      exact ⟨_, rfl, by rw [ByteArray.size_extract]; omega, rfl⟩
  case rest =>
    obtain ⟨s, rfl, hs2, rfl⟩ := hcut
    go_wp2_with fail
    refine (newReader_any s _ (by omega)).mono ?_
    rintro e w1 ⟨g, rfl, hge, hg1, hr1⟩
    have hs3 : s.data.toList.length ≤ 200 := by rw [bytes_len]; exact hs2
    have hq := RefR.new s w1 0 (by omega)
    have ha := only_alloc (only_refl w1 none) (.cells #[.string s, .int .i64 0, .int .i64 0] 42)
    have P0 : RP w (w1.alloc (.cells #[.string s, .int .i64 0, .int .i64 0] 42)) g w1.heap.size s.data.toList 0 := ⟨HE.out, only_trans hg1 ha, hge, hg1.size, hr1.kept ha, hq⟩
    have HS3 := Lib.hid hs3
    clear hs3 hq ha hge hg1 hr1 hs2
    generalize s.data.toList = bs at *
    go_wp2_with fail
    generalize w1.alloc (.cells #[.string s, .int .i64 0, .int .i64 0] 42) = w2 at *
    generalize w1.heap.size = q at *
    go_loopw [5] (fun vi wr => ∃ k a : Nat, vi = .int .i64 (k : Int) ∧ k ≤ 201 ∧ k ≤ a ∧ RP w wr g q bs a) (fun vi _ => 201 - (intOf vi).toNat)
    case atStart => exact ⟨0, 0, rfl, by omega, by omega, P0⟩
    case round =>
      obtain ⟨k, a, rfl, hk, hka, P⟩ := hrel
      clear P0
      have hab := P.rd.le
      have hk200 : k < 201 := by have := HS3.out; omega
      have i1 : (k : Int) < 201 := by omega
      have hra := read_any P.rd
      have HP := Lib.hid P
      have HKA := Lib.hid hka
      clear P hk hka hab
      cases hrd : readI bs a with
      | flt c y b =>
        rw [hrd] at hra
        have HRR := HRD.out
        have hc : (c == 0) = false := by simpa using readI_flt hrd
        have hc2 : (c != 0) = true := by simpa using readI_flt hrd
        have HD := Lib.hid hrd
        clear hrd HRR
        go_wp2_with fail
        refine hra.mono ?_
        unfold SaysI
        rintro e w3 ⟨fb, rfl, hf, hfe, hg3, hr3⟩
        unfold zI
        have hrf := HP.out.ref1 hg3
        have hst3 := only_new HP.out.st hg3 HP.out.ge
        have ha4 := only_alloc (only_refl w3 none) (.cells #[.int .i64 0, .int .i64 0, .int .i64 0, .int .i64 0, .int .i64 0, .slice none 0 0] 24)
        have HQE := Lib.hid HP.out.qe
        have HR4 := Lib.hid (hr3.kept ha4)
        have HF4 := Lib.hid (hf.kept ha4)
        have HQ4 := Lib.hid (hrf.kept ha4 (fun e => by cases e))
        have HT4 := Lib.hid (only_trans hst3 ha4)
        have HB4 := Lib.hid (Blk.new w3 24 #[.int .i64 0, .int .i64 0, .int .i64 0, .int .i64 0, .int .i64 0, .slice none 0 0])
        have hqlt : q < w3.heap.size := hrf.lt
        clear hra hf hfe hg3 hr3 hrf hst3 ha4
        go_upto_region 9 with fail
        generalize w3.alloc (.cells #[.int .i64 0, .int .i64 0, .int .i64 0, .int .i64 0, .int .i64 0, .slice none 0 0] 24) = w4 at *
        generalize w3.heap.size = nb at *
        have hrr := HRD.out w4 q a bs HQ4.out
        rw [HD.out] at hrr
        go_wp2_with fail
        refine hrr.mono ?_
        unfold RRead
        rintro e w5 ⟨rfl, hg5, hq5⟩
        have ha6 : w5.grownBy ((w5.alloc (.cells #[.int .i64 0, .int .i64 0, .int .i64 0, .int .i64 0, .int .i64 0, .slice none 0 0] 24)).alloc (.cells #[.int .i64 (c), .int .i64 ((y : Int))] 48)) none := only_alloc (only_alloc (only_refl w5 none) _) _
        have hx6 := (HB4.out.grown hg5 (fun e => by injection e with e; omega)).kept ha6
        have hy6 : Blk ((w5.alloc (.cells #[.int .i64 0, .int .i64 0, .int .i64 0, .int .i64 0, .int .i64 0, .slice none 0 0] 24)).alloc (.cells #[.int .i64 (c), .int .i64 ((y : Int))] 48)) w5.heap.size 24 #[.int .i64 0, .int .i64 0, .int .i64 0, .int .i64 0, .int .i64 0, .slice none 0 0] := (Blk.new w5 _ _).alloc _
        have hz6 : Blk ((w5.alloc (.cells #[.int .i64 0, .int .i64 0, .int .i64 0, .int .i64 0, .int .i64 0, .slice none 0 0] 24)).alloc (.cells #[.int .i64 (c), .int .i64 ((y : Int))] 48)) (w5.heap.size + 1) 48 #[.int .i64 (c), .int .i64 ((y : Int))] := blk_new_at (by simp) _ _
        have HQ6 := Lib.hid (hq5.kept ha6 (fun e => by cases e))
        have HR6 := Lib.hid ((ref_rdr HR4.out HQ4.out hg5).kept ha6)
        have HT6 := Lib.hid (only_trans (only_new HT4.out hg5 HQE.out) ha6)
        have hf6 := (HF4.out.grown hg5 (fun e => Blk.ne_ HF4.out HQ4.out.blk.choose_spec (by decide) (by injection e))).kept ha6
        have HF6 := Lib.hid hf6
        have HX6 := Lib.hid hx6
        have HY6 := Lib.hid hy6
        have HZ6 := Lib.hid hz6
        clear hrr hg5 hq5 ha6 hx6 hy6 hz6 hf6 HR4 HF4 HQ4 HT4 HB4 hqlt
        go_upto_region 10 with fail
        generalize ((w5.alloc (.cells #[.int .i64 0, .int .i64 0, .int .i64 0, .int .i64 0, .int .i64 0, .slice none 0 0] 24)).alloc (.cells #[.int .i64 (c), .int .i64 ((y : Int))] 48)) = w6 at *
        generalize w5.heap.size = ny at *
        have x0 := HX6.out.cell 0
        have x1 := HX6.out.cell 1
        have x2 := HX6.out.cell 2
        have x3 := HX6.out.cell 3
        have x4 := HX6.out.cell 4
        have x5 := HX6.out.cell 5
        have y0 := HY6.out.cell 0
        have y1 := HY6.out.cell 1
        have y2 := HY6.out.cell 2
        have y3 := HY6.out.cell 3
        have y4 := HY6.out.cell 4
        have y5 := HY6.out.cell 5
        have z0 := HZ6.out.cell 0
        have z1 := HZ6.out.cell 1
        go_wp2_with fail
        refine (rsame_any (S1 := fun _ => True) (S2 := fun _ => True) ⟨0, 0, 0, 0, .slice none 0 0, []⟩ 0 (.slice none 0 0) _ ⟨none, 0, rfl, fun h => absurd rfl h⟩ ⟨none, 0, rfl, fun h => absurd rfl h⟩ (by simp)).mono ?_
        rintro e w7 ⟨rfl, hg7⟩
        replace z0 := (HZ6.out.kept hg7).cell 0
        replace z1 := (HZ6.out.kept hg7).cell 1
        have hto := told_hit fb c (y : Int) w7 (HE.out.kept (only_trans HT6.out hg7) (fun k e => by cases e)) (HF6.out.kept hg7) hc
        have HG7 := Lib.hid hg7
        clear hg7 x0 x1 x2 x3 x4 x5 y0 y1 y2 y3 y4 y5
        go_wp2_with fail
        refine hto.mono ?_
        rintro e w8 ⟨rfl, hg8⟩
        have HG8 := Lib.hid (only_trans HG7.out hg8)
        have hp1 := place_step (HR6.out.kept HG8.out)
        rw [cast0] at hp1
        clear hg8 hto
        go_wp2_with fail
        refine hp1.mono ?_
        rintro e w9 ⟨rfl, hg9⟩
        have HG9 := Lib.hid (only_trans HG8.out hg9)
        have hp2 := rplace_any (HQ6.out.kept HG9.out (fun e => by cases e))
        rw [cast0] at hp2
        clear hg9 hp1
        go_wp2_with fail
        refine hp2.mono ?_
        rintro e w10 ⟨rfl, hg10⟩
        have HG10 := Lib.hid (only_trans HG9.out hg10)
        replace z0 := (HZ6.out.kept HG10.out).cell 0
        replace z1 := (HZ6.out.kept HG10.out).cell 1
        clear hg10 hp2
        go_wp2_with fail
        refine (iworks_any _ (HE.out.kept (only_trans HT6.out HG10.out) (fun k e => by cases e))).mono ?_
        rintro e w11 ⟨rfl, hg11⟩
        have HG11 := Lib.hid (only_trans HT6.out (only_trans HG10.out hg11))
        clear hg11
        go_wp2_with fail
        go_ret
        exact ⟨rfl, HG11.out⟩
      | ok x b =>
        rw [hrd] at hra
        have hab : a < b := by
          have := (readI_is hrd).2.2.1
          have h1 := bytesI_posR x
          omega
        have hl12 : x.l.length ≤ 1000 := by
          have h1 := (readI_is hrd).1
          have h2 := (cov_parts (may_of h1).cov).2
          omega
        have HAB := Lib.hid hab
        have HL12 := Lib.hid hl12
        have HD := Lib.hid hrd
        clear hrd hab hl12
        go_wp2_with fail
        refine hra.mono ?_
        unfold SaysI
        rintro e w3 ⟨⟨a1, b1, c1, d1, lv1, l1⟩, hs1, rfl, hl1, hg3, hr3⟩
        obtain ⟨A1, cp1, hlv1, _⟩ := id hl1
        dsimp only at hlv1
        subst hlv1
        obtain ⟨op, hop⟩ : ∃ op : Int, x.op = op := ⟨_, rfl⟩
        rw [hop] at hs1 ⊢
        unfold Sg.cells
        dsimp only
        have hrf := HP.out.ref1 hg3
        have hst3 := only_new HP.out.st hg3 HP.out.ge
        have ha4 := only_alloc (only_refl w3 none) (.cells #[.int .i64 op, .int .i64 a1, .int .i64 b1, .int .i64 c1, .int .i64 d1, .slice A1 l1.length cp1] 24)
        have HQE := Lib.hid HP.out.qe
        have HR4 := Lib.hid (hr3.kept ha4)
        have HQ4 := Lib.hid (hrf.kept ha4 (fun e => by cases e))
        have HT4 := Lib.hid (only_trans hst3 ha4)
        have HB4 := Lib.hid (Blk.new w3 24 #[.int .i64 op, .int .i64 a1, .int .i64 b1, .int .i64 c1, .int .i64 d1, .slice A1 l1.length cp1])
        have HI4 := Lib.hid (hl1.row ha4 (fun _ _ e => by cases e))
        have hqlt : q < w3.heap.size := hrf.lt
        have hqw : q < wr.heap.size := HP.out.rf.lt
        have HS1 := Lib.hid hs1
        clear hra hg3 hr3 hrf hst3 ha4 hl1 hs1
        go_upto_region 9 with fail
        generalize w3.alloc (.cells #[.int .i64 op, .int .i64 a1, .int .i64 b1, .int .i64 c1, .int .i64 d1, .slice A1 l1.length cp1] 24) = w4 at *
        generalize w3.heap.size = nb at *
        have hrr := HRD.out w4 q a bs HQ4.out
        rw [HD.out] at hrr
        go_wp2_with fail
        refine hrr.mono ?_
        unfold RRead
        rintro e w5 ⟨⟨a2, b2, c2, d2, lv2, l2⟩, hs2, rfl, hl2, hg5, hq5⟩
        rw [hop] at hs2 ⊢
        have hs12 := HS1.out.trans hs2.symm
        simp only [Sg.ins, Ins.mk.injEq] at hs12
        obtain ⟨_, rfl, rfl, rfl, rfl, rfl⟩ := hs12
        obtain ⟨A2, cp2, hlv2, _⟩ := id hl2
        dsimp only at hlv2
        subst hlv2
        unfold Sg.cells
        dsimp only
        have ha6 : w5.grownBy ((w5.alloc (.cells #[.int .i64 op, .int .i64 a1, .int .i64 b1, .int .i64 c1, .int .i64 d1, .slice A2 l1.length cp2] 24)).alloc (.cells #[.int .i64 (0), .int .i64 (0)] 48)) none := only_alloc (only_alloc (only_refl w5 none) _) _
        have hx6 := (HB4.out.grown hg5 (fun e => by injection e with e; omega)).kept ha6
        have hy6 : Blk ((w5.alloc (.cells #[.int .i64 op, .int .i64 a1, .int .i64 b1, .int .i64 c1, .int .i64 d1, .slice A2 l1.length cp2] 24)).alloc (.cells #[.int .i64 (0), .int .i64 (0)] 48)) w5.heap.size 24 #[.int .i64 op, .int .i64 a1, .int .i64 b1, .int .i64 c1, .int .i64 d1, .slice A2 l1.length cp2] := (Blk.new w5 _ _).alloc _
        have hz6 : Blk ((w5.alloc (.cells #[.int .i64 op, .int .i64 a1, .int .i64 b1, .int .i64 c1, .int .i64 d1, .slice A2 l1.length cp2] 24)).alloc (.cells #[.int .i64 (0), .int .i64 (0)] 48)) (w5.heap.size + 1) 48 #[.int .i64 (0), .int .i64 (0)] := blk_new_at (by simp) _ _
        have HQ6 := Lib.hid (hq5.kept ha6 (fun e => by cases e))
        have HR6 := Lib.hid ((ref_rdr HR4.out HQ4.out hg5).kept ha6)
        have HT6 := Lib.hid (only_trans (only_new HT4.out hg5 HQE.out) ha6)
        have hi1 := ((HI4.out).row hg5 (fun b hb e => by injection e with e; have hb' := hb.1; omega)).row ha6 (fun _ _ e => by cases e)
        have hi2 := hl2.row ha6 (fun _ _ e => by cases e)
        have HX6 := Lib.hid hx6
        have HY6 := Lib.hid hy6
        have HZ6 := Lib.hid hz6
        have HI1 := Lib.hid hi1
        have HI2 := Lib.hid hi2
        have HLL : Hid (l1.length ≤ 1000) := by have := HL12.out; rw [← HS1.out] at this; exact this
        clear hrr hg5 hq5 ha6 hx6 hy6 hz6 HR4 HQ4 HT4 HB4 hqlt hqw hl2 hs2 hi1 hi2 HI4 hop HS1
        go_upto_region 10 with fail
        generalize ((w5.alloc (.cells #[.int .i64 op, .int .i64 a1, .int .i64 b1, .int .i64 c1, .int .i64 d1, .slice A2 l1.length cp2] 24)).alloc (.cells #[.int .i64 (0), .int .i64 (0)] 48)) = w6 at *
        generalize w5.heap.size = ny at *
        have x0 := HX6.out.cell 0
        have x1 := HX6.out.cell 1
        have x2 := HX6.out.cell 2
        have x3 := HX6.out.cell 3
        have x4 := HX6.out.cell 4
        have x5 := HX6.out.cell 5
        have y0 := HY6.out.cell 0
        have y1 := HY6.out.cell 1
        have y2 := HY6.out.cell 2
        have y3 := HY6.out.cell 3
        have y4 := HY6.out.cell 4
        have y5 := HY6.out.cell 5
        have z0 := HZ6.out.cell 0
        have z1 := HZ6.out.cell 1
        have hsm := rsame_any ⟨a1, b1, c1, d1, .slice A1 l1.length cp1, l1⟩ op (.slice A2 l1.length cp2) w6 HI1.out HI2.out HLL.out
        unfold Sg.cells at hsm
        dsimp only at hsm
        go_wp2_with fail
        refine hsm.mono ?_
        rintro e w7 ⟨rfl, hg7⟩
        replace z0 := (HZ6.out.kept hg7).cell 0
        replace z1 := (HZ6.out.kept hg7).cell 1
        have HG7 := Lib.hid hg7
        clear hg7 x0 x1 x2 x3 x4 x5 y0 y1 y2 y3 y4 y5 hsm
        go_wp2_with fail
        refine (told_nil 0 _).mono ?_
        rintro e w8 ⟨rfl, hg8⟩
        have HG8 := Lib.hid (only_trans HG7.out hg8)
        have hp1 := place_step (HR6.out.kept HG8.out)
        rw [cast0] at hp1
        clear hg8
        go_wp2_with fail
        refine hp1.mono ?_
        rintro e w9 ⟨rfl, hg9⟩
        have HG9 := Lib.hid (only_trans HG8.out hg9)
        have hp2 := rplace_any (HQ6.out.kept HG9.out (fun e => by cases e))
        rw [cast0] at hp2
        clear hg9 hp1
        go_wp2_with fail
        refine hp2.mono ?_
        rintro e w10 ⟨rfl, hg10⟩
        have HG10 := Lib.hid (only_trans HG9.out hg10)
        replace z0 := (HZ6.out.kept HG10.out).cell 0
        replace z1 := (HZ6.out.kept HG10.out).cell 1
        clear hg10 hp2
        go_wp2_with fail
        go_roundw
        case rel => exact ⟨k + 1, b, by go_num, by omega, by have := HAB.out; have := HKA.out; omega, HE.out, only_trans HT6.out HG10.out, HP.out.ge, HQE.out, HR6.out.kept HG10.out, HQ6.out.kept HG10.out (fun e => by cases e)⟩
        case measure => simp [intOf]; omega
end Go.Proofs.YtmbdaenjeeklfaaDoor

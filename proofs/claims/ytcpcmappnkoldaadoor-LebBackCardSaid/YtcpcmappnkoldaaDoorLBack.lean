/- LebBack: whatever rows of numbers and whole numbers, the call returns true, and turns nothing that was there. -/
import Derived.Test.YtcpcmappnkoldaaDoorNums
import Derived.LoopTactic
import Derived.Deep.LoopGhost
import Derived.Deep.DeepCutAuto
import Derived.Deep.CutBlock
import Derived.Deep.RegionWith
namespace Go.Proofs.YtcpcmappnkoldaaDoor
open Go.RowKit

theorem allB_none {n m : Nat} {lf : Nat → Nat} {mf : Nat → Int} {k : Nat} (h1 : ¬ k < n) (h2 : ¬ k < m) : allB n m lf mf (k + 1) = allB n m lf mf k := by simp [allB, rowB, h1, h2]
def intV (n : Nat) : Value := .int .i64 (n : Int)
theorem int_info : (Tryd.prog.info? 3).map (fun i => (i.zero, i.size, i.bytes)) = some (some (.int .i64 0), 1, 8) := by kernel_rfl

/-- The writer holds bs, the list of places is the call's own, and nothing that was there has turned. -/
structure BW (w0 w : World) (g : Nat) (bs : List UInt8) (vp : Value) (ps : List Nat) : Prop where
  pw : PW w0 w g bs
  own : w.ownsRow w0.heap.size 3 1 vp ps.length (ps.map intV)
section
variable {w0 w w' : World} {g : Nat} {bs bs' : List UInt8} {vp : Value} {ps : List Nat}
theorem BW.step (h : BW w0 w g bs vp ps) : w0.grownBy w none := h.pw.step
theorem BW.none_ (h : BW w0 w g bs vp ps) (hg : w.grownBy w' none) : BW w0 w' g bs vp ps := ⟨h.pw.none_ hg, h.own.kept hg (by cases hv : vp.ownBlock <;> simp)⟩
theorem BW.wrote (h : BW w0 w g bs vp ps) (hw : Wtr w0.heap.size w' g bs') (ht : Turn (WS w0.heap.size w g) w w') : BW w0 w' g bs' vp ps := by
  refine ⟨h.pw.wrote hw ht, own_turn h.own ht (fun k hk hs => ?_)⟩
  rcases hs with rfl | ⟨_, h8⟩
  · obtain ⟨_, v, hb2, _⟩ := h.pw.wtr
    exact own_ne h.own hb2 (by decide) hk
  · exact own_not_u8 h.own (by decide) hk h8
/-- Behind an append to the places. -/
theorem BW.appended {w1 : World} {vp' : Value} {p : Nat} (h : BW w0 w g bs vp ps) (hg : w.grownBy w1 vp.ownBlock) (ho : w1.ownsRow w0.heap.size 3 1 vp' (ps.length + 1) (ps.map intV ++ [intV p])) : BW w0 w1 g bs vp' (ps ++ [p]) := by
  have hst : w0.grownBy w1 none := by
    refine ⟨hg.os.trans h.step.os, hg.tape.trans h.step.tape, hg.output.trans h.step.output, Nat.le_trans h.step.size hg.size, fun i hi _ => ?_⟩
    refine (hg.block i (Nat.lt_of_lt_of_le hi h.step.size) (fun e => ?_)).trans (h.step.block i hi (fun e => by cases e))
    have := (h.own.lt i e.symm).1
    omega
  refine ⟨⟨h.pw.err0, hst, ?_⟩, ?_⟩
  · refine h.pw.wtr.grown hg (fun e => ?_) (fun k e => own_not_u8 h.own (by decide) e)
    obtain ⟨_, v, hb2, _⟩ := h.pw.wtr
    exact own_ne h.own hb2 (by decide) e.symm
  · rw [List.length_append, List.map_append]; exact ho
theorem putU_bw (h : BW w0 w g bs vp ps) (n : Nat) (hn : n < 18446744073709551616) (hl : bs.length ≤ 1000000) :
    Calls Tryd.prog 21 #[.pointer (some ⟨g, 0, none⟩), .int .u64 (n : Int)] w fun e w' => e = .returned (.tuple #[]) ∧ BW w0 w' g (bs ++ sev n) vp ps :=
  (putU_any h.pw.wtr h.step.size n hn (by omega)).mono fun _ _ ⟨h1, h2, h3⟩ => ⟨h1, h.wrote h2 h3⟩
theorem putS_bw (h : BW w0 w g bs vp ps) (z : Int) (hz : Whole z) (hl : bs.length ≤ 1000000) :
    Calls Tryd.prog 23 #[.pointer (some ⟨g, 0, none⟩), .int .i64 z] w fun e w' => e = .returned (.tuple #[]) ∧ BW w0 w' g (bs ++ sev (foldN z)) vp ps :=
  (putS_any h.pw.wtr h.step.size z hz (by omega)).mono fun _ _ ⟨h1, h2, h3⟩ => ⟨h1, h.wrote h2 h3⟩
end

/-- The reader is at a, the list of places is the call's own, and nothing that was there has turned. -/
structure LB (w0 w : World) (g : Nat) (bs : List UInt8) (a : Nat) (vp : Value) (ps : List Nat) : Prop where
  err0 : ErrType w0
  step : w0.grownBy w none
  ge : w0.heap.size ≤ g
  rdr : Rdr w g bs a 0
  own : w.ownsRow w0.heap.size 3 1 vp ps.length (ps.map intV)
section
variable {w0 w w' : World} {g a a' : Nat} {bs rest : List UInt8} {vp : Value} {ps : List Nat}
theorem LB.err (h : LB w0 w g bs a vp ps) : ErrType w := h.err0.kept h.step (fun _ e => by cases e)
theorem LB.none_ (h : LB w0 w g bs a vp ps) (hg : w.grownBy w' none) : LB w0 w' g bs a vp ps := ⟨h.err0, only_trans h.step hg, h.ge, h.rdr.kept hg, h.own.kept hg (by cases hv : vp.ownBlock <;> simp)⟩
theorem LB.move (h : LB w0 w g bs a vp ps) (hg : w.grownBy w' (some g)) (hr : Rdr w' g bs a' 0) : LB w0 w' g bs a' vp ps := by
  obtain ⟨cs, hb⟩ := h.rdr.blk
  exact ⟨h.err0, only_new h.step hg h.ge, h.ge, hr, h.own.kept hg (.inr (own_ne h.own hb (by decide)))⟩
theorem u_lb (h : LB w0 w g bs a vp ps) (n : Nat) (hn : n < 18446744073709551616) (he : bs.drop a = sev n ++ rest) :
    Calls Tryd.prog 10 #[.pointer (some ⟨g, 0, none⟩)] w fun e w' => e = .returned (.tuple #[.int .u64 (n : Int), .nilIface]) ∧ LB w0 w' g bs (a + (sev n).length) vp ps := by
  obtain ⟨h1, h2, h3⟩ := taken_laid hn he
  have := u_ok h.rdr _ h1 h2
  rw [h3] at this
  exact this.mono fun _ _ ⟨e1, e2, e3⟩ => ⟨e1, h.move e2 e3⟩
theorem s_lb (h : LB w0 w g bs a vp ps) (z : Int) (hz : Whole z) (he : bs.drop a = sev (foldN z) ++ rest) :
    Calls Tryd.prog 13 #[.pointer (some ⟨g, 0, none⟩)] w fun e w' => e = .returned (.tuple #[.int .i64 z, .nilIface]) ∧ LB w0 w' g bs (a + (sev (foldN z)).length) vp ps := by
  obtain ⟨h1, h2, h3⟩ := taken_laid (foldN_lt hz) he
  have := s_ok h.rdr _ h1 h2
  rw [h3, unfold_fold] at this
  exact this.mono fun _ _ ⟨e1, e2, e3⟩ => ⟨e1, h.move e2 e3⟩
theorem end_lb (h : LB w0 w g bs a vp ps) (ha : a = bs.length) :
    Calls Tryd.prog 27 #[.pointer (some ⟨g, 0, none⟩)] w fun e w' => e = .returned .nilIface ∧ LB w0 w' g bs a vp ps :=
  (end_ok h.rdr ha).mono fun _ _ ⟨e1, e2⟩ => ⟨e1, h.none_ e2⟩
end
theorem place_zero {w : World} {g a : Nat} {bs : List UInt8} (h : Rdr w g bs a 0) :
    Calls Tryd.prog 17 #[.pointer (some ⟨g, 0, none⟩)] w fun e w' => e = .returned (.int .i64 (a : Int)) ∧ ∃ q, w' = w.drewN q :=
  (place_rdr h).mono fun _ _ ⟨h1, h2⟩ => ⟨by rw [h1]; congr 2; omega, h2⟩
/-- The places where rounds begin. -/
def places (n m : Nat) (lf : Nat → Nat) (mf : Nat → Int) (r : Nat) : List Nat := (List.range r).map fun k => (allB n m lf mf k).length
theorem places_succ (n m : Nat) (lf : Nat → Nat) (mf : Nat → Int) (r : Nat) : places n m lf mf (r + 1) = places n m lf mf r ++ [(allB n m lf mf r).length] := by simp [places, List.range_succ]
theorem places_len (n m : Nat) (lf : Nat → Nat) (mf : Nat → Int) (r : Nat) : (places n m lf mf r).length = r := by simp [places]

set_option maxRecDepth 100000 in
set_option maxHeartbeats 8000000 in
theorem lback_any (A B : Option Addr) (n c m d : Nat) (lf : Nat → Nat) (mf : Nat → Int) (w : World) (hE : ErrType w) (hl : U64s w A n lf) (hm : I64s w B m mf) :
    Calls Tryd.prog 5 #[.slice A n c, .slice B m d] w fun e w' => e = .returned (.bool true) ∧ w.grownBy w' none := by
  have HL := Lib.hid hl
  have HM := Lib.hid hm
  have HB := Lib.hid (allB_len (n := n) (m := m) (lf := lf) (mf := mf) (fun k hk => by obtain ⟨_, _, _, _, h, _⟩ := hl k hk; exact h) (fun k hk => by obtain ⟨_, _, _, _, h, _⟩ := hm k hk; exact h))
  clear hl hm
  obtain ⟨i0, hi, hz0, hz1, hz2⟩ := info_parts int_info
  go_enter Tryd.func5, Tryd.ntmps5
  go_wp2_with fail
  refine (newWriter_any w.heap.size _ (Nat.le_refl _)).mono ?_
  rintro e w1 ⟨g, rfl, _, hg, hw⟩
  have S0 : BW w w1 g [] (.slice none 0 0) [] := ⟨⟨hE, hg, hw⟩, World.ownsRow_nil _ _ _ _⟩
  clear hE hg hw
  go_upto_region 3 with fail
  go_cut [7] (fun v wx => ∃ r : Nat, v = .int .i64 (r : Int) ∧ r ≤ 30 ∧ w1 = wx)
  case first =>
    go_wp2_with fail
    all_goals go_meet
    all_goals first
      | exact ⟨30, rfl, by omega, rfl⟩
      | exact ⟨n, rfl, by omega, rfl⟩
      | exact ⟨m, rfl, by omega, rfl⟩
  case rest =>
    obtain ⟨r, rfl, hr, rfl⟩ := hcut
    go_wp2_with fail
    go_loopw [6, 8] (fun vp vi wr => ∃ k : Nat, vi = .int .i64 (k : Int) ∧ k ≤ r ∧ BW w wr g (allB n m lf mf k) vp (places n m lf mf k)) (fun _ vi _ => r - (intOf vi).toNat)
    case atStart => exact ⟨0, rfl, by omega, S0⟩
    case round =>
      obtain ⟨k, rfl, hk, S⟩ := hrel
      have hlen := HB.out k
      clear S0
      by_cases hkr : k < r
      · have i1 : (k : Int) < (r : Int) := by omega
        have hB : w.heap.size ≤ (wr.alloc (.cells #[intV (allB n m lf mf k).length] 3)).heap.size := by have := S.step.size; simp; omega
        have H3 : Hid ((places n m lf mf k).length + 1 ≤ maxLen) := by rw [places_len]; unfold maxLen; show _ ≤ _; omega
        have H4 : Hid (((places n m lf mf k).length + 1) * 8 ≤ 140737488355328) := by rw [places_len]; show _ ≤ _; omega
        have hn1 : ∀ j x, [intV (allB n m lf mf k).length][j]? = some x → (wr.alloc (.cells #[intV (allB n m lf mf k).length] 3)).cell? ((⟨wr.heap.size, 0, none⟩ : Addr).add j) = some x := cell_one_new _ _ _
        have S3 := S.none_ (only_alloc (only_refl wr none) (.cells #[intV (allB n m lf mf k).length] 3))
        have hwl := wlen_any S.pw.wtr
        obtain ⟨A2, c2, hv⟩ := own_shape S.own
        subst hv
        go_wp2_with fail
        refine hwl.mono ?_
        clear hwl
        rintro e w2 ⟨rfl, rfl⟩
        rcases (by omega : (k < n ∧ k < m) ∨ (k < n ∧ ¬ k < m) ∨ (¬ k < n ∧ k < m) ∨ (¬ k < n ∧ ¬ k < m)) with ⟨hkn, hkm⟩ | ⟨hkn, hkm⟩ | ⟨hkn, hkm⟩ | ⟨hkn, hkm⟩
        · have i2 : (k : Int) < (n : Int) := by omega
          have i3 : (k : Int) < (m : Int) := by omega
          obtain ⟨b1, o1, rfl, hbl1, hlk, hcell1⟩ := HL.out k hkn
          have HLK := Lib.hid hlk
          have HCL : Hid (∀ v, w.grownBy v none → v.cell? ⟨b1, o1 + k, none⟩ = some (.int .u64 (lf k : Int))) := fun v hv => (World.cell?_of_block (hv.block b1 hbl1 (fun e => by cases e))).trans hcell1
          clear hcell1 hlk hbl1
          obtain ⟨b2, o2, rfl, hbl2, hmk, hcell2⟩ := HM.out k hkm
          have HMK := Lib.hid hmk
          have HCM : Hid (∀ v, w.grownBy v none → v.cell? ⟨b2, o2 + k, none⟩ = some (.int .i64 (mf k))) := fun v hv => (World.cell?_of_block (hv.block b2 hbl2 (fun e => by cases e))).trans hcell2
          clear hcell2 hmk hbl2
          have hlen2 : Hid ((allB n m lf mf k ++ sev (lf k)).length ≤ 1000) := by show _ ≤ _; rw [List.length_append]; have := sev_len10 HLK.out; omega
          go_wp2_with (at_builtin; go_loud (refine wpList_append_own _ rfl _ _ 62 rfl w.heap.size 3 i0 (.int .i64 0) 1 8 Tryd.underlying62 hi hz0 hz1 hz2 rfl (by decide) _ _ _ rfl S3.own ⟨wr.heap.size, 0, none⟩ 1 1 [intV (allB n m lf mf k).length] rfl rfl hn1 (by simp [Value.oneCell', intV]) H3.out H4.out hB ?_); intro v' w3 ho hg hx; clear hx; have S4 := S3.appended hg ho; have c1 := HCL.out _ S4.step)
          clear ho hg
          refine (putU_bw S4 (lf k) HLK.out (by omega)).mono ?_
          rintro e w5 ⟨rfl, S5⟩
          clear S4
          have c2 := HCM.out _ S5.step
          go_wp2_with fail
          refine (putS_bw S5 (mf k) HMK.out (by have := hlen2.out; omega)).mono ?_
          rintro e w6 ⟨rfl, S6⟩
          clear S5
          go_wp2_with fail
          go_roundw
          case rel => exact ⟨k + 1, by go_num, by omega, by rw [allB_both hkn hkm, places_succ]; exact S6⟩
          case measure => simp [intOf]; omega
        · have i2 : (k : Int) < (n : Int) := by omega
          have i3 : (m : Int) ≤ (k : Int) := by omega
          obtain ⟨b1, o1, rfl, hbl1, hlk, hcell1⟩ := HL.out k hkn
          have HLK := Lib.hid hlk
          have HCL : Hid (∀ v, w.grownBy v none → v.cell? ⟨b1, o1 + k, none⟩ = some (.int .u64 (lf k : Int))) := fun v hv => (World.cell?_of_block (hv.block b1 hbl1 (fun e => by cases e))).trans hcell1
          clear hcell1 hlk hbl1
          go_wp2_with (at_builtin; go_loud (refine wpList_append_own _ rfl _ _ 62 rfl w.heap.size 3 i0 (.int .i64 0) 1 8 Tryd.underlying62 hi hz0 hz1 hz2 rfl (by decide) _ _ _ rfl S3.own ⟨wr.heap.size, 0, none⟩ 1 1 [intV (allB n m lf mf k).length] rfl rfl hn1 (by simp [Value.oneCell', intV]) H3.out H4.out hB ?_); intro v' w3 ho hg hx; clear hx; have S4 := S3.appended hg ho; have c1 := HCL.out _ S4.step)
          clear ho hg
          refine (putU_bw S4 (lf k) HLK.out (by omega)).mono ?_
          rintro e w5 ⟨rfl, S5⟩
          clear S4
          go_wp2_with fail
          go_roundw
          case rel => exact ⟨k + 1, by go_num, by omega, by rw [allB_left hkn hkm, places_succ]; exact S5⟩
          case measure => simp [intOf]; omega
        · have i2 : (n : Int) ≤ (k : Int) := by omega
          have i3 : (k : Int) < (m : Int) := by omega
          obtain ⟨b2, o2, rfl, hbl2, hmk, hcell2⟩ := HM.out k hkm
          have HMK := Lib.hid hmk
          have HCM : Hid (∀ v, w.grownBy v none → v.cell? ⟨b2, o2 + k, none⟩ = some (.int .i64 (mf k))) := fun v hv => (World.cell?_of_block (hv.block b2 hbl2 (fun e => by cases e))).trans hcell2
          clear hcell2 hmk hbl2
          go_wp2_with (at_builtin; go_loud (refine wpList_append_own _ rfl _ _ 62 rfl w.heap.size 3 i0 (.int .i64 0) 1 8 Tryd.underlying62 hi hz0 hz1 hz2 rfl (by decide) _ _ _ rfl S3.own ⟨wr.heap.size, 0, none⟩ 1 1 [intV (allB n m lf mf k).length] rfl rfl hn1 (by simp [Value.oneCell', intV]) H3.out H4.out hB ?_); intro v' w3 ho hg hx; clear hx; have S4 := S3.appended hg ho; have c2 := HCM.out _ S4.step)
          clear ho hg
          refine (putS_bw S4 (mf k) HMK.out (by omega)).mono ?_
          rintro e w6 ⟨rfl, S5⟩
          clear S4
          go_wp2_with fail
          go_roundw
          case rel => exact ⟨k + 1, by go_num, by omega, by rw [allB_right hkn hkm, places_succ]; exact S5⟩
          case measure => simp [intOf]; omega
        · have i2 : (n : Int) ≤ (k : Int) := by omega
          have i3 : (m : Int) ≤ (k : Int) := by omega
          go_wp2_with (at_builtin; go_loud (refine wpList_append_own _ rfl _ _ 62 rfl w.heap.size 3 i0 (.int .i64 0) 1 8 Tryd.underlying62 hi hz0 hz1 hz2 rfl (by decide) _ _ _ rfl S3.own ⟨wr.heap.size, 0, none⟩ 1 1 [intV (allB n m lf mf k).length] rfl rfl hn1 (by simp [Value.oneCell', intV]) H3.out H4.out hB ?_); intro v' w3 ho hg hx; clear hx; have S4 := S3.appended hg ho; skip)
          clear ho hg
          go_roundw
          case rel => exact ⟨k + 1, by go_num, by omega, by rw [allB_none hkn hkm, places_succ]; exact S4⟩
          case measure => simp [intOf]; omega
      · have hkr2 : k = r := by omega
        subst hkr2
        have i1 : (k : Int) ≤ (k : Int) := by omega
        obtain ⟨t, ht⟩ : ∃ t : ByteArray, t.data.toList = allB n m lf mf k := ⟨⟨(allB n m lf mf k).toArray⟩, by simp⟩
        have HT := Lib.hid ht
        have hts : t.size ≤ 1000 := by rw [← bytes_len, ht]; omega
        clear ht
        obtain ⟨A2, c2, hv⟩ := own_shape S.own
        subst hv
        rw [places_len] at S ⊢
        go_wp2_with fail
        refine (wtext_eq S.pw.wtr t HT.out).mono ?_
        rintro e w2 ⟨rfl, rfl⟩
        go_wp2_with fail
        refine (newReader_any t _ (by omega)).mono ?_
        rintro e w3 ⟨g2, rfl, hf2, hg2, hr2⟩
        rw [HT.out] at hr2
        have S2 := S.none_ hg2
        have T0 : LB w w3 g2 (allB n m lf mf k) 0 (.slice A2 k c2) (places n m lf mf k) := ⟨S2.pw.err0, S2.step, Nat.le_trans S.step.size hf2, hr2, S2.own⟩
        clear S S2 hf2 hg2 hr2 HT hts
        generalize hrr : k = r at *
        go_wp2_with fail
        go_loopw [10] (fun vi wx => ∃ j : Nat, vi = .int .i64 (j : Int) ∧ j ≤ r ∧ LB w wx g2 (allB n m lf mf r) (allB n m lf mf j).length (.slice A2 r c2) (places n m lf mf r)) (fun vi _ => r - (intOf vi).toNat)
        case atStart => exact ⟨0, rfl, by omega, T0⟩
        case round =>
          obtain ⟨j, rfl, hj, S⟩ := hrel
          clear T0 hk hkr hrr i1 hlen HB
          by_cases hjr : j < r
          · have i1 : (j : Int) < (r : Int) := by omega
            obtain ⟨rest, hd0⟩ := allB_drop (n := n) (m := m) (lf := lf) (mf := mf) r j hjr
            have hd := Lib.hid hd0
            clear hd0
            have hf := S.own.form (by rw [places_len]; omega)
            obtain ⟨gp, cp, hv, _⟩ := hf
            injection hv with hv1 hv2 hv3
            subst hv1
            subst hv3
            clear hv2
            have hcell := S.own.cells (g := gp) rfl j (intV (allB n m lf mf j).length) (by simp [places, hjr])
            rw [Go.WideShapes.add_plain, Nat.zero_add] at hcell
            unfold intV at hcell
            have HPL := fun (W : World) (h : Rdr W g2 (allB n m lf mf r) (allB n m lf mf j).length 0) => place_zero h
            go_upto_region 18 with fail
            go_cut [68] (fun v wx => v = .bool false ∧ LB w wx g2 (allB n m lf mf r) (allB n m lf mf j).length (.slice (some ⟨gp, 0, none⟩) r c2) (places n m lf mf r))
            case first =>
              go_region_with (go_at_call 17; refine (HPL _ ?_).mono ?_; exact S.rdr.kept (only_drewN (only_drew (only_refl _ _)) 0); rintro e w' ⟨rfl, q, rfl⟩)
              all_goals (go_wp2_with fail; go_meet)
              all_goals first
              | exact ⟨by simp, S.none_ (only_drewN (only_drew (only_refl _ _)) _)⟩
              | exact ⟨by simp, S.none_ (only_drew (only_drewN (only_refl _ _) _))⟩
              | exact ⟨by simp, S.none_ (only_drewN (only_refl _ _) _)⟩
              | exact ⟨by simp, S.none_ (only_drew (only_refl _ _))⟩
            case rest =>
              obtain ⟨rfl, S2⟩ := hcut
              clear S hcell HPL
              rcases (by omega : (j < n ∧ j < m) ∨ (j < n ∧ ¬ j < m) ∨ (¬ j < n ∧ j < m) ∨ (¬ j < n ∧ ¬ j < m)) with ⟨hkn, hkm⟩ | ⟨hkn, hkm⟩ | ⟨hkn, hkm⟩ | ⟨hkn, hkm⟩
              · have i2 : (j : Int) < (n : Int) := by omega
                have i3 : (j : Int) < (m : Int) := by omega
                have he1 : Hid ((allB n m lf mf r).drop (allB n m lf mf j).length = sev (lf j) ++ (sev (foldN (mf j)) ++ rest)) := by show _ = _; rw [hd.out]; simp [rowB, hkn, hkm]
                have he2 : Hid ((allB n m lf mf r).drop ((allB n m lf mf j).length + (sev (lf j)).length) = sev (foldN (mf j)) ++ rest) := by show _ = _; rw [← List.drop_drop, he1.out, List.drop_left]
                obtain ⟨b1, o1, rfl, hbl1, hlk, hcell1⟩ := HL.out j hkn
                have HLK := Lib.hid hlk
                have HCL : Hid (∀ v, w.grownBy v none → v.cell? ⟨b1, o1 + j, none⟩ = some (.int .u64 (lf j : Int))) := fun v hv => (World.cell?_of_block (hv.block b1 hbl1 (fun e => by cases e))).trans hcell1
                clear hcell1 hlk hbl1
                obtain ⟨b2, o2, rfl, hbl2, hmk, hcell2⟩ := HM.out j hkm
                have HMK := Lib.hid hmk
                have HCM : Hid (∀ v, w.grownBy v none → v.cell? ⟨b2, o2 + j, none⟩ = some (.int .i64 (mf j))) := fun v hv => (World.cell?_of_block (hv.block b2 hbl2 (fun e => by cases e))).trans hcell2
                clear hcell2 hmk hbl2
                go_wp2_with fail
                refine (u_lb S2 (lf j) HLK.out he1.out).mono ?_
                rintro e w5 ⟨rfl, S3⟩
                clear S2
                have c1 := HCL.out _ S3.step
                go_wp2_with fail
                refine (s_lb S3 (mf j) HMK.out he2.out).mono ?_
                rintro e w6 ⟨rfl, S4⟩
                clear S3
                have c2 := HCM.out _ S4.step
                go_wp2_with fail
                go_roundw
                case rel => exact ⟨j + 1, by go_num, by omega, by rw [allB_both hkn hkm]; simp only [List.length_append]; exact S4⟩
                case measure => simp [intOf]; omega
              · have i2 : (j : Int) < (n : Int) := by omega
                have i3 : (m : Int) ≤ (j : Int) := by omega
                have he1 : Hid ((allB n m lf mf r).drop (allB n m lf mf j).length = sev (lf j) ++ rest) := by show _ = _; rw [hd.out]; simp [rowB, hkn, hkm]
                obtain ⟨b1, o1, rfl, hbl1, hlk, hcell1⟩ := HL.out j hkn
                have HLK := Lib.hid hlk
                have HCL : Hid (∀ v, w.grownBy v none → v.cell? ⟨b1, o1 + j, none⟩ = some (.int .u64 (lf j : Int))) := fun v hv => (World.cell?_of_block (hv.block b1 hbl1 (fun e => by cases e))).trans hcell1
                clear hcell1 hlk hbl1
                go_wp2_with fail
                refine (u_lb S2 (lf j) HLK.out he1.out).mono ?_
                rintro e w5 ⟨rfl, S3⟩
                clear S2
                have c1 := HCL.out _ S3.step
                go_wp2_with fail
                go_roundw
                case rel => exact ⟨j + 1, by go_num, by omega, by rw [allB_left hkn hkm]; simp only [List.length_append]; exact S3⟩
                case measure => simp [intOf]; omega
              · have i2 : (n : Int) ≤ (j : Int) := by omega
                have i3 : (j : Int) < (m : Int) := by omega
                have he1 : Hid ((allB n m lf mf r).drop (allB n m lf mf j).length = sev (foldN (mf j)) ++ rest) := by show _ = _; rw [hd.out]; simp [rowB, hkn, hkm]
                obtain ⟨b2, o2, rfl, hbl2, hmk, hcell2⟩ := HM.out j hkm
                have HMK := Lib.hid hmk
                have HCM : Hid (∀ v, w.grownBy v none → v.cell? ⟨b2, o2 + j, none⟩ = some (.int .i64 (mf j))) := fun v hv => (World.cell?_of_block (hv.block b2 hbl2 (fun e => by cases e))).trans hcell2
                clear hcell2 hmk hbl2
                go_wp2_with fail
                refine (s_lb S2 (mf j) HMK.out he1.out).mono ?_
                rintro e w6 ⟨rfl, S3⟩
                clear S2
                have c2 := HCM.out _ S3.step
                go_wp2_with fail
                go_roundw
                case rel => exact ⟨j + 1, by go_num, by omega, by rw [allB_right hkn hkm]; simp only [List.length_append]; exact S3⟩
                case measure => simp [intOf]; omega
              · have i2 : (n : Int) ≤ (j : Int) := by omega
                have i3 : (m : Int) ≤ (j : Int) := by omega
                go_wp2_with fail
                go_roundw
                case rel => exact ⟨j + 1, by go_num, by omega, by rw [allB_none hkn hkm]; exact S2⟩
                case measure => simp [intOf]; omega
          · have hjr2 : (allB n m lf mf j).length = (allB n m lf mf r).length := by rw [show j = r by omega]
            have HE := Lib.hid hjr2
            have i1 : (r : Int) ≤ (j : Int) := by omega
            clear hjr2
            go_wp2_with fail
            refine (end_lb S HE.out).mono ?_
            rintro e w7 ⟨rfl, S2⟩
            clear S
            go_wp2_with fail
            refine (works_any _ S2.err).mono ?_
            rintro e w8 ⟨rfl, hg8⟩
            have S3 := S2.none_ hg8
            clear S2 hg8
            go_wp2_with fail
            go_ret
            exact ⟨rfl, S3.step⟩
end Go.Proofs.YtcpcmappnkoldaaDoor

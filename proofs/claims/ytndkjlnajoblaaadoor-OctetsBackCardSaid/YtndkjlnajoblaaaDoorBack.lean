/- OctetsBack: whatever the pieces, the call returns true, and turns nothing that was there. -/
import Derived.Test.YtndkjlnajoblaaaDoorBackSt
import Derived.LoopTactic
import Derived.Deep.LoopGhost
import Derived.Deep.DeepCutAuto
import Derived.Laws.StructEq
namespace Go.Proofs.YtndkjlnajoblaaaDoor
open Go.RowKit

/-- The strings, as the argument holds them. -/
def Strs (w : World) (A : Option Addr) (n : Nat) : Prop := ∀ k, k < n → ∃ (b off : Nat) (s : ByteArray), A = some ⟨b, off, none⟩ ∧ b < w.heap.size ∧ s.size ≤ maxLen ∧ w.cell? ⟨b, off + k, none⟩ = some (.string s)

/-- What holds at each round's head of the first loop. -/
def BRel (w0 : World) (gw : Nat) (vp vt vi : Value) (wr : World) : Prop :=
  ∃ (k : Nat) (ps : List ByteArray) (t : ByteArray), vt = .string t ∧ vi = .int .i64 (k : Int) ∧ ps.length = k ∧ k ≤ 20 ∧ t.data.toList = bsum ps ∧ (∀ s ∈ ps, s.size ≤ 100) ∧ BS w0 wr gw vp ps

/-- What holds at each round's head of the second loop. -/
def LRel (w0 : World) (gw : Nat) (vp : Value) (ps : List ByteArray) (g : Nat) (va vi : Value) (wr : World) : Prop :=
  ∃ k a : Nat, va = .int .i64 (a : Int) ∧ vi = .int .i64 (k : Int) ∧ k ≤ ps.length ∧ a = (bsum (ps.take k)).length ∧ Rdr wr g (bsum ps) a 0 ∧ BS w0 wr gw vp ps

theorem brel_start {w0 wr : World} {gw : Nat} (err0 : ErrType w0) (hst : w0.grownBy wr none) (hw : Wtr w0.heap.size wr gw []) : BRel w0 gw (.slice none 0 0) (.string ⟨#[]⟩) (.int .i64 0) wr :=
  ⟨0, [], ⟨#[]⟩, rfl, rfl, rfl, by omega, rfl, by simp, err0, hst, hw, World.ownsRow_nil _ _ _ _⟩

theorem str_info : (Tryd.prog.info? 9).map (fun i => (i.zero, i.size, i.bytes)) = some (some (.string ⟨#[]⟩), 1, 16) := by kernel_rfl

set_option maxRecDepth 100000 in
set_option maxHeartbeats 4000000 in
theorem back_any (A : Option Addr) (n c : Nat) (w : World) (hE : ErrType w) (hz : Strs w A n) :
    Calls Tryd.prog 4 #[.slice A n c] w fun e w' => e = .returned (.bool true) ∧ w.grownBy w' none := by
  have HZ := Lib.hid hz
  clear hz
  obtain ⟨i0, hi, hz0, hz1, hz2⟩ := info_parts str_info
  go_enter Tryd.func4, Tryd.ntmps4
  go_wp2_with fail
  refine (works_any _ hE).mono ?_
  rintro e w1 ⟨rfl, hs1⟩
  go_wp2_with fail
  refine (newWriter_any w.heap.size _ hs1.size).mono ?_
  rintro e w2 ⟨gw, rfl, _, hs2, hw⟩
  have hs3 := only_trans hs1 hs2
  clear hs1 hs2
  go_wp2_with fail
  go_loopw [4, 5, 6] (fun vp vt vi wr => BRel w gw vp vt vi wr) (fun _ _ vi _ => 20 - (intOf vi).toNat)
  case atStart => exact brel_start hE hs3 hw
  case round =>
    obtain ⟨k, ps, t, rfl, rfl, hlen, hk, ht, hps, S⟩ := hrel
    have HLEN := Lib.hid hlen
    have HT := Lib.hid ht
    have HPS := Lib.hid hps
    clear hlen ht hps hs3 hw hE
    by_cases hlt : k < n ∧ k < 20
    · obtain ⟨hkn, hk20⟩ := hlt
      obtain ⟨b, off, s, rfl, hbl, hsm, hcell⟩ := HZ.out k hkn
      have hc1 : wr.cell? ⟨b, off + k, none⟩ = some (.string s) := (World.cell?_of_block (S.step.block b hbl (fun e => by cases e))).trans hcell
      clear hcell
      have t1 : decide (k < n) = true := by simpa using hkn
      have t2 : decide ((k : Int) < 20) = true := by simp; omega
      have hkn' : (k : Int) < (n : Int) := by omega
      go_upto_region 11 with fail
      go_cut [7] (fun s7 wx => ∃ s' : ByteArray, s7 = .string s' ∧ s'.size ≤ 100 ∧ BS w wx gw u4 ps)
      case first =>
        go_quiet (fail)
        go_wp2_with fail
        all_goals go_meet
        · exact ⟨_, rfl, by rw [ByteArray.size_extract]; omega, S.kept (only_drewN (only_refl _ _) _)⟩
        · exact ⟨_, rfl, by omega, S.kept (only_drewN (only_refl _ _) _)⟩
      case rest =>
        obtain ⟨s', rfl, hs', S2⟩ := hcut
        have hB : w.heap.size ≤ (wc.alloc (.cells #[.string s'] 9)).heap.size := by have := S2.step.size; simp; omega
        have H3 : Hid (ps.length + 1 ≤ maxLen) := by have := HLEN.out; unfold maxLen; show _ ≤ _; omega
        have H4 : Hid ((ps.length + 1) * 16 ≤ 140737488355328) := by have := HLEN.out; show _ ≤ _; omega
        have hn1 : ∀ j x, [Value.string s'][j]? = some x → (wc.alloc (.cells #[.string s'] 9)).cell? ((⟨wc.heap.size, 0, none⟩ : Addr).add j) = some x := cell_one_new _ _ _
        have S3 := S2.kept (only_alloc (only_refl wc none) (.cells #[.string s'] 9))
        have hps2 : Hid (∀ x ∈ ps ++ [s'], x.size ≤ 100) := by
          intro x hx
          rcases List.mem_append.1 hx with h | h
          · exact HPS.out x h
          · rw [List.mem_singleton.1 h]; exact hs'
        have hlb : Hid ((bsum ps).length + s'.size ≤ 1099511627776) := by
          have h1 := bsum_le ps HPS.out
          have h2 := HLEN.out
          show _ ≤ _
          omega
        have hts : t.size ≤ 2000 := by
          have h1 := bsum_le ps HPS.out
          have h2 := HLEN.out
          have h3 := HT.out
          rw [← bytes_len, h3]
          omega
        have hcc1 : ¬ (9223372036854775807 < (t.size : Int) + (s'.size : Int)) := by omega
        have hcc2 : ¬ (IntKind.i64.max < (t.size : Int) + (s'.size : Int)) := hcc1
        by_cases hs1 : s'.size = 1
        · have t3 : ((s'.size : Int) == 1) = true := by simp; omega
          have hpos : 0 < s'.size := by omega
          have HS1 := Lib.hid hs1
          clear hs1
          go_wp2_with (at_builtin; go_loud (refine wpList_append_own _ rfl _ _ 53 rfl w.heap.size 9 i0 (.string ⟨#[]⟩) 1 16 Tryd.underlying53 hi hz0 hz1 hz2 rfl (by decide) _ _ _ rfl S3.own ⟨wc.heap.size, 0, none⟩ 1 1 [.string s'] rfl rfl hn1 (by simp [Value.oneCell']) H3.out H4.out hB ?_); intro v' w3 ho hg hx; clear hx; obtain ⟨E3, hst3, W3, O3⟩ := S3.appended hg ho)
          refine (wbyte_any W3 hst3.size (s'[0]) (by have := hlb.out; omega)).mono ?_
          rintro e w4 ⟨rfl, hW4, hT4⟩
          have S4 : BS w w4 gw v' (ps ++ [s']) := BS.wrote S3.err0 hst3 O3 W3 (by rw [one_byte s' HS1.out hpos] at hW4; exact hW4) hT4
          clear hW4 hT4 W3 O3 hst3 E3 ho hg
          have HT2 : Hid ((t ++ s').data.toList = bsum (ps ++ [s'])) := by show _ = _; rw [bsum_snoc, ← HT.out]; simp
          go_upto_region 17 with fail
          generalize t ++ s' = t2 at *
          go_wp2_with fail
          refine (wlen_eq S4.wtr t2.size (by rw [← HT2.out, bytes_len])).mono ?_
          rintro e w5 ⟨rfl, rfl⟩
          go_wp2_with fail
          refine (wtext_eq S4.wtr t2 HT2.out).mono ?_
          rintro e w5 ⟨rfl, rfl⟩
          go_wp2_with fail
          go_roundw
          case rel => exact ⟨k + 1, ps ++ [s'], t2, rfl, by go_num, by have := HLEN.out; simp; omega, by omega, HT2.out, hps2.out, S4⟩
          case measure => simp [intOf]; omega
        · have t3 : ((s'.size : Int) == 1) = false := by simp; omega
          go_wp2_with (at_builtin; go_loud (refine wpList_append_own _ rfl _ _ 53 rfl w.heap.size 9 i0 (.string ⟨#[]⟩) 1 16 Tryd.underlying53 hi hz0 hz1 hz2 rfl (by decide) _ _ _ rfl S3.own ⟨wc.heap.size, 0, none⟩ 1 1 [.string s'] rfl rfl hn1 (by simp [Value.oneCell']) H3.out H4.out hB ?_); intro v' w3 ho hg hx; clear hx; obtain ⟨E3, hst3, W3, O3⟩ := S3.appended hg ho)
          refine (wput_any W3 hst3.size s' hlb.out).mono ?_
          rintro e w4 ⟨rfl, hW4, hT4⟩
          have S4 : BS w w4 gw v' (ps ++ [s']) := BS.wrote S3.err0 hst3 O3 W3 hW4 hT4
          clear hW4 hT4 W3 O3 hst3 E3 ho hg
          have HT2 : Hid ((t ++ s').data.toList = bsum (ps ++ [s'])) := by show _ = _; rw [bsum_snoc, ← HT.out]; simp
          go_upto_region 17 with fail
          generalize t ++ s' = t2 at *
          go_wp2_with fail
          refine (wlen_eq S4.wtr t2.size (by rw [← HT2.out, bytes_len])).mono ?_
          rintro e w5 ⟨rfl, rfl⟩
          go_wp2_with fail
          refine (wtext_eq S4.wtr t2 HT2.out).mono ?_
          rintro e w5 ⟨rfl, rfl⟩
          go_wp2_with fail
          go_roundw
          case rel => exact ⟨k + 1, ps ++ [s'], t2, rfl, by go_num, by have := HLEN.out; simp; omega, by omega, HT2.out, hps2.out, S4⟩
          case measure => simp [intOf]; omega
    · have hcase : (decide (k < n) = true ∧ decide ((k : Int) < 20) = false) ∨ decide (k < n) = false := by
        by_cases hkn : k < n
        · exact .inl ⟨by simpa using hkn, by simp; omega⟩
        · exact .inr (by simpa using hkn)
      have hts : t.size ≤ 2000 := by
        have h1 := bsum_le ps HPS.out
        have h2 := HLEN.out
        have h3 := HT.out
        rw [← bytes_len, h3]
        omega
      have htl : Hid ((bsum ps).length = t.size) := by show _ = _; rw [← HT.out, bytes_len]
      obtain ⟨A2, c2, hv⟩ := own_shape S.own
      subst hv
      rcases hcase with ⟨t1, t2⟩ | t1
      all_goals
        go_wp2_with fail
        refine (wtext_eq S.wtr t HT.out).mono ?_
        rintro e w4 ⟨rfl, rfl⟩
        go_wp2_with fail
        refine (newReader_any t _ (by omega)).mono ?_
        rintro e w5 ⟨g, rfl, hgf, hg, hr⟩
        have S5 := S.kept hg
        have hge : w.heap.size ≤ g := Nat.le_trans S.step.size hgf
        rw [HT.out] at hr
        clear hg hgf S
        go_wp2_with fail
        go_loopw [9, 10] (fun va vi wx => LRel w gw (.slice A2 ps.length c2) ps g va vi wx) (fun _ vi _ => ps.length - (intOf vi).toNat)
        case atStart => exact ⟨0, 0, rfl, rfl, Nat.zero_le _, rfl, hr, S5⟩
        case round =>
          obtain ⟨k2, a, rfl, rfl, hk2le, ha0, R, S6⟩ := hrel
          have ha := Lib.hid ha0
          clear ha0 hr S5
          have hal : a ≤ (bsum ps).length := R.le
          have hal2 : a ≤ t.size := by have := htl.out; omega
          by_cases hk2 : k2 < ps.length
          · have hf := S6.own.form (by omega)
            obtain ⟨gp, cp, hv, _⟩ := hf
            injection hv with hv1 _ hv3
            subst hv1
            subst hv3
            have hcell := S6.own.cells (g := gp) rfl k2 (strV (ps[k2]'hk2)) (by simp [List.getElem?_eq_getElem hk2])
            rw [Go.WideShapes.add_plain, Nat.zero_add] at hcell
            unfold strV at hcell
            obtain ⟨h1, h2, h3⟩ := bsum_at ps k2 hk2
            have hps3 : (ps[k2]'hk2).size ≤ 100 := HPS.out _ (List.getElem_mem hk2)
            rw [← ha.out] at h1 h2
            generalize (ps[k2]'hk2) = p at *
            have h2 := Lib.hid h2
            have h3 := Lib.hid h3
            have t5 : decide (k2 < ps.length) = true := by simpa using hk2
            have hk2' : (k2 : Int) < (ps.length : Int) := by omega
            have hk2c : (k2 : Int) ≤ 20 := by have := HLEN.out; omega
            by_cases hp1 : p.size = 1
            · have t6 : ((p.size : Int) == 1) = true := by simp; omega
              have hpos : 0 < p.size := by omega
              have HP1 := Lib.hid hp1
              clear hp1
              go_wp2_with fail
              refine (place_eq R).mono ?_
              rintro e w6 ⟨rfl, hg6⟩
              have R6 := R.kept hg6
              have S7 := S6.kept hg6
              go_wp2_with fail
              refine (left_eq R6 ((t.size : Int) - (a : Int)) (by have := htl.out; omega)).mono ?_
              rintro e w7 ⟨rfl, hg7⟩
              have R7 := R6.kept hg7
              have S8 := S7.kept hg7
              obtain ⟨rcs, hbk⟩ := R7.blk
              clear hg6 hg7 hcell R R6 S6 S7
              go_wp2_with fail
              refine (byte_ok R7 (p[0]) (byte_here HP1.out hpos h2.out)).mono ?_
              rintro e w8 ⟨rfl, hg8, hr8⟩
              have S9 := S8.rdr hg8 hbk hge
              clear hg8
              go_wp2_with fail
              go_roundw
              case rel => first | exact ⟨k2 + 1, a + 1, by go_num, by go_num, by omega, by rw [h3.out, ha.out, HP1.out], hr8, S9⟩ | exact ⟨k2 + 1, a + p.size, by go_num, by go_num, by omega, by rw [h3.out, ha.out, HP1.out], (by rw [HP1.out]; exact hr8), S9⟩
              case measure => simp [intOf]; omega
            · have t6 : ((p.size : Int) == 1) = false := by simp; omega
              go_wp2_with fail
              refine (place_eq R).mono ?_
              rintro e w6 ⟨rfl, hg6⟩
              have R6 := R.kept hg6
              have S7 := S6.kept hg6
              go_wp2_with fail
              refine (left_eq R6 ((t.size : Int) - (a : Int)) (by have := htl.out; omega)).mono ?_
              rintro e w7 ⟨rfl, hg7⟩
              have R7 := R6.kept hg7
              have S8 := S7.kept hg7
              obtain ⟨rcs, hbk⟩ := R7.blk
              clear hg6 hg7 hcell R R6 S6 S7
              go_wp2_with fail
              refine (take_eq R7 p rfl h1 h2.out).mono ?_
              rintro e w8 ⟨rfl, hg8, hr8⟩
              have S9 := S8.rdr hg8 hbk hge
              clear hg8
              go_wp2_with fail
              go_roundw
              case rel => exact ⟨k2 + 1, a + p.size, by go_num, by go_num, by omega, by rw [h3.out, ha.out], hr8, S9⟩
              case measure => simp [intOf]; omega
          · have hkk : k2 = ps.length := by omega
            have haf : a = (bsum ps).length := by rw [ha.out, hkk, List.take_length]
            have HAF := Lib.hid haf
            have t5 : decide (k2 < ps.length) = false := by simp; omega
            clear hkk haf
            go_wp2_with fail
            refine (end_ok R HAF.out).mono ?_
            rintro e w6 ⟨rfl, hg6⟩
            have R6 := R.kept hg6
            have S7 := S6.kept hg6
            clear hg6
            go_wp2_with fail
            refine (left_eq R6 0 (by have := HAF.out; omega)).mono ?_
            rintro e w7 ⟨rfl, hg7⟩
            have S8 := S7.kept hg7
            clear hg7
            go_wp2_with fail
            refine (wtext_eq S8.wtr t HT.out).mono ?_
            rintro e w8 ⟨rfl, rfl⟩
            go_wp2_with fail
            go_ret
            exact ⟨rfl, S8.step⟩
end Go.Proofs.YtndkjlnajoblaaaDoor

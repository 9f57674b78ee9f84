/- InsnBack: whatever instructions and bytes, the call returns true, and turns nothing that was there. -/
import Derived.Test.YtmbdaenjeeklfaaDoorZInO
import Derived.Test.YtmbdaenjeeklfaaDoorZInK
import Derived.Test.YtmbdaenjeeklfaaDoorZInL
import Derived.LoopTactic
import Derived.Deep.LoopGhost
import Derived.Deep.DeepCutAuto
import Derived.Deep.CutBlock
namespace Go.Proofs.YtmbdaenjeeklfaaDoor
open Go.RowKit

set_option maxRecDepth 100000 in
set_option maxHeartbeats 40000000 in
theorem iback_any (v : Value) (xs : List (Int × Sg)) (t : ByteArray) (w : World) (hE : ErrType w) (hl : InsA w v xs) :
    Calls Tryd.prog 5 #[v, .string t] w fun e w' => e = .returned (.bool true) ∧ w.grownBy w' none := by
  obtain ⟨A, c, rfl, hm, hxs⟩ := hl
  have HX := Lib.hid hxs
  have HE := Lib.hid hE
  clear hxs hE
  go_enter Tryd.func5, Tryd.ntmps5
  go_wp2_with fail
  refine (iworks_any _ HE.out).mono ?_
  rintro e w1 ⟨rfl, hg1⟩
  go_wp2_with fail
  refine (newWriter_any w.heap.size _ hg1.size).mono ?_
  rintro e w2 ⟨g, rfl, hge, hg2, hw2⟩
  have S0 : IW w w2 g [] (.slice none 0 0) [] := ⟨HE.out, only_trans hg1 hg2, hw2, World.ownsRow_nil _ _ _ _⟩
  clear hg1 hg2 hw2 hge
  go_wp2_with fail
  go_loopw [6, 7] (fun vp vi wr => ∃ (k : Nat) (ys : List (Int × Sg)), vi = .int .i64 (k : Int) ∧ k ≤ 10 ∧ OkL w ys ∧ ys.length ≤ k ∧ IW w wr g (byB ys) vp ys) (fun _ vi _ => 10 - (intOf vi).toNat)
  case atStart => exact ⟨0, [], rfl, by omega, fun y hy => (by cases hy), by simp, S0⟩
  case round =>
    obtain ⟨k, ys, rfl, hk, hok, hyk, S⟩ := hrel
    clear S0
    go_upto_region 8 with fail
    go_cut [31] from 24 to 30 (fun v wx => v = .bool (decide (k < xs.length ∧ k < 10)) ∧ wr = wx)
    case first =>
      by_cases h1 : k < xs.length
      · have i1 : (k : Int) < (xs.length : Int) := by omega
        by_cases h2 : k < 10
        · have i2 : (k : Int) < 10 := by omega
          go_wp2_with fail
          go_meet
          exact ⟨by simp [h1, h2], rfl⟩
        · have i2 : (10 : Int) ≤ (k : Int) := by omega
          go_wp2_with fail
          go_meet
          exact ⟨by simp [h2]; omega, rfl⟩
      · have i1 : (xs.length : Int) ≤ (k : Int) := by omega
        go_wp2_with fail
        go_meet
        exact ⟨by simp [h1], rfl⟩
    obtain ⟨rfl, rfl⟩ := hcut
    by_cases hkx : k < xs.length ∧ k < 10
    · rw [decide_eq_true hkx]
      obtain ⟨hkx, hk10⟩ := hkx
      obtain ⟨b, off, rfl, hbl, hall⟩ := HX.out (fun e => by rw [e] at hkx; simp at hkx)
      obtain ⟨y, hy⟩ : ∃ y, xs[k]? = some y := ⟨_, List.getElem?_eq_getElem hkx⟩
      obtain ⟨hyR, hya, hyc⟩ := hall k y hy
      obtain ⟨op, ⟨a, bb, cc, d, lv, l⟩⟩ := y
      obtain ⟨hyl, A2, cp, hlv, hcp, hc63⟩ := hyR
      dsimp only at hyl hlv hcp hya hyc
      subst hlv
      have q : ∀ j u, (Sg.cells ⟨a, bb, cc, d, .slice A2 l.length cp, l⟩ op)[j]? = some u → wr.cell? ⟨b, off + k * 6 + j, none⟩ = some u := fun j u hu => cell_row (hyc j u hu) S.st (fun e => by cases e)
      have c0 : wr.cell? ⟨b, off + k * 6, none⟩ = some (.int .i64 op) := q 0 _ rfl
      have c1 : wr.cell? ⟨b, off + k * 6 + 1, none⟩ = some (.int .i64 a) := q 1 _ rfl
      have c2 : wr.cell? ⟨b, off + k * 6 + 2, none⟩ = some (.int .i64 bb) := q 2 _ rfl
      have c3 : wr.cell? ⟨b, off + k * 6 + 3, none⟩ = some (.int .i64 cc) := q 3 _ rfl
      have c4 : wr.cell? ⟨b, off + k * 6 + 4, none⟩ = some (.int .i64 d) := q 4 _ rfl
      have c5 : wr.cell? ⟨b, off + k * 6 + 5, none⟩ = some (.slice A2 l.length cp) := q 5 _ rfl
      have i0 : (0 : Int) ≤ (k : Int) := by omega
      have i1 : (k : Int) < (xs.length : Int) := by omega
      have i2 : (k : Int) < 10 := by omega
      have HF := Lib.hid (fun W => few_any ⟨a, bb, cc, d, .slice A2 l.length cp, l⟩ op A2 cp W rfl hcp hc63)
      obtain ⟨z, hz⟩ : ∃ z : Sg, z = ⟨a, bb, cc, d, .slice A2 (min l.length 12) cp, l.take (min l.length 12)⟩ := ⟨_, rfl⟩
      have HZ : Hid (IntsA (fun b => b < w.heap.size) w z.lv z.l ∧ Whole z.a ∧ z.l.length ≤ 12) := Lib.hid (by
        rw [hz]
        refine ⟨ints_take hyl _ (Nat.min_le_left _ _), hya, ?_⟩
        simp only [List.length_take]
        omega)
      have hzc : Sg.cells { (⟨a, bb, cc, d, .slice A2 l.length cp, l⟩ : Sg) with lv := .slice A2 (min l.length 12) cp } op = #[.int .i64 op, .int .i64 a, .int .i64 bb, .int .i64 cc, .int .i64 d, .slice A2 (min l.length 12) cp] := rfl
      have hzz : z.cells op = #[.int .i64 op, .int .i64 a, .int .i64 bb, .int .i64 cc, .int .i64 d, .slice A2 (min l.length 12) cp] := by rw [hz]; rfl
      have HZZ := Lib.hid hzz
      have HZS : Hid (z.lv = .slice A2 (min l.length 12) cp) := Lib.hid (by rw [hz])
      rw [hzc] at HF
      have hmin : min l.length 12 ≤ 12 := Nat.min_le_right _ _
      generalize min l.length 12 = m at *
      clear hzc hzz hz q hyc hyl hall hy
      have HS := Lib.hid S
      have HOK := Lib.hid hok
      have HYK := Lib.hid hyk
      have hln := wlen_any S.wt
      clear S hok hyk
      go_wp2_with fail
      refine (HF.out _).mono ?_
      rintro e w3 ⟨rfl, hg3⟩
      go_wp2_with fail
      have S3 := HS.out.none_ hg3
      have hsz : wr.heap.size ≤ w3.heap.size := hg3.size
      have ha4 := only_alloc (only_refl w3 none) (.cells #[.int .i64 op, .int .i64 a, .int .i64 bb, .int .i64 cc, .int .i64 d, .slice A2 m cp] 24)
      have S4 := S3.none_ ha4
      have hb4 := Blk.new w3 24 #[.int .i64 op, .int .i64 a, .int .i64 bb, .int .i64 cc, .int .i64 d, .slice A2 m cp]
      have HOWN : Hid (∀ i, u6.ownBlock = some i → i < w3.heap.size) := fun i hi => Nat.lt_of_lt_of_le (HS.out.own.lt i hi).2 hsz
      have hln4 := wlen_any S4.wt
      have b0 := hb4.cell 0
      have b1 := hb4.cell 1
      have b2 := hb4.cell 2
      have b3 := hb4.cell 3
      have b4 := hb4.cell 4
      have b5 := hb4.cell 5
      have HB4 := Lib.hid hb4
      have HS4 := Lib.hid S4
      clear S3 hb4 hsz hln c0 c1 c2 c3 c4 c5 HF ha4 HS S4
      generalize w3.alloc (.cells #[.int .i64 op, .int .i64 a, .int .i64 bb, .int .i64 cc, .int .i64 d, .slice A2 m cp] 24) = w4 at *
      generalize w3.heap.size = nb at *
      refine hln4.mono ?_
      rintro e w5 ⟨rfl, rfl⟩
      clear hln4
      have hlz : IntsA (fun b => b < w.heap.size) w4 z.lv z.l := HZ.out.1.row HS4.out.st (fun _ _ e => by cases e)
      have hys1 : (byB ys).length ≤ 10000 := by have := byB_le HOK.out; have := HYK.out; omega
      by_cases hc : chkI (z.ins op) = 0
      · have HP := put_any HS4.out.wt HS4.out.st.size z op hlz HZ.out.2.1 hc (by omega)
        rw [HZZ.out] at HP
        have HC := Lib.hid hc
        clear hlz hc hys1
        go_wp2_with fail
        refine HP.mono ?_
        rintro e w5 ⟨rfl, hw5, ht5⟩
        have S5 := HS4.out.wrote hw5 ht5
        have hb5 := HB4.out.turn ht5 (not_ws HS4.out.wt HB4.out (by decide) (by decide))
        replace b0 := hb5.cell 0
        replace b1 := hb5.cell 1
        replace b2 := hb5.cell 2
        replace b3 := hb5.cell 3
        replace b4 := hb5.cell 4
        replace b5 := hb5.cell 5
        have HP5 := Lib.hid hb5
        have HS5 := Lib.hid S5
        have HLV : Hid (∃ A n c, z.lv = .slice A n c) := ⟨_, _, _, HZS.out⟩
        have HL6 : Hid (ys.length ≤ 1000) := Nat.le_trans HYK.out (by omega)
        clear HP hw5 ht5 hb5 S5
        go_upto_region 14 with fail
        have hb6 : Blk (w5.alloc (.cells #[.int .i64 op, .int .i64 a, .int .i64 bb, .int .i64 cc, .int .i64 d, .slice A2 m cp] 24)) w5.heap.size 24 (z.cells op) := by rw [HZZ.out]; exact Blk.new _ _ _
        have S6 := HS5.out.none_ (only_alloc (only_refl w5 none) (.cells #[.int .i64 op, .int .i64 a, .int .i64 bb, .int .i64 cc, .int .i64 d, .slice A2 m cp] 24))
        go_wp2_with (at_builtin; go_loud (refine wpList_append_insn rfl _ _ rfl rfl rfl S6.own hb6 HLV.out HL6.out S6.st.size ?_); intro v' w7 ho hg7; have S7 := S6.appended hg7 ho; have hb7 := (HP5.out.alloc (.cells #[.int .i64 op, .int .i64 a, .int .i64 bb, .int .i64 cc, .int .i64 d, .slice A2 m cp] 24)).grown hg7 (fun e => Nat.lt_irrefl _ (HOWN.out _ e.symm)); have e0 := hb7.cell 0; have e1 := hb7.cell 1; have e2 := hb7.cell 2; have e3 := hb7.cell 3; have e4 := hb7.cell 4; have e5 := hb7.cell 5; clear ho hg7)
        have HS7 := Lib.hid S7
        have hgt : ((byB ys).length : Int) < ((byB ys ++ bytesI (z.ins op)).length : Int) := by
          have := bytesI_pos (z.ins op)
          rw [List.length_append]
          omega
        have HCk := check_any z op w7 (HZ.out.1.row S7.st (fun _ _ e => by cases e)).below
        rw [HZZ.out, HC.out] at HCk
        have hw8 := wlen_any S7.wt
        clear S7 hb7 S6 hb6
        generalize (byB ys ++ bytesI (z.ins op)).length = L2 at hw8 hgt
        refine hw8.mono ?_
        rintro e w8 ⟨rfl, rfl⟩
        clear hw8
        go_wp2_with fail
        refine HCk.mono ?_
        rintro e w8 ⟨rfl, hg8⟩
        have S8 := HS7.out.none_ hg8
        clear HCk hg8 e0 e1 e2 e3 e4 e5
        go_wp2_with fail
        go_roundw
        case rel => exact ⟨k + 1, ys ++ [(op, z)], by go_num, by omega, HOK.out.snoc HC.out HZ.out.2.1 HZ.out.1, by have := HYK.out; simp; omega, by rw [byB_snoc]; exact S8⟩
        case measure => simp [intOf]; omega
      · have HP := put_bad (pp := some ⟨g, 0, none⟩) z op w4 hlz.below hc
        rw [HZZ.out] at HP
        have HCk := fun W (hg : w.grownBy W none) => check_any z op W (HZ.out.1.row hg (fun _ _ e => by cases e)).below
        rw [HZZ.out] at HCk
        have HCk := Lib.hid HCk
        obtain ⟨ck, hck⟩ : ∃ ck, chkI (z.ins op) = ck := ⟨_, rfl⟩
        rw [hck] at HP HCk hc
        have hcb : (ck == 0) = false := by simpa using hc
        clear hlz hys1 hck hc
        go_wp2_with fail
        refine HP.mono ?_
        rintro e w5 ⟨rfl, hg5⟩
        have hb5 := HB4.out.kept hg5
        replace b0 := hb5.cell 0
        replace b1 := hb5.cell 1
        replace b2 := hb5.cell 2
        replace b3 := hb5.cell 3
        replace b4 := hb5.cell 4
        replace b5 := hb5.cell 5
        have S5 := HS4.out.none_ hg5
        have HS5 := Lib.hid S5
        clear hg5 hb5 HP S5
        go_wp2_with fail
        refine (wlen_any HS5.out.wt).mono ?_
        rintro e w6 ⟨rfl, rfl⟩
        go_wp2_with fail
        refine (HCk.out _ HS5.out.st).mono ?_
        rintro e w6 ⟨rfl, hg6⟩
        have S6 := HS5.out.none_ hg6
        clear hg6 b0 b1 b2 b3 b4 b5
        go_wp2_with fail
        go_roundw
        case rel => exact ⟨k + 1, ys, by go_num, by omega, HOK.out, by have := HYK.out; omega, S6⟩
        case measure => simp [intOf]; omega
    · rw [decide_eq_false hkx]
      have HOK := Lib.hid hok
      have HS := Lib.hid S
      have hlen : (byB ys).length ≤ 10000 := by have := byB_le hok; omega
      have hys : ys.length ≤ 10 := by omega
      clear hok S hkx hk hyk HX hm
      have htx := wtext_any HS.out.wt
      obtain ⟨T, hT⟩ : ∃ T : ByteArray, (⟨(byB ys).toArray⟩ : ByteArray) = T := ⟨_, rfl⟩
      have hTl : T.data.toList = byB ys := by rw [← hT]
      have hTs : T.size ≤ 10000 := by rw [← bytes_len, hTl]; exact hlen
      rw [hT] at htx
      clear hT hlen
      go_wp2_with fail
      refine htx.mono ?_
      rintro e wx ⟨rfl, rfl⟩
      clear htx
      go_wp2_with fail
      refine (newReader_any T _ (by omega)).mono ?_
      rintro e w3 ⟨g2, rfl, hge2, hg3, hr3⟩
      rw [hTl] at hr3
      have R0 : IR w w3 g2 (byB ys) 0 u6 ys := ⟨HE.out, only_trans HS.out.st hg3, Nat.le_trans HS.out.st.size hge2, hr3, (HS.out.none_ hg3).own⟩
      clear hTl hTs hg3 hge2 hr3 HS
      have hpre : byB (ys.take 0) = [] := rfl
      have R1 : IR w w3 g2 (byB ys) (byB (ys.take 0)).length u6 ys := R0
      obtain ⟨bs, hbs⟩ : ∃ bs, byB ys = bs := ⟨_, rfl⟩
      rw [hbs] at R1
      have HBS := Lib.hid hbs
      clear R0 hpre hbs
      go_wp2_with fail
      generalize hvp : u6 = vp at *
      clear hvp
      obtain ⟨n6, hn6⟩ : ∃ n, ys.length = n := ⟨_, rfl⟩
      obtain ⟨A6, c6, rfl⟩ := own_shape R1.own
      have HY := Lib.hid hys
      clear hys hn6 n6
      go_loopw [12] (fun vi wr => ∃ j : Nat, vi = .int .i64 (j : Int) ∧ j ≤ ys.length ∧ IR w wr g2 bs (byB (ys.take j)).length (.slice A6 ys.length c6) ys) (fun vi _ => ys.length - (intOf vi).toNat)
      case atStart => exact ⟨0, rfl, by omega, R1⟩
      case round =>
        obtain ⟨j, rfl, hj, R⟩ := hrel
        clear R1
        by_cases hlt : j < ys.length
        · obtain ⟨y, hy⟩ : ∃ y, ys[j]? = some y := ⟨_, List.getElem?_eq_getElem hlt⟩
          obtain ⟨op, ⟨a, b, cc, d, lv2, l⟩⟩ := y
          obtain ⟨k1, k2, k3⟩ := HOK.out _ (List.mem_of_getElem? hy)
          obtain ⟨gA, capA, hA, _⟩ := row_cells R.own (fun e => by rw [e] at hlt; simp at hlt)
          injection hA with e1 _ e3
          subst e1 e3
          have hdrop := byB_drop hy
          rw [HBS.out] at hdrop
          have htk := byB_next hy
          have hrd := readI_at k1 k2 hdrop
          have hra := read_any R.rd
          rw [hrd, htk] at hra
          have h12 : l.length ≤ 1000 := by
            have := (may_of k1)
            have := (cov_parts this.cov).2
            have h8 : l.length ≤ 8 := this
            omega
          dsimp only [Sg.ins] at k1 k2 k3
          clear hdrop htk hrd
          have i0 : (0 : Int) ≤ (j : Int) := by omega
          have i1 : (j : Int) < (ys.length : Int) := by omega
          have j10 : (j : Int) ≤ 10 := by have := HY.out; omega
          have HR := Lib.hid R
          have HY3 := Lib.hid k3
          have HY1 := Lib.hid hy
          have HLT := Lib.hid hlt
          have H12 := Lib.hid h12
          clear R k1 k2 k3 hy hlt h12
          go_wp2_with fail
          refine hra.mono ?_
          unfold SaysI
          rintro e w4 ⟨⟨a1, b1, c1, d1, lv1, l1⟩, hs', rfl, hl', hg4, hr4⟩
          simp only [Sg.ins, Ins.mk.injEq] at hs'
          obtain ⟨_, rfl, rfl, rfl, rfl, rfl⟩ := hs'
          have R4 := HR.out.move hg4 hr4
          dsimp only at hl'
          have hop : (Sg.ins ⟨a1, b1, c1, d1, lv2, l1⟩ op).op = op := rfl
          rw [hop]
          obtain ⟨A1, cp1, hlv1, _⟩ := id hl'
          subst hlv1
          have HL1 := Lib.hid hl'
          clear hl' hg4 hr4 hra hop
          unfold Sg.cells
          dsimp only
          go_upto_region 24 with fail
          have hb5 := Blk.new w4 24 #[.int .i64 op, .int .i64 a1, .int .i64 b1, .int .i64 c1, .int .i64 d1, .slice A1 l1.length cp1]
          have ha5 := only_alloc (only_refl w4 none) (.cells #[.int .i64 op, .int .i64 a1, .int .i64 b1, .int .i64 c1, .int .i64 d1, .slice A1 l1.length cp1] 24)
          have R5 := R4.none_ ha5
          have HL5 := Lib.hid (HL1.out.row ha5 (fun _ _ e => by cases e))
          clear HL1 R4 ha5
          generalize w4.alloc (.cells #[.int .i64 op, .int .i64 a1, .int .i64 b1, .int .i64 c1, .int .i64 d1, .slice A1 l1.length cp1] 24) = w5 at *
          generalize w4.heap.size = nb at *
          obtain ⟨gB, capB, hB, hcl⟩ := row_cells R5.own (fun e => by have := HLT.out; rw [e] at this; simp at this)
          injection hB with e1 _ e3
          injection e1 with e1
          injection e1 with e1
          subst e1 e3
          have HCy := Lib.hid (hcl j _ HY1.out)
          have HSm : Hid (∀ W, w5.grownBy W none → Calls Tryd.prog 28 #[.agg (Sg.cells ⟨a1, b1, c1, d1, .slice A1 l1.length cp1, l1⟩ op), .agg (Sg.cells ⟨a1, b1, c1, d1, lv2, l1⟩ op)] W fun e w' => e = .returned (.bool true) ∧ W.grownBy w' none) := fun W hg =>
            same_any ⟨a1, b1, c1, d1, .slice A1 l1.length cp1, l1⟩ op lv2 W (HL5.out.row hg (fun _ _ e => by cases e)) (HY3.out.row (only_trans R5.st hg) (fun _ _ e => by cases e)) H12.out
          have HLV : Hid (∃ A n c, lv2 = .slice A n c) := by
            obtain ⟨A, c, e, _⟩ := HY3.out
            exact ⟨A, _, c, e⟩
          obtain ⟨Ay, ny, cy, hlvy⟩ := HLV.out
          have hrunS : ∀ {args : Array Value} W, (callFunc 28 args).run Tryd.prog W = .ok (.enter 28 args) W := fun W => enters_of Tryd.func28 (by kernel_rfl) rfl _ W
          have HR5 := Lib.hid R5
          have HBx := Lib.hid hb5
          clear hcl R5 hb5
          go_cut [89] from 79 to 88 (fun v wx => v = .bool false ∧ IR w wx g2 bs (byB (ys.take (j + 1))).length (.slice (some ⟨gA, 0, none⟩) ys.length c6) ys)
          case first =>
            refine region_known (by kernel_rfl)
              [(79, .nilIface), (80, .bool false), (81, .bool false), (82, .agg (Sg.cells ⟨a1, b1, c1, d1, .slice A1 l1.length cp1, l1⟩ op)), (83, .slice (some ⟨gA, 0, none⟩) ys.length c6), (84, .int .i64 (j : Int)), (85, .pointer (some ⟨gA, 0 + j * 6, none⟩)), (86, .agg (Sg.cells ⟨a1, b1, c1, d1, lv2, l1⟩ op)), (87, .bool true), (88, .bool false), (89, .bool false)]
              [(14, .nilIface), (13, .pointer (some ⟨nb, 0, none⟩)), (6, .slice (some ⟨gA, 0, none⟩) ys.length c6), (12, .int .i64 (j : Int))]
              (by kernel_rfl) [79, 80, 81, 82, 83, 84, 85, 86, 87, 88, 89] (by kernel_rfl) (by kernel_rfl) (by decide) (by kernel_rfl) ⟨rfl, rfl, rfl, rfl, trivial⟩ ?hops ?hQ
            case hops =>
              exact ⟨og (t := 79) rfl rfl (ov_move rfl rfl), og (t := 80) rfl rfl (ov_neq_nil rfl rfl), og (t := 81) rfl rfl (ov_move rfl rfl),
                og (t := 82) rfl rfl (ov_ld_insn (n := l1.length) (c := cp1) rfl rfl rfl (fun i u hu => by rw [Nat.zero_add]; exact (HBx.out.cell i).trans hu)),
                og (t := 83) rfl rfl (ov_move rfl rfl), og (t := 84) rfl rfl (ov_move rfl rfl), og (t := 85) rfl rfl (ov_ix_insns j rfl rfl rfl rfl HLT.out),
                og (t := 86) rfl rfl (ov_ld_insn rfl rfl hlvy (fun i u hu => by rw [Nat.zero_add]; exact HCy.out i u hu)),
                og (t := 87) rfl rfl (ov_call2 rfl rfl rfl (fun W => hrunS W) (fun W hg => HSm.out W hg)), og (t := 88) rfl rfl (ov_not rfl rfl rfl), og (t := 89) rfl rfl (ov_pick_ft rfl rfl rfl), trivial⟩
            case hQ =>
              intro vs W hg hv
              have HZ : Hid (vs 89 = .bool false ∧ IR w W g2 bs (byB (ys.take (j + 1))).length (.slice (some ⟨gA, 0, none⟩) ys.length c6) ys) := Lib.hid ⟨hv 89 _ rfl (by decide), HR5.out.none_ hg⟩
              clear hv hg
              simp only [List.foldl_cons, List.foldl_nil, List.setIfInBounds_toArray, List.set_cons_zero, List.set_cons_succ]
              go_wp2_with fail
              go_meet
              exact HZ.out
          case rest =>
            obtain ⟨rfl, hR6⟩ := hcut
            have HR6 := Lib.hid hR6
            have HLT2 := Lib.hid HLT.out
            clear hR6
            go_wp2_with fail
            go_roundw
            case rel => exact ⟨j + 1, by go_num, HLT2.out, HR6.out⟩
            case measure => have := HLT2.out; have := HY.out; simp [intOf]; omega
        · have hje : j = ys.length := by omega
          subst hje
          have hend : (byB (ys.take ys.length)).length = bs.length := by rw [List.take_length, HBS.out]
          have hen := end_ok R.rd hend
          have HST := Lib.hid R.st
          clear R hend hlt hj HBS HOK HY
          have i1 : ¬ ((ys.length : Int) < (ys.length : Int)) := by omega
          go_wp2_with fail
          refine hen.mono ?_
          rintro e w4 ⟨rfl, hg4⟩
          have HS4 := Lib.hid (only_trans HST.out hg4)
          clear hen hg4 HST
          go_upto_region 28 with fail
          go_cut [1] from 93 to 97 (fun v wx => ∃ s : ByteArray, v = .string s ∧ s.size ≤ 200 ∧ w4 = wx)
          case first =>
            by_cases h200 : t.size ≤ 200
            · have h2 : (t.size : Int) ≤ 200 := by omega
              go_wp2_with fail
              go_meet
              exact ⟨t, rfl, h200, rfl⟩
            · have h2 : (200 : Int) < (t.size : Int) := by omega
              go_wp2_with fail
              go_meet
              exact ⟨_, rfl, by rw [ByteArray.size_extract]; omega, rfl⟩
          case rest =>
            obtain ⟨s, rfl, hs2, rfl⟩ := hcut
            go_wp2_with fail
            refine (newReader_any s _ (by omega)).mono ?_
            rintro e w5 ⟨g5, rfl, hge5, hg5, hr5⟩
            have hge : w.heap.size ≤ g5 := Nat.le_trans HS4.out.size hge5
            have HST := Lib.hid (only_trans HS4.out hg5)
            clear hg5 hge5 HS4
            go_wp2_with fail
            go_loopg [16, 17, 18] s.data.toList.length (fun n v16 v17 v18 wr => ∃ a : Nat, Rdr wr g5 s.data.toList a 0 ∧ n + a = s.data.toList.length ∧ w.grownBy wr none)
            case atStart => exact ⟨0, hr5, by omega, HST.out⟩
            case round =>
              obtain ⟨a, hr, hn, hst⟩ := hrel
              clear hr5 HST
              have hs2' : s.data.toList.length ≤ 200 := by rw [bytes_len]; exact hs2
              by_cases hlt : a < s.data.toList.length
              · obtain ⟨l, hl⟩ : ∃ l : Int, (s.data.toList.length : Int) - (a : Int) = l := ⟨_, rfl⟩
                have hl0 : 0 < l := by omega
                have hle := left_eq hr l hl
                have HR := Lib.hid hr
                have HS := Lib.hid hst
                have HN := Lib.hid hn
                have HLT := Lib.hid hlt
                have HS2 := Lib.hid hs2'
                have HSZ : Hid (s.data.toList.length = s.size) := bytes_len s
                clear hl hr hst hn hlt hs2'
                go_wp2_with fail
                refine hle.mono ?_
                rintro e w6 ⟨rfl, hg6⟩
                have hpl := place_step (HR.out.kept hg6)
                rw [cast0] at hpl
                have HG6 := Lib.hid (only_trans HS.out hg6)
                have HR6 := Lib.hid (HR.out.kept hg6)
                clear hg6 hle
                go_wp2_with fail
                refine hpl.mono ?_
                rintro e w7 ⟨rfl, hg7⟩
                have hra := read_any (HR6.out.kept hg7)
                have HG7 := Lib.hid (only_trans HG6.out hg7)
                clear hg7 hpl
                cases hrd : readI s.data.toList a with
                | ok x b =>
                  rw [hrd] at hra
                  obtain ⟨q1, q2, q3, q4, q5⟩ := readI_is hrd
                  have hpos := bytesI_pos x
                  have hab : (a : Int) < (b : Int) := by omega
                  have a0 : (0 : Int) ≤ (a : Int) := by omega
                  have hb2 : (b : Int) ≤ (s.size : Int) := by have := HSZ.out; omega
                  have hb3 : (s.size : Int) ≤ 200 := by omega
                  have hU : Hid ((⟨(bytesI x).toArray⟩ : ByteArray) = s.extract a b) := by
                    refine bytes_of_list ?_
                    rw [q3, ext_list, q5, List.take_left]
                  have Q1 := Lib.hid q1
                  have Q2 := Lib.hid q2
                  have HAB := Lib.hid hab
                  clear hrd q1 q2 q3 q4 q5 hpos
                  go_wp2_with fail
                  refine hra.mono ?_
                  unfold SaysI
                  rintro e w8 ⟨s', hs', rfl, hl', hg8, hr8⟩
                  obtain ⟨A1, cp1, hlv1, _⟩ := id hl'
                  obtain ⟨a1, b1, c1, d1, lv1, l1⟩ := s'
                  dsimp only at hlv1
                  subst hlv1
                  have HL8 := Lib.hid hl'.below
                  have HG8 := Lib.hid (only_new HG7.out hg8 hge)
                  have HR8 := Lib.hid hr8
                  obtain ⟨op, hop⟩ : ∃ op : Int, x.op = op := ⟨_, rfl⟩
                  rw [hop] at hs' ⊢
                  have HX8 := Lib.hid hs'
                  clear hl' hg8 hr8 hra hs' hop
                  unfold Sg.cells
                  dsimp only
                  go_wp2_with fail
                  have ha9 := only_alloc (only_refl w8 none) (.cells #[.int .i64 op, .int .i64 a1, .int .i64 b1, .int .i64 c1, .int .i64 d1, .slice A1 l1.length cp1] 24)
                  have hb9 := Blk.new w8 24 #[.int .i64 op, .int .i64 a1, .int .i64 b1, .int .i64 c1, .int .i64 d1, .slice A1 l1.length cp1]
                  have HR9 := Lib.hid (HR8.out.kept ha9)
                  have HG9 := Lib.hid (only_trans HG8.out ha9)
                  have HL9 : Hid (∀ W, (w8.alloc (.cells #[.int .i64 op, .int .i64 a1, .int .i64 b1, .int .i64 c1, .int .i64 d1, .slice A1 l1.length cp1] 24)).grownBy W none → IntsA (fun b => b < W.heap.size) W (.slice A1 l1.length cp1) l1) := fun W hg => (HL8.out.row (only_trans ha9 hg) (fun _ _ e => by cases e)).below
                  clear ha9 HL8 HR8 HG8
                  generalize w8.alloc (.cells #[.int .i64 op, .int .i64 a1, .int .i64 b1, .int .i64 c1, .int .i64 d1, .slice A1 l1.length cp1] 24) = w9 at *
                  generalize w8.heap.size = nb at *
                  have hpl := place_step HR9.out
                  rw [cast0] at hpl
                  refine hpl.mono ?_
                  rintro e w10 ⟨rfl, hg10⟩
                  have hb10 := hb9.kept hg10
                  have b0 := hb10.cell 0
                  have b1' := hb10.cell 1
                  have b2 := hb10.cell 2
                  have b3 := hb10.cell 3
                  have b4 := hb10.cell 4
                  have b5 := hb10.cell 5
                  have hby := bytes_any ⟨a1, b1, c1, d1, .slice A1 l1.length cp1, l1⟩ op w10 (HL9.out w10 hg10) (by have := Q2.out; rw [← HX8.out] at this; exact this)
                  rw [HX8.out, if_pos Q1.out, hU.out] at hby
                  have HG10 := Lib.hid (only_trans HG9.out hg10)
                  have HR10 := Lib.hid (HR9.out.kept hg10)
                  clear hg10 hpl hb9 hb10 HR9 HG9
                  unfold Sg.cells at hby
                  dsimp only at hby
                  go_wp2_with fail
                  refine hby.mono ?_
                  rintro e w11 ⟨rfl, hg11⟩
                  have hpl := place_step (HR10.out.kept hg11)
                  rw [cast0] at hpl
                  have HG11 := Lib.hid (only_trans HG10.out hg11)
                  have HR11 := Lib.hid (HR10.out.kept hg11)
                  clear hg11 hby HR10 HG10 b0 b1' b2 b3 b4 b5
                  go_wp2_with fail
                  refine hpl.mono ?_
                  rintro e w12 ⟨rfl, hg12⟩
                  have HG12 := Lib.hid (only_trans HG11.out hg12)
                  have HR12 := Lib.hid (HR11.out.kept hg12)
                  clear hg12 hpl HR11 HG11
                  go_wp2_with fail
                  go_roundg (s.data.toList.length - b)
                  case rel => exact ⟨b, HR12.out, by have := HR12.out.le; omega, HG12.out⟩
                  case measure => have := HN.out; have := HLT.out; have := HAB.out; have := HR12.out.le; omega
                | flt c y b =>
                  rw [hrd] at hra
                  clear hrd
                  go_wp2_with fail
                  refine hra.mono ?_
                  unfold SaysI
                  rintro e w8 ⟨fb, rfl, hf, hge8, hg8, hr8⟩
                  have HG8 := Lib.hid (only_new HG7.out hg8 hge)
                  unfold zI
                  clear hf hge8 hg8 hr8 hra
                  go_wp2_with fail
                  refine (same_any (S1 := fun _ => True) (S2 := fun _ => True) ⟨0, 0, 0, 0, .slice none 0 0, []⟩ 0 (.slice none 0 0) _ ⟨none, 0, rfl, fun h => absurd rfl h⟩ ⟨none, 0, rfl, fun h => absurd rfl h⟩ (by simp)).mono ?_
                  rintro e w9 ⟨rfl, hg9⟩
                  go_wp2_with fail
                  go_ret
                  exact ⟨rfl, only_trans (only_alloc HG8.out _) hg9⟩
              · obtain ⟨l, hl⟩ : ∃ l : Int, (s.data.toList.length : Int) - (a : Int) = l := ⟨_, rfl⟩
                have hal := hr.le
                have hl0 : l = 0 := by omega
                have hle := left_eq hr l hl
                rw [hl0] at hle
                have HS := Lib.hid hst
                clear hl hl0 hr hst hn hlt hs2' hal
                go_wp2_with fail
                refine hle.mono ?_
                rintro e w6 ⟨rfl, hg6⟩
                have HG6 := Lib.hid (only_trans HS.out hg6)
                clear hle hg6
                go_wp2_with fail
                go_ret
                exact ⟨rfl, HG6.out⟩
end Go.Proofs.YtmbdaenjeeklfaaDoor

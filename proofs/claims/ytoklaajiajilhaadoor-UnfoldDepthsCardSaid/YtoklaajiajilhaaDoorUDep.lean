/- UnfoldDepths: the walk, from the contracts. -/
import Derived.Test.YtoklaajiajilhaaDoorUSte
import Derived.Test.YtoklaajiajilhaaDoorUOps
import Derived.Deep.CutBlock
import Derived.Deep.CutRange
import Derived.Deep.RegionHeld3
import Derived.Deep.QuietTactic
import Derived.BigQuiet
namespace Go.Proofs.YtoklaajiajilhaaDoor
open Go.RowKit

section
variable {dig : Int → List UInt8} {L : World → Prop} {zs : List Nd} {v : Value} {w W3 : World} {a b : Ed} {k : Int}
/-- A call of Equal, whenever it comes. -/
theorem eq_call (hU : UC dig L) (hL : L w) (hg : w.grownBy W3 none) (hT : Tbl W3 v zs) (hz : zs.length ≤ 1000) (ha : InT a) (hb : InT b) {r : Bool} (hr : equalA zs a b k = r) : ∀ W, W3.grownBy W none → Calls Tryd.prog 8 #[v, edV a, edV b, .int .i64 k] W fun e w' => e = .returned (.bool r) ∧ W.grownBy w' none := fun W h => by
  have := hU.equal zs v a b k W (hU.keep _ _ hL (only_trans hg h)) (hT.keep (.grown h)) hz ha hb
  rw [hr] at this
  exact this
theorem tx_call (hU : UC dig L) (hL : L w) (hg : w.grownBy W3 none) (hT : Tbl W3 v zs) (hz : zs.length ≤ 1000) (ha : InT a) {l : List UInt8} (hr : textA dig zs a k = l) : ∀ W, W3.grownBy W none → Calls Tryd.prog 11 #[v, edV a, .int .i64 k] W fun e w' => e = .returned (.string ⟨l.toArray⟩) ∧ W.grownBy w' none := fun W h => by
  have := hU.text zs v a k W (hU.keep _ _ hL (only_trans hg h)) (hT.keep (.grown h)) hz ha
  rw [hr] at this
  exact this
end
/-- What stands: the list, both types. -/
structure DpW (w : World) (v : Value) (zs : List Nd) (Ba Bb : Nat) (a b : Ed) (W : World) : Prop where
  gr : w.grownBy W none
  tb : Tbl W v zs
  ba : Blk W Ba 24 #[.int .i64 a.1, .int .i64 a.2]
  bb : Blk W Bb 24 #[.int .i64 b.1, .int .i64 b.2]
theorem DpW.kept {w : World} {v : Value} {zs : List Nd} {Ba Bb : Nat} {a b : Ed} {W W' : World} (h : DpW w v zs Ba Bb a b W) (hg : W.grownBy W' none) : DpW w v zs Ba Bb a b W' := ⟨only_trans h.gr hg, h.tb.keep (.grown hg), h.ba.kept hg, h.bb.kept hg⟩

set_option maxRecDepth 100000 in
set_option maxHeartbeats 4000000 in
theorem udepths_of {dig : Int → List UInt8} {L : World → Prop} (hU : UC dig L) (h12 : dig 12 = [49, 50]) (h13 : dig 13 = [49, 51]) (xs : List Nd) (A : Option Addr) (c : Nat) (a0 o0 a1 o1 n0 n1 : Int) (w : World) (hL : L w) (hX : TblC w (.slice A xs.length c) xs)
    (b0 : -9223372036854775808 ≤ a0 ∧ a0 ≤ 9223372036854775807) (b1 : -9223372036854775808 ≤ a1 ∧ a1 ≤ 9223372036854775807) (c0 : 0 ≤ n0 ∧ n0 ≤ 65535) (c1 : 0 ≤ n1 ∧ n1 ≤ 65535) :
    Calls Tryd.prog 4 #[.slice A xs.length c, .agg #[.int .i64 a0, .int .i64 o0, .int .i64 a1, .int .i64 o1], .agg #[.int .u16 n0, .int .u16 n1]] w fun e w' => e = .returned (.bool true) ∧ w.grownBy w' none := by
  have HU := Lib.hid hU
  have HD : Hid (dig 12 = [49, 50] ∧ dig 13 = [49, 51]) := Lib.hid ⟨h12, h13⟩
  have HL := Lib.hid hL
  have HT := Lib.hid hX
  have HB : Hid ((-9223372036854775808 ≤ a0 ∧ a0 ≤ 9223372036854775807) ∧ -9223372036854775808 ≤ a1 ∧ a1 ≤ 9223372036854775807) := Lib.hid ⟨b0, b1⟩
  obtain ⟨zs, hzs⟩ : ∃ zs, smallL xs 8 = zs := ⟨_, rfl⟩
  have hzl : zs.length ≤ 8 := by rw [← hzs]; exact small_len xs 8
  have hzn : largeB zs = false := by rw [← hzs]; exact small_not (by decide)
  have HZS := Lib.hid hzs
  have HZL := Lib.hid hzl
  have HZN := Lib.hid hzn
  obtain ⟨p0, hp0⟩ : ∃ p, Int.tmod o0 100000 = p := ⟨_, rfl⟩
  obtain ⟨p1, hp1⟩ : ∃ p, Int.tmod o1 100000 = p := ⟨_, rfl⟩
  obtain ⟨d, hd⟩ : ∃ d : Nat, n0 % 5 = (d : Int) := ⟨(n0 % 5).toNat, by omega⟩
  have hd5 : d ≤ 4 := by omega
  have q0 : -100000 ≤ p0 ∧ p0 ≤ 100000 := by rw [← hp0]; exact tmod_in o0
  have q1 : -100000 ≤ p1 ∧ p1 ≤ 100000 := by rw [← hp1]; exact tmod_in o1
  have HQ : Hid ((-100000 ≤ p0 ∧ p0 ≤ 100000) ∧ -100000 ≤ p1 ∧ p1 ≤ 100000) := Lib.hid ⟨q0, q1⟩
  have HDD := Lib.hid hd
  clear hU h12 h13 hL hX b0 b1 hzs hzl hzn q0 q1 hd
  go_enter Tryd.func4, Tryd.ntmps4
  go_upto_region 1 with fail
  generalize hWa : World.alloc (World.alloc w _) _ = Wa
  have HBX : Hid (Blk Wa w.heap.size 25 #[.int .i64 a0, .int .i64 o0, .int .i64 a1, .int .i64 o1]) := Lib.hid (by rw [← hWa]; exact (Blk.new _ _ _).alloc _)
  have HBN : Hid (Blk Wa (w.heap.size + 1) 31 #[.int .u16 n0, .int .u16 n1]) := Lib.hid (by rw [← hWa]; exact blk_at (by simp) _ _)
  have HGa : Hid (w.grownBy Wa none) := Lib.hid (by rw [← hWa]; exact only_alloc (only_alloc (only_refl _ _) _) _)
  revert HBX HBN
  generalize w.heap.size + 1 = Bn
  generalize w.heap.size = Bx
  intro HBX HBN
  clear hWa
  go_upto_region 4 with (first
    | (go_at_call 10; go_must (refine (uworks_of HU.out HD.out.1 HD.out.2 _ (HU.out.keep _ _ HL.out HGa.out)).mono ?_; rintro en W0 ⟨rfl, hg0⟩; have HG0 := Lib.hid (only_trans HGa.out hg0); have HBX0 := Lib.hid (HBX.out.kept hg0); have HBN0 := Lib.hid (HBN.out.kept hg0); clear hg0))
    | (go_at_call 7; go_must (refine (small_any xs A c 8 (by decide) _ (HT.out.keep (.grown HG0.out))).mono ?_; rintro en W1 ⟨⟨v, ns, rfl, hot, hns⟩, hg1⟩; have htb := hot.tbl; rw [hns, HZS.out] at htb; have HT1 := Lib.hid htb; have HG1 := Lib.hid (only_trans HG0.out hg1); have HBX1 := Lib.hid (HBX0.out.kept hg1); have HBN1 := Lib.hid (HBN0.out.kept hg1); obtain ⟨A1, cc, rfl, _⟩ := htb; clear hot hns hg1))
    | fail)
  clear HBX HBN HBX0 HBN0 HGa HG0
  go_cut [7, 8] from 18 to 24 (fun u v wx => u = .int .i64 (d : Int) ∧ v = .int .i64 n1 ∧ W1.grownBy wx none)
  case first =>
    have y0 := HBN1.out.cell 0
    have y1 := HBN1.out.cell 1
    have hm : Int.tmod n0 5 = (d : Int) := by rw [Int.tmod_eq_emod_of_nonneg c0.1]; exact HDD.out
    have hm2 := HDD.out
    go_quiet (fail)
    all_goals go_wp2_with fail
    all_goals go_meet
    all_goals exact ⟨rfl, rfl, only_drewN (only_refl _ _) _⟩
  case rest =>
    obtain ⟨rfl, rfl, hg2⟩ := hcut
    generalize wc = W2 at *
    have HG2 := Lib.hid (only_trans HG1.out hg2)
    have HBX2 := Lib.hid (HBX1.out.kept hg2)
    have HT2 := Lib.hid (HT1.out.keep (.grown hg2))
    clear hg2 HG1 HBX1 HBN1 HT1
    have x0 := HBX2.out.cell 0
    have x1 := HBX2.out.cell 1
    have x2 := HBX2.out.cell 2
    have x3 := HBX2.out.cell 3
    have hbx := HBX2.out.lt
    go_upto_region 7 with fail
    generalize hW3 : World.alloc (World.alloc W2 _) _ = W3
    have hA : Blk W3 W2.heap.size 24 #[.int .i64 a0, .int .i64 p0] := by rw [← hW3]; exact (Blk.new _ _ _).alloc _
    have hB2 : Blk W3 (W2.heap.size + 1) 24 #[.int .i64 a1, .int .i64 p1] := by rw [← hW3]; exact blk_at (by simp) _ _
    have hg3 : W2.grownBy W3 none := by rw [← hW3]; exact only_alloc (only_alloc (only_refl _ _) _) _
    have HW : Hid (DpW w (.slice A1 zs.length cc) zs W2.heap.size (W2.heap.size + 1) (a0, p0) (a1, p1) W3) := Lib.hid ⟨only_trans HG2.out hg3, HT2.out.keep (.grown hg3), hA, hB2⟩
    revert HW
    clear hA hB2
    generalize W2.heap.size + 1 = Bb
    generalize W2.heap.size = Ba
    intro HW
    have HI0 : Hid (InT (a0, p0)) := Lib.hid (inT_of HB.out.1.1 HB.out.1.2 (by have := HQ.out.1; omega) (by have := HQ.out.1; omega))
    have HI1 : Hid (InT (a1, p1)) := Lib.hid (inT_of HB.out.2.1 HB.out.2.2 (by have := HQ.out.2; omega) (by have := HQ.out.2; omega))
    have HZ1 : Hid (zs.length ≤ 1000) := Lib.hid (by have := HZL.out; omega)
    obtain ⟨r, hr⟩ : ∃ r, equalA zs (a0, p0) (a1, p1) (d : Int) = r := ⟨_, rfl⟩
    have HR := Lib.hid hr
    clear hW3 hg3 x0 x1 x2 x3 hbx HBX2 HG2 HT2 hp0 hp1 hr
    have H1 := Lib.hid (eq_call HU.out HL.out HW.out.gr HW.out.tb HZ1.out HI0.out HI0.out (depths_refl HZN.out (a0, p0)))
    have H2 := Lib.hid (eq_call HU.out HL.out HW.out.gr HW.out.tb HZ1.out HI0.out HI1.out HR.out)
    have H3 := Lib.hid (eq_call HU.out HL.out HW.out.gr HW.out.tb HZ1.out HI1.out HI0.out ((equalA_symm (a1, p1) (a0, p0) (d : Int)).trans HR.out))
    go_cut [58] from 41 to 58 (fun u wx => u = .bool false ∧ W3.grownBy wx none)
    case first =>
      have y0 := HW.out.ba.cell 0
      have y1 := HW.out.ba.cell 1
      have y2 := HW.out.bb.cell 0
      have y3 := HW.out.bb.cell 1
      have s : W3.grownBy W3.drew none := only_drew (only_refl _ _)
      go_region_held3 (fun w' => w'.cell? ⟨Ba, 0, none⟩ = some (.int .i64 a0) ∧ w'.cell? ⟨Ba, 1, none⟩ = some (.int .i64 p0) ∧ w'.cell? ⟨Bb, 0, none⟩ = some (.int .i64 a1) ∧ w'.cell? ⟨Bb, 1, none⟩ = some (.int .i64 p1)) (exact ⟨Keeps.grown s _ _ y0, Keeps.grown s _ _ y1, Keeps.grown s _ _ y2, Keeps.grown s _ _ y3⟩) (first
        | (go_at_call 8; ((with_reducible refine Calls.mono (H1.out _ s) ?_); rintro e W8 ⟨rfl, hs⟩); replace s := only_trans s hs; clear hs)
        | (go_at_call 8; ((with_reducible refine Calls.mono (H2.out _ s) ?_); rintro e W8 ⟨rfl, hs⟩); replace s := only_trans s hs; clear hs)
        | (go_at_call 8; ((with_reducible refine Calls.mono (H3.out _ s) ?_); rintro e W8 ⟨rfl, hs⟩); replace s := only_trans s hs; clear hs)
        | fail)
      all_goals go_wp2_with fail
      all_goals go_meet
      all_goals exact ⟨by simp, s⟩
    case rest =>
      obtain ⟨rfl, hg4⟩ := hcut
      generalize wc = W4 at *
      have HW4 := Lib.hid (HW.out.kept hg4)
      clear hg4 H1 H2 H3 HW
      go_upto_region 9 with fail
      go_cut [11, 12] from 59 to 72 (fun u v wx => BoxesB W4 24 (edCells (a0, p0 + n1)) (edCells (a1, p1 + n1)) u v wx)
      case first =>
        have y0 := HW4.out.ba.cell 0
        have y1 := HW4.out.ba.cell 1
        have y2 := HW4.out.bb.cell 0
        have y3 := HW4.out.bb.cell 1
        have e0 : (-1000000000 ≤ p0 ∧ p0 ≤ 1000000000) ∧ -1000000000 ≤ n1 ∧ n1 ≤ 1000000000 := by have := HQ.out.1; omega
        have e1 : -1000000000 ≤ p1 ∧ p1 ≤ 1000000000 := by have := HQ.out.2; omega
        refine region_two (by kernel_rfl) (by kernel_rfl) [59, 60, 61, 62, 63, 64, 65, 66, 67, 68, 69, 70, 71, 72, 11, 12] (by kernel_rfl) (by kernel_rfl) (by decide)
          [(8, .int .i64 n1), (9, .pointer (some ⟨Ba, 0, none⟩)), (10, .pointer (some ⟨Bb, 0, none⟩)), (59, .pointer (some ⟨Ba, 0, none⟩)), (60, .int .i64 a0), (61, .pointer (some ⟨Ba, 0 + 1, none⟩)), (62, .int .i64 p0), (63, .int .i64 n1), (64, .int .i64 (p0 + n1)), (65, edV (a0, p0 + n1)),
           (66, .pointer (some ⟨Bb, 0, none⟩)), (67, .int .i64 a1), (68, .pointer (some ⟨Bb, 0 + 1, none⟩)), (69, .int .i64 p1), (70, .int .i64 n1), (71, .int .i64 (p1 + n1)), (72, edV (a1, p1 + n1))]
          ⟨11, 24, edCells (0, 0), edCells (a0, p0 + n1), 65, 14, 16⟩ ⟨12, 24, edCells (0, 0), edCells (a1, p1 + n1), 72, 15, 17⟩
          ?h0 (boxed_type _ _ _ _ _) (boxed_type _ _ _ _ _) rfl rfl rfl rfl (by dsimp only; decide) (by kernel_rfl) (by kernel_rfl) (by kernel_rfl) (by kernel_rfl) ?hops ?hQ
        case h0 =>
          intro p hp hn
          simp only [List.mem_cons, List.not_mem_nil, or_false] at hp
          rcases hp with rfl | rfl | rfl | rfl | rfl | rfl | rfl | rfl | rfl | rfl | rfl | rfl | rfl | rfl | rfl | rfl | rfl
          all_goals first | rfl | exact absurd (by dsimp only; decide) hn
        case hops =>
          exact ⟨.val 59 _ rfl rfl rfl (ov_fld_Type0 rfl rfl), .val 60 _ rfl rfl rfl (ov_ld_int rfl rfl y0), .val 61 _ rfl rfl rfl (ov_fld_Type1 rfl rfl), .val 62 _ rfl rfl rfl (ov_ld_int rfl rfl y1), .val 63 _ rfl rfl rfl (ov_move rfl rfl), .val 64 _ rfl rfl rfl (ov_add_b rfl rfl rfl e0.1.1 e0.1.2 e0.2.1 e0.2.2), .val 65 _ rfl rfl rfl (ov_build_type rfl rfl rfl),
            .val 66 _ rfl rfl rfl (ov_fld_Type0 rfl rfl), .val 67 _ rfl rfl rfl (ov_ld_int rfl rfl y2), .val 68 _ rfl rfl rfl (ov_fld_Type1 rfl rfl), .val 69 _ rfl rfl rfl (ov_ld_int rfl rfl y3), .val 70 _ rfl rfl rfl (ov_move rfl rfl), .val 71 _ rfl rfl rfl (ov_add_b rfl rfl rfl e1.1 e1.2 e0.2.1 e0.2.2), .val 72 _ rfl rfl rfl (ov_build_type rfl rfl rfl),
            .al1 rfl rfl rfl, .al2 rfl rfl rfl, .st1 rfl rfl rfl, .st2 rfl rfl rfl, trivial⟩
        case hQ =>
          intro vs W Cx Cy hg e1 e2 hne h1 h2 k1 k2
          have HZ : Hid (BoxesB W4 24 (edCells (a0, p0 + n1)) (edCells (a1, p1 + n1)) (vs 11) (vs 12) W) := Lib.hid ⟨Cx, Cy, e1, e2, hne, k1, k2, hg⟩
          clear hg e1 e2 hne h1 h2 k1 k2
          simp only [List.foldl_cons, List.foldl_nil, List.setIfInBounds_toArray, List.set_cons_zero, List.set_cons_succ]
          go_wp2_with fail
          go_meet
          exact HZ.out
      case rest =>
        obtain ⟨Ca, Cb, rfl, rfl, _, kx, ky, hg5⟩ := hcut
        generalize wc = W5 at *
        have HW5 := Lib.hid (HW4.out.kept hg5)
        have HKX := Lib.hid kx
        have HKY := Lib.hid ky
        have HI2 : Hid (InT (a0, p0 + n1)) := Lib.hid (inT_of HB.out.1.1 HB.out.1.2 (by have := HQ.out.1; omega) (by have := HQ.out.1; omega))
        have HI3 : Hid (InT (a1, p1 + n1)) := Lib.hid (inT_of HB.out.2.1 HB.out.2.2 (by have := HQ.out.2; omega) (by have := HQ.out.2; omega))
        have H1 := Lib.hid (eq_call HU.out HL.out HW5.out.gr HW5.out.tb HZ1.out HI0.out HI1.out HR.out)
        have H2 := Lib.hid (eq_call HU.out HL.out HW5.out.gr HW5.out.tb HZ1.out HI2.out HI3.out ((depths_up HZN.out d (by omega) (by have := HQ.out.1; omega) (by have := HQ.out.1; omega) (by have := HQ.out.2; omega) (by have := HQ.out.2; omega) c1.1 (by have := c1.2; omega)).trans HR.out))
        clear kx ky hg5 HW4
        go_upto_region 10 with fail
        go_cut [83] from 73 to 83 (fun u wx => u = .bool false ∧ W5.grownBy wx none)
        case first =>
          have y0 := HW5.out.ba.cell 0
          have y1 := HW5.out.ba.cell 1
          have y2 := HW5.out.bb.cell 0
          have y3 := HW5.out.bb.cell 1
          have y4 := HKX.out.cell 0
          have y5 := HKX.out.cell 1
          have y6 := HKY.out.cell 0
          have y7 := HKY.out.cell 1
          have s : W5.grownBy W5.drew none := only_drew (only_refl _ _)
          go_region_held3 (fun w' => w'.cell? ⟨Ba, 0, none⟩ = some (.int .i64 a0) ∧ w'.cell? ⟨Ba, 1, none⟩ = some (.int .i64 p0) ∧ w'.cell? ⟨Bb, 0, none⟩ = some (.int .i64 a1) ∧ w'.cell? ⟨Bb, 1, none⟩ = some (.int .i64 p1) ∧ w'.cell? ⟨Ca, 0, none⟩ = some (.int .i64 a0) ∧ w'.cell? ⟨Ca, 1, none⟩ = some (.int .i64 (p0 + n1)) ∧ w'.cell? ⟨Cb, 0, none⟩ = some (.int .i64 a1) ∧ w'.cell? ⟨Cb, 1, none⟩ = some (.int .i64 (p1 + n1))) (exact ⟨Keeps.grown s _ _ y0, Keeps.grown s _ _ y1, Keeps.grown s _ _ y2, Keeps.grown s _ _ y3, Keeps.grown s _ _ y4, Keeps.grown s _ _ y5, Keeps.grown s _ _ y6, Keeps.grown s _ _ y7⟩) (first
            | (go_at_call 8; ((with_reducible refine Calls.mono (H1.out _ s) ?_); rintro e W8 ⟨rfl, hs⟩); replace s := only_trans s hs; clear hs)
            | (go_at_call 8; ((with_reducible refine Calls.mono (H2.out _ s) ?_); rintro e W8 ⟨rfl, hs⟩); replace s := only_trans s hs; clear hs)
            | fail)
          all_goals go_wp2_with fail
          all_goals go_meet
          all_goals exact ⟨by simp, s⟩
        case rest =>
          obtain ⟨rfl, hg6⟩ := hcut
          generalize wc = W6 at *
          have HW6 := Lib.hid (HW5.out.kept hg6)
          have y0 := HW6.out.ba.cell 0
          have y1 := HW6.out.ba.cell 1
          have y2 := HW6.out.bb.cell 0
          have y3 := HW6.out.bb.cell 1
          have H3 := Lib.hid (eq_call HU.out HL.out HW6.out.gr HW6.out.tb HZ1.out HI0.out HI1.out HR.out _ (only_refl _ _))
          clear hg6 H1 H2 HW5 HKX HKY HI2 HI3
          cases r with
          | false =>
            go_wp2_with (first | (go_at_call 8; go_must (refine Calls.mono H3.out ?_; rintro e W7 ⟨rfl, hg7⟩; have HW7 := Lib.hid (HW6.out.kept hg7); clear hg7)) | fail)
            go_ret
            exact ⟨rfl, HW7.out.gr⟩
          | true =>
            go_wp2_with (first | (go_at_call 8; go_must (refine Calls.mono H3.out ?_; rintro e W7 ⟨rfl, hg7⟩; have HW7 := Lib.hid (HW6.out.kept hg7); clear hg7)) | fail)
            clear y0 y1 y2 y3 H3 HW6
            go_loopw [13] (fun i W => ∃ k : Nat, k ≤ d + 1 ∧ i = .int .i64 (k : Int) ∧ DpW w (.slice A1 zs.length cc) zs Ba Bb (a0, p0) (a1, p1) W) (fun i _ => d + 1 - (intOf i).toNat)
            case atStart => exact ⟨0, Nat.zero_le _, rfl, HW7.out⟩
            case round =>
              clear HW7
              obtain ⟨k, hk, rfl, hw⟩ := hrel
              have HWK := Lib.hid hw
              clear hw
              by_cases hkd : k ≤ d
              · have hk1 : (k : Int) ≤ (d : Int) := by omega
                have H1 := Lib.hid (eq_call HU.out HL.out HWK.out.gr HWK.out.tb HZ1.out HI0.out HI1.out (depths_le HZN.out (by omega) hkd HR.out))
                go_upto_region 17 with fail
                go_cut [116] from 95 to 116 (fun u wx => u = .bool false ∧ wr.grownBy wx none)
                case first =>
                  have y0 := HWK.out.ba.cell 0
                  have y1 := HWK.out.ba.cell 1
                  have y2 := HWK.out.bb.cell 0
                  have y3 := HWK.out.bb.cell 1
                  have s : wr.grownBy wr.drew none := only_drew (only_refl _ _)
                  by_cases hlt : k < d
                  · have hlt1 : decide (k < d) = true := decide_eq_true hlt
                    have hlt2 : decide ((k : Int) < (d : Int)) = true := decide_eq_true (by omega)
                    obtain ⟨l, hl⟩ : ∃ l, textA dig zs (a0, p0) (k : Int) = l := ⟨_, rfl⟩
                    have H2 := Lib.hid (tx_call HU.out HL.out HWK.out.gr HWK.out.tb HZ1.out HI0.out hl)
                    have H3 := Lib.hid (tx_call HU.out HL.out HWK.out.gr HWK.out.tb HZ1.out HI1.out ((depths_text HZN.out (by omega) hlt HR.out).symm.trans hl))
                    clear hl
                    go_region_held3 (fun w' => w'.cell? ⟨Ba, 0, none⟩ = some (.int .i64 a0) ∧ w'.cell? ⟨Ba, 1, none⟩ = some (.int .i64 p0) ∧ w'.cell? ⟨Bb, 0, none⟩ = some (.int .i64 a1) ∧ w'.cell? ⟨Bb, 1, none⟩ = some (.int .i64 p1)) (exact ⟨Keeps.grown s _ _ y0, Keeps.grown s _ _ y1, Keeps.grown s _ _ y2, Keeps.grown s _ _ y3⟩) (first
                      | (go_at_call 8; ((with_reducible refine Calls.mono (H1.out _ s) ?_); rintro e W8 ⟨rfl, hs⟩); replace s := only_trans s hs; clear hs)
                      | (go_at_call 11; ((with_reducible refine Calls.mono (H2.out _ s) ?_); rintro e W8 ⟨rfl, hs⟩); replace s := only_trans s hs; clear hs)
                      | (go_at_call 11; ((with_reducible refine Calls.mono (H3.out _ s) ?_); rintro e W8 ⟨rfl, hs⟩); replace s := only_trans s hs; clear hs)
                      | fail)
                    all_goals go_wp2_with fail
                    all_goals go_meet
                    all_goals exact ⟨by simp, s⟩
                  · have hlt1 : decide (k < d) = false := decide_eq_false hlt
                    have hlt2 : decide ((k : Int) < (d : Int)) = false := decide_eq_false (by omega)
                    refine region_known (by kernel_rfl)
                      [(95, .slice A1 zs.length cc), (96, edV (a0, p0)), (97, edV (a1, p1)), (98, .int .i64 (k : Int)), (99, .bool true), (100, .bool false), (101, .bool false), (102, .int .i64 (k : Int)), (103, .int .i64 (d : Int)), (104, .bool false), (105, .bool false), (115, .bool false), (116, .bool false)]
                      [(0, .slice A1 zs.length cc), (7, .int .i64 (d : Int)), (9, .pointer (some ⟨Ba, 0, none⟩)), (10, .pointer (some ⟨Bb, 0, none⟩)), (13, .int .i64 (k : Int))]
                      (by kernel_rfl) [95, 96, 97, 98, 99, 100, 101, 102, 103, 104, 105, 106, 107, 108, 109, 110, 111, 112, 113, 114, 115, 116] (by kernel_rfl) (by kernel_rfl) (by decide) (by kernel_rfl) ⟨rfl, rfl, rfl, rfl, rfl, trivial⟩ ?hops ?hQ
                    case hops =>
                      exact ⟨og (t := 95) (c := .slice A1 zs.length cc) rfl (by kernel_rfl) (ov_move rfl (by kernel_rfl)),
                        og (t := 96) (c := edV (a0, p0)) rfl (by kernel_rfl) (ov_load_type rfl (by kernel_rfl) HWK.out.ba),
                        og (t := 97) (c := edV (a1, p1)) rfl (by kernel_rfl) (ov_load_type rfl (by kernel_rfl) HWK.out.bb),
                        og (t := 98) (c := .int .i64 (k : Int)) rfl (by kernel_rfl) (ov_move rfl (by kernel_rfl)),
                        og (t := 99) (c := .bool true) rfl (by kernel_rfl) (ov_call4 rfl (by kernel_rfl) (by kernel_rfl) (by kernel_rfl) (by kernel_rfl) (fun W => by kernel_rfl) H1.out),
                        og (t := 100) (c := .bool false) rfl (by kernel_rfl) (ov_not (a := true) rfl (by kernel_rfl) rfl),
                        og (t := 101) (c := .bool false) rfl (by kernel_rfl) (ov_move rfl (by kernel_rfl)),
                        og (t := 102) (c := .int .i64 (k : Int)) rfl (by kernel_rfl) (ov_move rfl (by kernel_rfl)),
                        og (t := 103) (c := .int .i64 (d : Int)) rfl (by kernel_rfl) (ov_move rfl (by kernel_rfl)),
                        og (t := 104) (c := .bool false) rfl (by kernel_rfl) (ov_lss (a := (k : Int)) (c := (d : Int)) rfl (by kernel_rfl) (by kernel_rfl) hlt2),
                        og (t := 105) (c := .bool false) rfl (by kernel_rfl) (ov_move rfl (by kernel_rfl)),
                        oskip (t := 106) rfl (by kernel_rfl), oskip (t := 107) rfl (by kernel_rfl), oskip (t := 108) rfl (by kernel_rfl), oskip (t := 109) rfl (by kernel_rfl), oskip (t := 110) rfl (by kernel_rfl), oskip (t := 111) rfl (by kernel_rfl), oskip (t := 112) rfl (by kernel_rfl), oskip (t := 113) rfl (by kernel_rfl), oskip (t := 114) rfl (by kernel_rfl),
                        og (t := 115) (c := .bool false) rfl (by kernel_rfl) (ov_pick_fc rfl (by kernel_rfl)),
                        og (t := 116) (c := .bool false) rfl (by kernel_rfl) (ov_pick_ft rfl (by kernel_rfl) (by kernel_rfl)), trivial⟩
                    case hQ =>
                      intro vs W hg hv
                      have hv116 := hv 116 (.bool false) (by kernel_rfl) (by decide)
                      clear hv s y0 y1 y2 y3
                      have HV := Lib.hid hv116
                      have HGW := Lib.hid hg
                      clear hv116 hg
                      simp only [List.foldl_cons, List.foldl_nil, List.setIfInBounds_toArray, List.set_cons_zero, List.set_cons_succ]
                      go_wp2_with fail
                      go_meet
                      exact ⟨HV.out, HGW.out⟩
                case rest =>
                  obtain ⟨rfl, hg8⟩ := hcut
                  have HW8 := Lib.hid (HWK.out.kept hg8)
                  clear hg8
                  go_wp2_with fail
                  go_roundw
                  case rel => exact ⟨k + 1, by omega, by go_num, HW8.out⟩
                  case measure => simp [intOf]; omega
              · have hk1 : (d : Int) < (k : Int) := by omega
                go_wp2_with fail
                go_ret
                exact ⟨rfl, HWK.out.gr⟩
end Go.Proofs.YtoklaajiajilhaaDoor

/- ClassLinks: the walk, from the contracts. -/
import Derived.Test.YtepjkoegbehojaaZCTables
import Derived.Test.YtepjkoegbehojaaZOvt
import Derived.Test.YtepjkoegbehojaaZMgBV
import Derived.Test.YtepjkoegbehojaaZMgAG
import Derived.Test.YtepjkoegbehojaaZMgAN
import Derived.Test.YtepjkoegbehojaaZMgAS
import Derived.Test.YtepjkoegbehojaaZMgBJ
import Derived.Deep.CutBlock
import Derived.Deep.CutRange
import Derived.Deep.QuietTactic
import Derived.Deep.RegionHeld3
import Derived.BigQuiet
namespace Go.Proofs.Ytepjkoegbehojaa
open Go.RowKit Go.Shelf

set_option maxRecDepth 100000 in
set_option maxHeartbeats 8000000 in
theorem clinks_of (hC : OfC) (hT : TypeC) (hN : NextC) (hP : PayC) (xs : List Nd) (A : Option Addr) (c : Nat) (off : Int) (hf0 : 0 ≤ off) (hf1 : off ≤ 65535) (w : World) (hTb : TblC w (.slice A xs.length c) xs) :
    Calls Try.prog 6 #[.slice A xs.length c, .int .u16 off] w fun e w' => e = .returned (.bool true) ∧ w.grownBy w' none := by
  have HC := Lib.hid hC
  have HTC := Lib.hid hT
  have HNC := Lib.hid hN
  have HPC := Lib.hid hP
  have HT := Lib.hid hTb
  clear hC hT hN hP hTb
  go_enter Try.func6, Try.ntmps6
  obtain ⟨zs, hzs⟩ : ∃ zs, fewL xs = zs := ⟨_, rfl⟩
  have hzl : zs.length ≤ 10 := by rw [← hzs]; exact fewC_len xs
  have HZS := Lib.hid hzs
  have HZL := Lib.hid hzl
  obtain ⟨oe, hoe⟩ : ∃ oe, (orderL zs).2 = oe := ⟨_, rfl⟩
  obtain ⟨on, hon⟩ : ∃ on, (orderL zs).1 = on := ⟨_, rfl⟩
  have HOE := Lib.hid hoe
  have HON : Hid (orderL zs = (on, oe)) := Lib.hid (Prod.ext hon hoe)
  clear hzs hzl hoe hon
  go_upto_region 6 with (first
    | (go_at_call 12; go_must (refine (cworks_of HC.out _).mono ?_; rintro en W0 ⟨rfl, hg0⟩; have HG0 := Lib.hid hg0; have HT0 := Lib.hid (HT.out.keep (.grown hg0)); clear hg0))
    | (go_at_call 8; go_must (refine (few_any xs A c _ HT0.out).mono ?_; rintro en W1 ⟨⟨v, ns, rfl, hot, hns⟩, hg1⟩; have htb := hot.tbl; rw [hns, HZS.out] at htb; have HT1 := Lib.hid htb; have HG1 := Lib.hid (only_trans HG0.out hg1); obtain ⟨A1, c1, rfl, _⟩ := htb; clear hot hns hg1))
    | (go_at_call 9; go_must (refine (HC.out zs _ _ HT1.out (by have := HZL.out; omega)).mono ?_; rw [HOE.out]; rintro en W2 ⟨⟨tv, rfl, ht⟩, hg2⟩; have HTV := Lib.hid ht; have HG2 := Lib.hid (only_trans HG1.out hg2); have HT2 := Lib.hid (HT1.out.keep (.grown hg2)); obtain ⟨A2, c2, A3, c3, A4, c4, rfl⟩ := tab_shape ht; clear ht hg2))
    | (go_at_call 21; go_must (refine (ocheck_any zs _ _ (HT2.out.keep (.grown (only_alloc (only_refl _ _) _))) (by have := HZL.out; omega)).mono ?_; rw [HON.out]; rintro en W3 ⟨rfl, hg3⟩; have HG3 := Lib.hid hg3; clear hg3))
    | fail)
  have HBL := Lib.hid ((Blk.new W2 27 #[.slice A2 (clsT zs).cls.length c2, .slice A3 (clsT zs).of_.length c3, .slice A4 (clsT zs).prio.length c4]).kept HG3.out)
  have gq := only_trans (only_alloc (only_refl W2 none) (.cells #[.slice A2 (clsT zs).cls.length c2, .slice A3 (clsT zs).of_.length c3, .slice A4 (clsT zs).prio.length c4] 27)) HG3.out
  have HTV3 := Lib.hid (HTV.out.keep (.grown gq))
  have HT3 := Lib.hid (HT2.out.keep (.grown gq))
  have HGA := Lib.hid (only_trans HG2.out gq)
  clear gq
  revert HBL
  generalize W2.heap.size = Bt
  intro HBL
  clear HTV HT2 HG2 HG1 HT1 HG0 HT0 HT HG3
  have t0 := HBL.out.cell 0
  have t1 := HBL.out.cell 1
  have t2 := HBL.out.cell 2
  by_cases h0 : oe = 0
  case neg =>
    have hne : (oe != 0) = true := by simp [h0]
    have hE : clsT zs = ⟨[], [], []⟩ := clsT_not (by rw [HOE.out]; exact h0)
    rw [hE] at t0 t1 ⊢
    have s1 : W3.cell? ⟨Bt, 1, none⟩ = some (.slice A3 0 c3) := t1
    clear t0 t1 t2 h0 hE
    go_wp2_with fail
    go_ret
    exact ⟨rfl, HGA.out⟩
  case pos =>
    subst h0
    have hor := ord_of HOE.out
    have HOK := Lib.hid hor.ok
    have hl2 : (clsT zs).of_.length = 2 * zs.length ∧ (clsT zs).prio.length = 2 * zs.length := by
      rw [clsT_ok HOE.out]
      dsimp only
      rw [List.length_map, num_len (tw_two hor.ok), List.length_map, List.length_range, twoL_len]
      exact ⟨rfl, rfl⟩
    have hz0 := hor.ok.pos
    have HTB : Hid (tableL zs = twoL zs) := Lib.hid (tableL_ok (by rw [hor.ok.check]))
    rw [hl2.1] at t1
    rw [hl2.2] at t2
    clear hor hl2
    go_upto_region 9 with (first | (go_at_call 19; go_must (refine (dtable_con zs _ _ HT3.out (by have := HZL.out; omega)).mono ?_; rintro en W4 ⟨⟨u, ms, rfl, hom, hms⟩, hg4⟩; rw [HTB.out] at hms; have htw := hom.tbl; rw [hms] at htw; have HTW := Lib.hid htw; have HG4 := Lib.hid hg4; obtain ⟨A5, c5, rfl, _⟩ := htw; clear hom hms hg4)) | fail)
    have HL2 := Lib.hid (twoL_len zs)
    obtain ⟨n, hn⟩ : ∃ n, zs.length = n := ⟨_, rfl⟩
    have HN := Lib.hid hn
    have hz1 : n ≤ 10 := by rw [← hn]; exact HZL.out
    rw [hn] at hz0
    obtain ⟨ll, hll⟩ : ∃ ll, 2 * n = ll := ⟨_, rfl⟩
    have HLL := Lib.hid hll
    have HLE : Hid ((twoL zs).length = ll) := Lib.hid (by rw [HL2.out, hn, hll])
    have hta : TabV W4 (.agg #[.slice A2 (clsT zs).cls.length c2, .slice A3 ll c3, .slice A4 ll c4]) (clsT zs) := by
      have h1 := HTV3.out.keep (.grown HG4.out)
      have h2 : (clsT zs).of_.length = ll ∧ (clsT zs).prio.length = ll := by
        rw [clsT_ok HOE.out]
        dsimp only
        rw [List.length_map, num_len (tw_two HOK.out), List.length_map, List.length_range, HLE.out]
        exact ⟨rfl, rfl⟩
      rw [h2.1, h2.2] at h1
      exact h1
    have HTA := Lib.hid hta
    have htw : Tbl W4 (.slice A5 ll c5) (twoL zs) := by have h := HTW.out; rw [HLE.out] at h; exact h
    have HTW4 := Lib.hid htw
    have hbl : Blk W4 Bt 27 #[.slice A2 (clsT zs).cls.length c2, .slice A3 ll c3, .slice A4 ll c4] := by
      have h := HBL.out.kept HG4.out
      have h2 : (clsT zs).of_.length = ll ∧ (clsT zs).prio.length = ll := by
        rw [clsT_ok HOE.out]
        dsimp only
        rw [List.length_map, num_len (tw_two HOK.out), List.length_map, List.length_range, HLE.out]
        exact ⟨rfl, rfl⟩
      rw [h2.1, h2.2] at h
      exact h
    have HBT := Lib.hid hbl
    have HG5 := Lib.hid (only_trans HGA.out HG4.out)
    rw [hn, HLE.out]
    have hol : (clsT zs).of_.length = ll := by
      rw [clsT_ok HOE.out]
      dsimp only
      rw [List.length_map, num_len (tw_two HOK.out), HLE.out]
    obtain ⟨bw, ow, bc, oc, bo, oo, rfl, rfl, rfl, hcl, hcc, hco⟩ := lk_open hta htw (by omega) HLE.out hol
    have HCL := Lib.hid hcl
    have HCC := Lib.hid hcc
    have HCO := Lib.hid hco
    obtain ⟨n2, hn2⟩ : ∃ n2, (clsT zs).cls.length = n2 := ⟨_, rfl⟩
    have HN2 := Lib.hid hn2
    rw [hn2] at HTA HBT
    clear hn hn2 hll t0 t1 t2 HTV3 HT3 HGA HG4 hta htw HTW hbl HBL hol hcl hcc hco
    have t0 : W4.cell? ⟨Bt, 0, none⟩ = some (.slice (some ⟨bc, oc, none⟩) n2 c2) := HBT.out.cell 0
    have t1 : W4.cell? ⟨Bt, 1, none⟩ = some (.slice (some ⟨bo, oo, none⟩) ll c3) := HBT.out.cell 1
    have t2 : W4.cell? ⟨Bt, 2, none⟩ = some (.slice A4 ll c4) := HBT.out.cell 2
    have hll0 : (0 : Int) < (ll : Int) := by have := HLL.out; omega
    have hll1 : (ll : Int) ≤ 20 := by have := HLL.out; omega
    have HWF := Lib.hid (wf_clsT zs)
    have hn20 : (n2 : Int) ≤ 1000000 := by have := HWF.out.small.1; rw [HN2.out] at this; omega
    go_wp2_with fail
    go_loopw [10, 11] (fun nx i wr => ∃ q : Nat, q ≤ ll ∧ i = .int .i64 (q : Int) ∧ nx = .int .i64 ((seenN (numL (twoL zs)).2 q : Nat) : Int) ∧ W4.grownBy wr none) (fun _ i _ => ll - (intOf i).toNat)
    case atStart => exact ⟨0, Nat.zero_le _, rfl, rfl, only_refl _ _⟩
    case round =>
      obtain ⟨q, hq, rfl, rfl, hgq⟩ := hrel
      have HGQ := Lib.hid hgq
      clear hgq
      by_cases hlt : q < ll
      · have hq1 : (q : Int) < (ll : Int) := by omega
        have hq0 : (0 : Int) ≤ (q : Int) := by omega
        obtain ⟨cc, m, s, x, k, kd, hF, hnq⟩ := link_facts HOK.out (by have := HZL.out; omega) HOE.out ⟨hf0, hf1⟩ (i := q) (by have := HLL.out; have := HN.out; omega)
        have HF := Lib.hid hF
        have HNQ := Lib.hid hnq
        obtain ⟨o, ho⟩ : ∃ o, s + off = o := ⟨_, rfl⟩
        have HO := Lib.hid ho
        have hob : 0 ≤ o ∧ o ≤ 200000 := by have := hF.s0; omega
        have hml : (m : Int) < (ll : Int) := by have := (List.getElem?_eq_some_iff.1 hF.nx).1; rw [HLE.out] at this; omega
        have hcl : (cc : Int) < (n2 : Int) := by have := (List.getElem?_eq_some_iff.1 hF.cl).1; rw [HN2.out] at this; omega
        have HRS : Hid (resolveL (twoL zs) ((q : Int), off) = ((m : Int), o)) := Lib.hid (by rw [hF.res, ho])
        obtain ⟨vx, hEx, n0, n1, n2', n3, n4, n5⟩ := (HCL.out m x hF.nx).keep (Keeps.grown HGQ.out)
        obtain ⟨vk, hEk, k0, k1, k2, k3, k4, k5⟩ := (HCC.out cc k hF.cl).keep (Keeps.grown HGQ.out)
        obtain ⟨nx, hnx⟩ : ∃ nx, x.next.length = nx := ⟨_, rfl⟩
        obtain ⟨Ax, cx, rfl⟩ := edges_shape hEx hnx
        obtain ⟨Ak, ck, rfl⟩ := edges_shape hEk (hF.kind.2.2.1.trans hnx)
        have hnxb : (nx : Int) ≤ 8 := by have := hF.small.2; omega
        have HEx := Lib.hid hEx
        have HEk := Lib.hid hEk
        have hof := Keeps.grown HGQ.out _ _ (HCO.out q _ hF.of_)
        have hso : ((seenN (numL (twoL zs)).2 q : Nat) : Int) ≤ 1000000 := by
          have := seen_le (tw_two HOK.out) q (by rw [HLE.out]; omega)
          have h2 := HN2.out
          rw [clsT_ok HOE.out] at h2
          dsimp only at h2
          rw [List.length_map] at h2
          omega
        have hse : (cc : Int) ≤ ((seenN (numL (twoL zs)).2 q : Nat) : Int) := by have := seen_cls (tw_two HOK.out) hnq; omega
        have HSN : Hid (seenN (numL (twoL zs)).2 (q + 1) = max (seenN (numL (twoL zs)).2 q) (cc + 1)) := Lib.hid (by conv => lhs; unfold seenN; rw [getD_someN hnq])
        revert hso hse HSN
        generalize seenN (numL (twoL zs)).2 q = sq
        intro hso hse HSN
        obtain ⟨pr, hpr⟩ : ∃ pr, (if x.kind = 0 then 0 else x.prio + (s + off)) = pr := ⟨_, rfl⟩
        have HPR : Hid (pr = if x.kind = 0 then 0 else x.prio + o) := Lib.hid (by rw [← hpr, ho])
        have HTY : Hid (typeA (clsT zs) ((q : Int), off) = ((cc : Int), pr)) := Lib.hid (by rw [hF.ty, hpr])
        obtain ⟨d, hd1, hd2, hd3, hd4⟩ := hF.dual
        obtain ⟨vd, hEd, _, d1, _, d3, d4, d5⟩ := (HCC.out d kd hd3).keep (Keeps.grown HGQ.out)
        obtain ⟨Ad, cd, rfl⟩ := edges_shape hEd (hF.kind.2.2.2.trans hnx)
        have hof2 := Keeps.grown HGQ.out _ _ (HCO.out _ _ hd2)
        have hdl : (d : Int) < (n2 : Int) := by have := (List.getElem?_eq_some_iff.1 hd3).1; rw [HN2.out] at this; omega
        rw [hd4] at d1
        rw [hF.kind.1] at k0
        rw [hd1] at k1
        rw [hF.kind.2.1] at k2
        have HEd := Lib.hid hEd
        have hxp := hF.small.1
        have HNXL := Lib.hid hnx
        have HNX : Hid (∀ (j : Nat) (e : Ed), x.next[j]? = some e → ∃ (a : Nat) (r p : Int) (ka : Nd), k.next[j]? = some ((a : Int), r) ∧ (clsT zs).cls[a]? = some ka ∧ kd.next[j]? = some (ka.prio, r) ∧ nextA (clsT zs) (cc : Int) pr (j : Int) = ((a : Int), p) ∧ typeA (clsT zs) (e.1, o + e.2) = ((a : Int), p)) := Lib.hid (by rw [← hpr, ← ho]; exact hF.next)
        have HPY : Hid (x.chan = true → kd.pay = k.pay ∧ payA (clsT zs) (cc : Int) pr = typeA (clsT zs) (x.pay.1, o + x.pay.2)) := Lib.hid (by rw [← hpr, ← ho]; exact hF.pay)
        have HED : Hid (∀ e ∈ allE x, 0 ≤ e.1 ∧ e.1 ≤ 1000 ∧ 0 ≤ e.2 ∧ e.2 ≤ 1000000) := Lib.hid fun e he => by
          obtain ⟨h0, h1, h2, h3⟩ := (tw_two HOK.out).edge x (List.mem_of_getElem? hF.nx) e he
          rw [HLE.out] at h1
          exact ⟨h0, by omega, h2, by omega⟩
        clear hF hnq ho hnx hEx hEk hpr hd1 hd2 hd3 hd4 hEd
        go_upto_region 17 with (first | (go_at_call 22; go_must (refine (resolve_any (twoL zs) _ ((q : Int), off) _ (HTW4.out.keep (.grown HGQ.out)) (by rw [HLE.out]; omega)).mono ?_; rw [HRS.out]; rintro en W5 ⟨rfl, hg5⟩; have HG5' := Lib.hid (only_trans HGQ.out hg5); have n0' := Keeps.grown hg5 _ _ n0; have n1' := Keeps.grown hg5 _ _ n1; have n2w := Keeps.grown hg5 _ _ n2'; have n3' := Keeps.grown hg5 _ _ n3; have n4' := Keeps.grown hg5 _ _ n4; have n5' := Keeps.grown hg5 _ _ n5; have hbn := cell_lt n0'; have HKQ := Lib.hid hg5; clear hg5)) | fail)
        generalize hW6 : World.alloc (World.alloc W5 _) _ = W6
        have HBY : Hid (Blk W6 W5.heap.size 35 #[.int .i64 (m : Int), .int .i64 o]) := Lib.hid (by rw [← hW6]; exact (Blk.new _ _ _).alloc _)
        have HBN : Hid (Blk W6 (W5.heap.size + 1) 46 #[.int .i64 x.kind, .int .i64 x.prio, .bool x.chan, .int .i64 x.pay.1, .int .i64 x.pay.2, .slice Ax nx cx]) := Lib.hid (by rw [← hW6]; exact blk_at (by simp) _ _)
        have HG6 : Hid (wr.grownBy W6 none) := Lib.hid (by rw [← hW6]; exact only_alloc (only_alloc HKQ.out _) _)
        revert HBY HBN
        generalize W5.heap.size + 1 = Bn
        generalize W5.heap.size = By
        intro HBY HBN
        clear hW6 n0 n1 n2' n3 n4 n5 n0' n1' n2w n3' n4' n5' hbn HKQ HG5'
        have t0' := Keeps.grown (only_trans HGQ.out HG6.out) _ _ t0
        have t1' := Keeps.grown (only_trans HGQ.out HG6.out) _ _ t1
        have t2' := Keeps.grown (only_trans HGQ.out HG6.out) _ _ t2
        go_upto_region 18 with (first | (go_at_call 13; go_must (refine (HTC.out (clsT zs) _ ((q : Int), off) _ HWF.out (HTA.out.keep (.grown (only_trans HGQ.out HG6.out))) (by omega) (by omega)).mono ?_; rw [HTY.out]; rintro en W7 ⟨rfl, hg7⟩; have HG7 := Lib.hid (only_trans HG6.out hg7); have HBY7 := Lib.hid (HBY.out.kept hg7); have HBN7 := Lib.hid (HBN.out.kept hg7); clear hg7 t0' t1' t2')) | fail)
        have t0' := Keeps.grown (only_trans HGQ.out HG7.out) _ _ t0
        have t1' := Keeps.grown (only_trans HGQ.out HG7.out) _ _ t1
        have of1 := Keeps.grown HG7.out _ _ hof
        have hb1 : decide ((cc : Int) < 0) = false := decide_eq_false (by omega)
        have hb2 : decide (n2 ≤ cc) = false := decide_eq_false (by omega)
        have hb3 : decide (sq < cc) = false := decide_eq_false (by omega)
        have k0' := Keeps.grown HG7.out _ _ k0
        have k1' := Keeps.grown HG7.out _ _ k1
        have k2' := Keeps.grown HG7.out _ _ k2
        have k3' := Keeps.grown HG7.out _ _ k3
        have k4' := Keeps.grown HG7.out _ _ k4
        have k5' := Keeps.grown HG7.out _ _ k5
        go_upto_region 22 with fail
        have hmx : (if (sq : Int) < (cc : Int) + 1 then (cc : Int) + 1 else (sq : Int)) = ((seenN (numL (twoL zs)).2 (q + 1) : Nat) : Int) := by rw [HSN.out]; split <;> omega
        rw [hmx]
        generalize hS : ((seenN (numL (twoL zs)).2 (q + 1) : Nat) : Int) = S
        have HS := Lib.hid hS
        generalize hW8 : World.alloc W7 _ = W8
        have HBK : Hid (Blk W8 W7.heap.size 57 #[.int .i64 x.kind, .int .i64 (d : Int), .bool x.chan, .int .i64 k.pay.1, .int .i64 k.pay.2, .slice Ak nx ck]) := Lib.hid (by rw [← hW8]; exact Blk.new _ _ _)
        have HG8 : Hid (wr.grownBy W8 none) := Lib.hid (by rw [← hW8]; exact only_alloc HG7.out _)
        have HBY8 := Lib.hid (HBY7.out.kept (show W7.grownBy W8 none by rw [← hW8]; exact only_alloc (only_refl _ _) _))
        have HBN8 := Lib.hid (HBN7.out.kept (show W7.grownBy W8 none by rw [← hW8]; exact only_alloc (only_refl _ _) _))
        revert HBK
        generalize W7.heap.size = Bk
        intro HBK
        have g8 := Keeps.grown HG8.out
        have g48 := Keeps.grown (only_trans HGQ.out HG8.out)
        have hlk : LkW zs Bt By Bn Bk bc oc n2 c2 bo oo ll c3 A4 c4 m cc d nx o x k kd Ax Ak Ad cx ck cd W8 :=
          ⟨HTA.out.keep g48, HBT.out.kept (only_trans HGQ.out HG8.out), HBY8.out, HBN8.out, HBK.out, HEx.out.keep g8, HEk.out.keep g8, HEd.out.keep g8, fun i y hy => (HCC.out i y hy).keep g48, g8 _ _ d1, g8 _ _ d3, g8 _ _ d4, g8 _ _ d5⟩
        have HLK := Lib.hid hlk
        obtain ⟨e2, he2⟩ : ∃ e2 : Nat, (q + zs.length) % (2 * zs.length) = e2 := ⟨_, rfl⟩
        have of2 := g8 _ _ hof2
        rw [he2] at of2
        rw [HN.out, HLL.out] at he2
        have HE2 := Lib.hid he2
        clear hmx hS hW8 HBK HBY8 HBN8 g8 g48 hlk he2 t0' t1' of1 k0' k1' k2' k3' k4' k5' k0 k1 k2 k3 k4 k5 d1 d3 d4 d5 hof hof2 HBY7 HBN7 HG7 HG6 HBY HBN
        go_cut [176] from 129 to 176 (fun u wx => u = .bool false ∧ W8.grownBy wx none)
        case first =>
          as_aux_lemma =>
            have b0 := HLK.out.bt.cell 0
            have b1 := HLK.out.bt.cell 1
            have y1 := HLK.out.by_.cell 1
            have m0 := HLK.out.bn.cell 0
            have m2 := HLK.out.bn.cell 2
            have m4 := HLK.out.bn.cell 5
            have j0 := HLK.out.bk.cell 0
            have j1 := HLK.out.bk.cell 1
            have j2 := HLK.out.bk.cell 2
            have j5 := HLK.out.bk.cell 5
            have d1 := HLK.out.d1
            have hqn : (q : Int) + (n : Int) ≤ 40 := by have := HLL.out; omega
            have hw1 : IntKind.i64.wrap ((q : Int) + (n : Int)) = (q : Int) + (n : Int) := IntWalk.i64_in _ (by omega)
            have hlz : ((ll : Int) == 0) = false := by rw [beq_eq_false_iff_ne]; omega
            have hw2 : Int.tmod ((q : Int) + (n : Int)) (ll : Int) = (e2 : Int) := by rw [Int.tmod_eq_emod_of_nonneg (by omega), ← HE2.out]; push_cast; rfl
            have he0 : (0 : Int) ≤ (e2 : Int) := by omega
            have he1 : (e2 : Int) < (ll : Int) := by have := HE2.out; have := Nat.mod_lt (q + n) (show 0 < ll by omega); omega
            have hd0 : (0 : Int) ≤ (d : Int) := by omega
            go_quiet (fail)
            all_goals go_wp2_with fail
            all_goals go_meet
            all_goals exact ⟨by simp, only_drewN_C (only_refl _ _) _⟩
        case rest =>
          obtain ⟨rfl, hg9⟩ := hcut
          generalize wc = W9 at *
          have HLK9 := Lib.hid (HLK.out.kept hg9)
          have HG9 := Lib.hid (only_trans HG8.out hg9)
          clear hg9 HLK HG8 of2
          go_upto_region 24 with fail
          go_cut [197] from 177 to 197 (fun u wx => u = .bool false ∧ W9.grownBy wx none)
          case first =>
            as_aux_lemma =>
              have m0 := HLK9.out.bn.cell 0
              have m1 := HLK9.out.bn.cell 1
              have y1 := HLK9.out.by_.cell 1
              by_cases hk0 : x.kind = 0
              · obtain rfl : pr = 0 := by rw [HPR.out, if_pos hk0]
                rw [hk0] at m0
                go_wp2_with fail
                go_meet
                exact ⟨by simp, only_refl _ _⟩
              · obtain rfl : pr = x.prio + o := by rw [HPR.out, if_neg hk0]
                have z1 : (x.kind == 0) = false := by rw [beq_eq_false_iff_ne]; exact hk0
                have z2 : (x.kind != 0) = true := by rw [bne_iff_ne]; exact hk0
                go_wp2_with fail
                go_meet
                exact ⟨by simp, only_refl _ _⟩
          case rest =>
            obtain ⟨rfl, hgA⟩ := hcut
            generalize wc = WA at *
            have HLKA := Lib.hid (HLK9.out.kept hgA)
            have HGA := Lib.hid (only_trans HG9.out hgA)
            clear hgA HLK9 HG9
            go_upto_block 2 with fail
            go_cut [] from 198 to 267 (fun wx => WA.grownBy wx none)
            case first =>
              as_aux_lemma =>
                go_wp2_with fail
                go_loopw [17] (fun i wy => ∃ j : Nat, j ≤ nx ∧ i = .int .i64 (j : Int) ∧ WA.grownBy wy none) (fun i _ => nx - (intOf i).toNat)
                case atStart => exact ⟨0, Nat.zero_le _, rfl, only_refl _ _⟩
                case round =>
                  obtain ⟨j, hj, rfl, hgj⟩ := hrel
                  have HLKJ := Lib.hid (HLKA.out.kept hgj)
                  have HGJ := Lib.hid hgj
                  clear hgj
                  generalize wr = Wj at *
                  by_cases hjl : j < nx
                  · have hj0 : (0 : Int) ≤ (j : Int) := by omega
                    have hj1 : (j : Int) < (nx : Int) := by omega
                    obtain ⟨e, he⟩ : ∃ e, x.next[j]? = some e := ⟨_, List.getElem?_eq_getElem (by rw [HNXL.out]; exact hjl)⟩
                    obtain ⟨a, r, p, ka, hka, hca, hkda, hna, hty⟩ := HNX.out j e he
                    obtain ⟨he0, he1, he2, he3⟩ := HED.out e (List.mem_append_left _ (List.mem_of_getElem? he))
                    obtain ⟨ea, es⟩ := e
                    have HNA := Lib.hid hna
                    have HTA2 := Lib.hid hty
                    have hal : (a : Int) < (n2 : Int) := by have := (List.getElem?_eq_some_iff.1 hca).1; rw [HN2.out] at this; omega
                    obtain ⟨bx, ox, hbx, x0, x1⟩ := edges_cell HLKJ.out.ex he
                    obtain ⟨bk, ok, hbk, z0, z1⟩ := edges_cell HLKJ.out.ek hka
                    obtain ⟨bd, od, hbd, w0, w1⟩ := edges_cell HLKJ.out.ed hkda
                    obtain ⟨va, _, _, a1, _⟩ := HLKJ.out.cls a ka hca
                    subst hbx hbk hbd
                    dsimp only at x0 x1 z0 z1 w0 w1 he0 he1 he2 he3
                    have HX0 := Lib.hid (show Wj.cell? _ = _ ∧ Wj.cell? _ = _ ∧ Wj.cell? _ = _ ∧ Wj.cell? _ = _ ∧ Wj.cell? _ = _ ∧ Wj.cell? _ = _ from ⟨x0, x1, z1, w0, w1, a1⟩)
                    have b0 := HLKJ.out.bt.cell 0
                    have b1 := HLKJ.out.bt.cell 1
                    have b2 := HLKJ.out.bt.cell 2
                    have m5 := HLKJ.out.bn.cell 5
                    clear he hna hty hka hkda hca x0 x1 z0 z1 w0 w1 a1
                    go_upto_region 30 with (first | (go_at_call 15; go_must (refine (HNC.out (clsT zs) _ (cc : Int) pr (j : Int) _ HWF.out HLKJ.out.tab (by omega) (by omega) (by omega) (by omega)).mono ?_; rw [HNA.out]; rintro en Wk ⟨rfl, hgk⟩; have HGK := Lib.hid hgk; clear hgk b0 b1 b2 m5)) | fail)
                    have HLKK := Lib.hid (HLKJ.out.kept HGK.out)
                    have s : Wk.grownBy Wk.drew none := only_drew (only_refl _ _)
                    have b0 := HLKK.out.bt.cell 0
                    have b1 := HLKK.out.bt.cell 1
                    have b2 := HLKK.out.bt.cell 2
                    have m5 := HLKK.out.bn.cell 5
                    have y1 := HLKK.out.by_.cell 1
                    have x0 := Keeps.grown HGK.out _ _ HX0.out.1
                    have x1 := Keeps.grown HGK.out _ _ HX0.out.2.1
                    have hw3 : IntKind.i64.wrap (o + es) = o + es := IntWalk.i64_in _ (by omega)
                    go_cut [20, 21] from 213 to 233 (fun u v wx => u = .int .i64 (a : Int) ∧ v = .int .i64 p ∧ Wk.grownBy wx none)
                    case first =>
                      as_aux_lemma =>
                        go_region_held3 (fun w' => w'.cell? ⟨Bt, 0, none⟩ = some (.slice (some ⟨bc, oc, none⟩) n2 c2) ∧ w'.cell? ⟨Bt, 1, none⟩ = some (.slice (some ⟨bo, oo, none⟩) ll c3) ∧ w'.cell? ⟨Bt, 2, none⟩ = some (.slice A4 ll c4) ∧ w'.cell? ⟨Bn, 5, none⟩ = some (.slice (some ⟨bx, ox, none⟩) nx cx) ∧ w'.cell? ⟨By, 1, none⟩ = some (.int .i64 o) ∧ w'.cell? ⟨bx, ox + j * 2, none⟩ = some (.int .i64 ea) ∧ w'.cell? ⟨bx, ox + j * 2 + 1, none⟩ = some (.int .i64 es)) (exact ⟨Keeps.grown s _ _ b0, Keeps.grown s _ _ b1, Keeps.grown s _ _ b2, Keeps.grown s _ _ m5, Keeps.grown s _ _ y1, Keeps.grown s _ _ x0, Keeps.grown s _ _ x1⟩) ((go_at_call 13; ((refine (HTC.out (clsT zs) _ (ea, o + es) _ HWF.out (HLKK.out.tab.keep (.grown s)) (by omega) (by omega)).mono ?_); rw [HTA2.out]; rintro e W8 ⟨rfl, hs⟩); replace s := only_trans s hs; clear hs))
                        all_goals go_wp2_with fail
                        all_goals go_meet
                        all_goals exact ⟨rfl, rfl, s⟩
                    case rest =>
                      obtain ⟨rfl, rfl, hgl⟩ := hcut
                      generalize wc = Wl at *
                      clear s b0 b1 b2 m5 y1 x0 x1 hw3
                      have HLKL := Lib.hid (HLKK.out.kept hgl)
                      have HGL := Lib.hid (only_trans HGJ.out (only_trans HGK.out hgl))
                      have gl := Keeps.grown (only_trans HGK.out hgl)
                      have z1 := gl _ _ HX0.out.2.2.1
                      have w0 := gl _ _ HX0.out.2.2.2.1
                      have w1 := gl _ _ HX0.out.2.2.2.2.1
                      have a1 := gl _ _ HX0.out.2.2.2.2.2
                      have b0 := HLKL.out.bt.cell 0
                      have j1 := HLKL.out.bk.cell 1
                      have j5 := HLKL.out.bk.cell 5
                      have d5 := HLKL.out.d5
                      have hd0 : (0 : Int) ≤ (d : Int) := by omega
                      have ha0 : (0 : Int) ≤ (a : Int) := by omega
                      clear gl hgl HLKJ HLKK HX0 HGJ HGK
                      go_upto_region 31 with fail
                      go_cut [267] from 234 to 267 (fun u wx => u = .bool false ∧ Wl.grownBy wx none)
                      case first =>
                        as_aux_lemma =>
                          go_quiet (fail)
                          all_goals go_wp2_with fail
                          all_goals go_meet
                          all_goals exact ⟨by simp, only_drewN_C (only_refl _ _) _⟩
                      case rest =>
                        obtain ⟨rfl, hgm⟩ := hcut
                        have HGM := Lib.hid (only_trans HGL.out hgm)
                        clear hgm
                        go_wp2_with fail
                        go_roundw
                        case rel => exact ⟨j + 1, by omega, by go_num, HGM.out⟩
                        case measure => simp [intOf]; omega
                  · have hj1 : (nx : Int) ≤ (j : Int) := by omega
                    have m5 := HLKJ.out.bn.cell 5
                    go_wp2_with fail
                    go_meet
                    exact HGJ.out
            case rest =>
              have hgB := hcut
              generalize wc = WB at *
              have HLKB := Lib.hid (HLKA.out.kept hgB)
              have HGB := Lib.hid (only_trans HGA.out hgB)
              clear hgB hcut HLKA HGA
              cases hch : x.chan with
              | false =>
                as_aux_lemma =>
                  have m2 := HLKB.out.bn.cell 2
                  rw [hch] at m2
                  go_wp2_with fail
                  go_roundw
                  case rel => exact ⟨q + 1, by omega, by go_num, by rw [HS.out], only_trans HGQ.out HGB.out⟩
                  case measure => simp [intOf]; omega
              | true =>
                as_aux_lemma =>
                  have m2 := HLKB.out.bn.cell 2
                  rw [hch] at m2
                  obtain ⟨hpe, hpy⟩ := HPY.out hch
                  obtain ⟨⟨pa, pp⟩, hpa⟩ : ∃ z, payA (clsT zs) (cc : Int) pr = z := ⟨_, rfl⟩
                  have HPA := Lib.hid hpa
                  have HPB : Hid (typeA (clsT zs) (x.pay.1, o + x.pay.2) = (pa, pp)) := Lib.hid (by rw [← hpy, hpa])
                  obtain ⟨he0, he1, he2, he3⟩ := HED.out x.pay (by unfold allE; rw [hch]; simp)
                  have b0 := HLKB.out.bt.cell 0
                  have b1 := HLKB.out.bt.cell 1
                  have b2 := HLKB.out.bt.cell 2
                  have HPE := Lib.hid hpe
                  clear hpe hpy hpa
                  go_upto_region 36 with (first
                    | (go_at_call 17; go_must (refine (HPC.out (clsT zs) _ (cc : Int) pr _ HWF.out HLKB.out.tab (by omega) (by omega)).mono ?_; rw [HPA.out]; rintro en WC ⟨rfl, hgk⟩; have HLKC := Lib.hid (HLKB.out.kept hgk); have HGC := Lib.hid (only_trans HGB.out hgk); clear hgk b0 b1 b2 m2; have b0 := HLKC.out.bt.cell 0; have b1 := HLKC.out.bt.cell 1; have b2 := HLKC.out.bt.cell 2; have m3 := HLKC.out.bn.cell 3; have m4 := HLKC.out.bn.cell 4; have y1 := HLKC.out.by_.cell 1))
                    | (go_at_call 13; go_must (refine (HTC.out (clsT zs) _ (x.pay.1, o + x.pay.2) _ HWF.out HLKC.out.tab (by omega) (by omega)).mono ?_; rw [HPB.out]; rintro en WD ⟨rfl, hgk⟩; have HLKD := Lib.hid (HLKC.out.kept hgk); have HGD := Lib.hid (only_trans HGC.out hgk); clear hgk b0 b1 b2 m3 m4 y1))
                    | fail)
                  go_cut [311] from 292 to 311 (fun u wx => u = .bool false ∧ WD.grownBy wx none)
                  case first =>
                    as_aux_lemma =>
                      have b0 := HLKD.out.bt.cell 0
                      have j1 := HLKD.out.bk.cell 1
                      have j3 := HLKD.out.bk.cell 3
                      have j4 := HLKD.out.bk.cell 4
                      have d3 := HLKD.out.d3
                      have d4 := HLKD.out.d4
                      rw [HPE.out] at d3 d4
                      have hd0 : (0 : Int) ≤ (d : Int) := by omega
                      go_quiet (fail)
                      all_goals go_wp2_with fail
                      all_goals go_meet
                      all_goals exact ⟨by simp, only_drewN_C (only_refl _ _) _⟩
                  case rest =>
                    obtain ⟨rfl, hgm⟩ := hcut
                    have HGM := Lib.hid (only_trans HGQ.out (only_trans HGD.out hgm))
                    clear hgm
                    go_wp2_with fail
                    go_roundw
                    case rel => exact ⟨q + 1, by omega, by go_num, by rw [HS.out], HGM.out⟩
                    case measure => simp [intOf]; omega
      · obtain rfl : q = ll := by omega
        have HSN : Hid ((seenN (numL (twoL zs)).2 q : Nat) = n2) := Lib.hid (by
          have h := seen_all (tw_two HOK.out)
          rw [HLE.out] at h
          rw [h, ← HN2.out, clsT_ok HOE.out]
          dsimp only
          rw [List.length_map])
        have t0' := Keeps.grown HGQ.out _ _ t0
        rw [HSN.out]
        go_wp2_with fail
        go_ret
        exact ⟨by simp, only_trans HG5.out HGQ.out⟩
end Go.Proofs.Ytepjkoegbehojaa

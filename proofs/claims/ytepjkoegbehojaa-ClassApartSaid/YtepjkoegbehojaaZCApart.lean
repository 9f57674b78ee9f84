/- ClassApart: the walk, from the contracts. -/
import Derived.Test.YtepjkoegbehojaaZCTables
import Derived.Test.YtepjkoegbehojaaZCApr
import Derived.Test.YtepjkoegbehojaaZMgBQ
import Derived.Test.YtepjkoegbehojaaZMgAS
import Derived.Deep.QuietTactic
import Derived.BigQuiet
namespace Go.Proofs.Ytepjkoegbehojaa
open Go.RowKit Go.Shelf

/-- A node with no more than two edges. -/
def cut2 (x : Nd) : Nd := { x with next := x.next.take 2 }
def ownL (xs : List Nd) : List Nd := (xs.take 5).map cut2
theorem ownL_len (xs : List Nd) : (ownL xs).length ≤ 5 := by unfold ownL; rw [List.length_map, List.length_take]; omega
/-- What stands in the loop. -/
def FA (w : World) (xs : List Nd) (k : Nat) (v : Value) (wr : World) : Prop := ∃ ns, ns.length = k ∧ ns.map (·.1) = (xs.take k).map cut2 ∧ OT w.heap.size wr v ns ∧ w.grownBy wr none
theorem fa_next {w wr wc W' : World} {xs : List Nd} {k : Nat} {v v' : Value} {ns : List (Nd × Value)} {x : Nd} {e : Value} {o : Obj} (hx : xs[k]? = some x) (hns : ns.length = k) (hm : ns.map (·.1) = (xs.take k).map cut2) (hot : OT w.heap.size wr v ns) (hg : w.grownBy wr none) (hc : wr.grownBy wc none)
    (hot' : OT w.heap.size W' v' (ns ++ [(cut2 x, e)])) (hgr : (wc.alloc o).grownBy W' v.ownBlock) : FA w xs (k + 1) v' W' :=
  ⟨_, by simp [hns], by rw [List.map_append, hm, take_len hx, List.map_append]; rfl, hot', grown_own (only_alloc (only_trans hg hc) o) (fun g e => (own_row hot.row g e).1) hgr⟩
theorem apart_any {xs : List Nd} (hk : OKT xs) (h32 : xs.length ≤ 32) (ho : (orderL xs).2 = 0) : ∀ (k : Nat), k ≤ 9 → ∀ (a b : Nat) (v : Value) (w : World), a < (twoL xs).length → b < (twoL xs).length → Tbl w v (twoL xs) →
    Calls Try.prog 20 #[v, .int .i64 (a : Int), .int .i64 (b : Int), .int .i64 (k : Int)] w fun e w' => e = .returned (.bool (aptK (hdL (twoL xs)) (scL (twoL xs)) (k + 1) (rootL (twoL xs) a) (rootL (twoL xs) b))) ∧ w.grownBy w' none := by
  have hL := tw_two hk
  have hl : (twoL xs).length ≤ 64 := by rw [twoL_len]; omega
  have HJ : ∀ (a : Nat) (x : Nd) (e : Ed), (twoL xs)[a]? = some x → x.kind ≠ 5 → e ∈ allE x → jumpA (twoL xs) (a : Int) e = ((placeL (twoL xs) x e).2, decide (0 < (placeL (twoL xs) x e).2)) := fun a x e hx h5 he => jump_two hk h32 ho hx h5 he
  intro k
  induction k with
  | zero => exact fun h9 a b v w ha hb hT => apart_step hL hl HJ 0 _ rfl h9 (fun h => absurd h (Nat.lt_irrefl 0)) a b v w ha hb hT
  | succ k ih =>
    intro h9 a b v w ha hb hT
    refine apart_step hL hl HJ (k + 1) _ rfl h9 (fun _ a b v w ha hb hT => ?_) a b v w ha hb hT
    rw [show (((k + 1 : Nat) : Int) - 1) = (k : Int) by omega]
    exact ih (by omega) a b v w ha hb hT

set_option maxRecDepth 100000 in
set_option maxHeartbeats 4000000 in
theorem capart_of (hC : OfC) (xs : List Nd) (A : Option Addr) (c : Nat) (na nb : Int) (ha0 : 0 ≤ na) (ha1 : na ≤ 255) (hb0 : 0 ≤ nb) (hb1 : nb ≤ 255) (w : World) (hT : TblC w (.slice A xs.length c) xs) :
    Calls Try.prog 5 #[.slice A xs.length c, .int .u8 na, .int .u8 nb] w fun e w' => e = .returned (.bool true) ∧ w.grownBy w' none := by
  have HC := Lib.hid hC
  have HT := Lib.hid hT
  clear hC hT
  go_enter Try.func5, Try.ntmps5
  go_upto_region 4 with (first | (go_at_call 12; go_must (refine (cworks_of HC.out _).mono ?_; rintro en W0 ⟨rfl, hg0⟩; have HG0 := Lib.hid hg0; clear hg0)) | fail)
  have HT0 := Lib.hid (HT.out.keep (.grown HG0.out))
  have H0 : Hid (FA W0 xs 0 (.slice none 0 0) W0) := ⟨[], rfl, rfl, OT.start _ _, only_refl _ _⟩
  clear HT
  go_upto_block 0 with fail
  go_cut [7] from 8 to 47 (fun v wx => (∃ ns, OT W0.heap.size wx v ns ∧ ns.map (·.1) = ownL xs) ∧ W0.grownBy wx none)
  case rest =>
    obtain ⟨⟨ns, hot, hns⟩, hgc⟩ := hcut
    generalize wc = W1 at *
    have htb := hot.tbl
    rw [hns] at htb
    obtain ⟨zs, hzs⟩ : ∃ zs, ownL xs = zs := ⟨_, rfl⟩
    have hzl : zs.length ≤ 5 := by rw [← hzs]; exact ownL_len xs
    rw [hzs] at htb
    have HT1 := Lib.hid htb
    have HZL := Lib.hid hzl
    have HG1 := Lib.hid (only_trans HG0.out hgc)
    obtain ⟨oe, hoe⟩ : ∃ oe, (orderL zs).2 = oe := ⟨_, rfl⟩
    have HOE := Lib.hid hoe
    obtain ⟨A1, c1, rfl, _⟩ := htb
    clear hot hns hgc hzs hzl HT0 H0 HG0 hoe
    go_upto_region 11 with (first
      | (go_at_call 9; go_must (refine (HC.out zs _ _ HT1.out (by have := HZL.out; omega)).mono ?_; rw [HOE.out]; rintro en W2 ⟨⟨tv, rfl, ht⟩, hg2⟩; have HTV := Lib.hid ht; have HG2 := Lib.hid (only_trans HG1.out hg2); have HT2 := Lib.hid (HT1.out.keep (.grown hg2)); obtain ⟨A2, c2, A3, c3, A4, c4, rfl⟩ := tab_shape ht; clear ht hg2))
      | fail)
    have HBL := Lib.hid (Blk.new W2 27 #[.slice A2 (clsT zs).cls.length c2, .slice A3 (clsT zs).of_.length c3, .slice A4 (clsT zs).prio.length c4])
    have HG3 := Lib.hid (only_alloc HG2.out (.cells #[.slice A2 (clsT zs).cls.length c2, .slice A3 (clsT zs).of_.length c3, .slice A4 (clsT zs).prio.length c4] 27))
    have HTV3 := Lib.hid (HTV.out.keep (.grown (only_alloc (only_refl W2 none) (.cells #[.slice A2 (clsT zs).cls.length c2, .slice A3 (clsT zs).of_.length c3, .slice A4 (clsT zs).prio.length c4] 27))))
    have HT3 := Lib.hid (HT2.out.keep (.grown (only_alloc (only_refl W2 none) (.cells #[.slice A2 (clsT zs).cls.length c2, .slice A3 (clsT zs).of_.length c3, .slice A4 (clsT zs).prio.length c4] 27))))
    revert HBL HG3 HTV3 HT3
    generalize W2.alloc _ = W3
    generalize W2.heap.size = Bt
    intro HBL HG3 HTV3 HT3
    clear HTV HT2 HG2 HG1 HT1
    have t0 := HBL.out.cell 0
    have t1 := HBL.out.cell 1
    by_cases h0 : oe = 0
    case neg =>
      have hne : (oe != 0) = true := by simp [h0]
      have hE : clsT zs = ⟨[], [], []⟩ := by unfold clsT; rw [if_neg (by rw [HOE.out]; exact h0)]
      rw [hE] at t0 t1 ⊢
      have s0 : W3.cell? ⟨Bt, 0, none⟩ = some (.slice A2 0 c2) := t0
      have s1 : W3.cell? ⟨Bt, 1, none⟩ = some (.slice A3 0 c3) := t1
      clear t0 t1 h0 hE
      go_wp2_with fail
      go_ret
      exact ⟨rfl, HG3.out⟩
    case pos =>
      subst h0
      have hor := ord_of HOE.out
      have HOK := Lib.hid hor.ok
      have hl2 : (clsT zs).of_.length = 2 * zs.length := by
        unfold clsT
        rw [if_pos HOE.out]
        dsimp only
        rw [List.length_map, num_len (tw_two hor.ok), twoL_len]
      have hz0 := hor.ok.pos
      have hz1 : ((zs.length : Nat) : Int) ≠ 0 := by omega
      have hz2 : ((zs.length : Int) == 0) = false := by rw [beq_eq_false_iff_ne]; omega
      have HTB : Hid (tableL zs = twoL zs) := Lib.hid (tableL_ok (by rw [hor.ok.check]))
      clear hor
      go_wp2_with (first | (go_at_call 19; go_must (refine (dtable_con zs _ _ HT3.out (by have := HZL.out; omega)).mono ?_; rintro en W4 ⟨⟨u, ms, rfl, hom, hms⟩, hg4⟩; rw [HTB.out] at hms; have HM := Lib.hid hom; have HMS := Lib.hid hms; have HG4 := Lib.hid hg4; clear hom hms hg4)) | fail)
      have htw := HM.out.tbl
      rw [HMS.out] at htw
      have HTW := Lib.hid htw
      obtain ⟨A5, c5, rfl, _⟩ := htw
      have HLL : Hid ((twoL zs).length = 2 * zs.length) := Lib.hid (twoL_len zs)
      obtain ⟨ll, hll⟩ : ∃ ll, (twoL zs).length = ll := ⟨_, rfl⟩
      have hl0 : (0 : Int) < (ll : Int) := by have := HLL.out; omega
      have hl1 : (ll : Int) ≤ 10 := by have := HLL.out; have := HZL.out; omega
      have hln : ((ll : Int) == 0) = false := by rw [beq_eq_false_iff_ne]; omega
      have HLE := Lib.hid hll
      rw [hll]
      rw [hl2, ← HLL.out, hll] at t1
      obtain ⟨X, hX, hXl⟩ : ∃ X : Nat, na % (ll : Int) = (X : Int) ∧ X < ll := ⟨(na % (ll : Int)).toNat, by have := Int.emod_nonneg na (show (ll : Int) ≠ 0 by omega); omega, by have := Int.emod_nonneg na (show (ll : Int) ≠ 0 by omega); have := Int.emod_lt_of_pos na hl0; omega⟩
      obtain ⟨Y, hY, hYl⟩ : ∃ Y : Nat, nb % (ll : Int) = (Y : Int) ∧ Y < ll := ⟨(nb % (ll : Int)).toNat, by have := Int.emod_nonneg nb (show (ll : Int) ≠ 0 by omega); omega, by have := Int.emod_nonneg nb (show (ll : Int) ≠ 0 by omega); have := Int.emod_lt_of_pos nb hl0; omega⟩
      clear hll hl2 hz0 hz1 hz2
      go_upto_region 14 with fail
      go_cut [13, 14] from 67 to 76 (fun u v wx => u = .int .i64 (X : Int) ∧ v = .int .i64 (Y : Int) ∧ W4.grownBy wx none)
      case first =>
        go_quiet (fail)
        all_goals go_wp2_with fail
        all_goals go_meet
        all_goals exact ⟨by rw [hX], by rw [hY], only_drewN_C (only_refl _ _) _⟩
      case rest =>
        obtain ⟨rfl, rfl, hg5⟩ := hcut
        generalize wc = W5 at *
        have HG5 := Lib.hid (only_trans HG4.out hg5)
        have HTW5 := Lib.hid (HTW.out.keep (.grown hg5))
        have s1 := Keeps.grown HG5.out _ _ t1
        obtain ⟨_, hof, _⟩ := tab_parts (HTV3.out.keep (.grown HG5.out))
        have hofl : (clsT zs).of_ = (numL (twoL zs)).2.map Int.ofNat := by unfold clsT; rw [if_pos HOE.out]
        have hnl : (numL (twoL zs)).2.length = ll := by rw [num_len (tw_two HOK.out), HLE.out]
        obtain ⟨cx, hcx⟩ : ∃ cx, (numL (twoL zs)).2[X]? = some cx := ⟨_, List.getElem?_eq_getElem (by omega)⟩
        obtain ⟨cy, hcy⟩ : ∃ cy, (numL (twoL zs)).2[Y]? = some cy := ⟨_, List.getElem?_eq_getElem (by omega)⟩
        have HAP := Lib.hid (apart_two (tw_two HOK.out) (by rw [HLE.out]; omega) hcx hcy)
        have ho1 : (clsT zs).of_[X]? = some ((cx : Nat) : Int) := by rw [hofl, List.getElem?_map, hcx]; rfl
        have ho2 : (clsT zs).of_[Y]? = some ((cy : Nat) : Int) := by rw [hofl, List.getElem?_map, hcy]; rfl
        obtain ⟨A6, c6, hA6, _, hcl6⟩ := hof
        obtain ⟨b3, o3, hb3, hce3⟩ := hcl6 (by intro e; rw [e] at ho1; simp at ho1)
        simp only [Value.slice.injEq] at hA6
        obtain ⟨rfl, _, rfl⟩ := hA6
        subst hb3
        have z0 := hce3 X _ ho1
        have z1 := hce3 Y _ ho2
        have HCA : Hid (∀ W, W5.grownBy W none → Calls Try.prog 20 #[.slice A5 ll c5, .int .i64 (X : Int), .int .i64 (Y : Int), .int .i64 9] W fun en w' => en = .returned (.bool (!decide (cx = cy))) ∧ W.grownBy w' none) := Lib.hid fun W hg => by
          have h := apart_any HOK.out (by have := HZL.out; omega) HOE.out 9 (Nat.le_refl _) X Y _ W (by rw [HLE.out]; exact hXl) (by rw [HLE.out]; exact hYl) (HTW5.out.keep (.grown hg))
          rw [HAP.out, HLE.out] at h
          exact h
        clear hofl hnl hcx hcy ho1 ho2 hcl6 hce3 HTW HTW5 HAP hX hY hg5 HM t1 t0
        have s2 : W5.cell? ⟨Bt, 1, none⟩ = some (.slice (some ⟨b3, o3, none⟩) ll c3) := s1
        clear s1
        have hres : ((!decide (cx = cy)) == (((cx : Nat) : Int) != ((cy : Nat) : Int))) = true := by
          by_cases h : cx = cy
          · subst h; simp
          · have h2 : ((cx : Nat) : Int) ≠ ((cy : Nat) : Int) := by omega
            rw [decide_eq_false h, bne_iff_ne.2 h2]; rfl
        go_upto_region 17 with fail
        go_cut [6] from 83 to 98 (fun u wx => u = .bool true ∧ W5.grownBy wx none)
        case first =>
          refine region_guards (by kernel_rfl)
            [(10, .pointer (some ⟨Bt, 0, none⟩)), (12, .slice A5 ll c5), (13, .int .i64 (X : Int)), (14, .int .i64 (Y : Int)), (83, .slice A5 ll c5), (84, .int .i64 (X : Int)), (85, .int .i64 (Y : Int)), (86, .bool (!decide (cx = cy))), (87, .pointer (some ⟨Bt, 1, none⟩)), (88, .slice (some ⟨b3, o3, none⟩) ll c3), (89, .int .i64 (X : Int)), (90, .pointer (some ⟨b3, o3 + X, none⟩)), (91, .int .i64 ((cx : Nat) : Int)),
             (92, .pointer (some ⟨Bt, 1, none⟩)), (93, .slice (some ⟨b3, o3, none⟩) ll c3), (94, .int .i64 (Y : Int)), (95, .pointer (some ⟨b3, o3 + Y, none⟩)), (96, .int .i64 ((cy : Nat) : Int)), (97, .bool (((cx : Nat) : Int) != ((cy : Nat) : Int))), (98, .bool true), (6, .bool true)]
            (by kernel_rfl) [83, 84, 85, 86, 87, 88, 89, 90, 91, 92, 93, 94, 95, 96, 97, 98, 6] (by kernel_rfl) (by kernel_rfl) (by decide) ?h0 ?hops ?hQ
          case h0 =>
            intro p hp hn
            simp only [List.mem_cons, List.not_mem_nil, or_false] at hp
            rcases hp with rfl | rfl | rfl | rfl | rfl | rfl | rfl | rfl | rfl | rfl | rfl | rfl | rfl | rfl | rfl | rfl | rfl | rfl | rfl | rfl | rfl
            all_goals first | rfl | exact absurd (by dsimp only; decide) hn
          case hops =>
            exact ⟨og rfl rfl (ov_move rfl rfl), og rfl rfl (ov_move rfl rfl), og rfl rfl (ov_move rfl rfl), og rfl rfl (ov_call3c rfl rfl rfl rfl (fun W => by kernel_rfl) HCA.out), og rfl rfl (ov_table1 rfl rfl), og rfl rfl (ov_load_ints rfl rfl s2), og rfl rfl (ov_move rfl rfl), og rfl rfl (ov_index_int rfl rfl rfl hXl), og rfl rfl (ov_load_int rfl rfl z0),
              og rfl rfl (ov_table1 rfl rfl), og rfl rfl (ov_load_ints rfl rfl s2), og rfl rfl (ov_move rfl rfl), og rfl rfl (ov_index_int rfl rfl rfl hYl), og rfl rfl (ov_load_int rfl rfl z1), og rfl rfl (ov_neq_int rfl rfl rfl rfl), og rfl rfl (ov_eql_bool rfl rfl rfl hres), og rfl rfl (ov_assign rfl rfl), trivial⟩
          case hQ =>
            intro vs W hg hv
            have HV := Lib.hid (hv 6 _ rfl (by decide))
            clear hv
            simp only [List.foldl_cons, List.foldl_nil, List.setIfInBounds_toArray, List.set_cons_zero, List.set_cons_succ]
            go_wp2_with fail
            go_meet
            exact ⟨HV.out, hg⟩
        case rest =>
          obtain ⟨rfl, hg6⟩ := hcut
          have HG6 := Lib.hid (only_trans HG3.out (only_trans HG5.out hg6))
          clear hg6
          go_wp2_with fail
          go_ret
          exact ⟨rfl, HG6.out⟩
  go_wp2_with fail
  go_loopw [7, 8] (fun v i wr => ∃ k : Nat, k ≤ xs.length ∧ k ≤ 5 ∧ i = .int .i64 (k : Int) ∧ FA W0 xs k v wr) (fun _ i _ => 5 - (intOf i).toNat)
  case atStart => exact ⟨0, Nat.zero_le _, by omega, rfl, H0.out⟩
  case round =>
    clear H0
    obtain ⟨k, hk, hk5, rfl, ns, hns, hm, hot, hg⟩ := hrel
    have HO := Lib.hid hot
    have HG := Lib.hid hg
    have HNS := Lib.hid hns
    have HM := Lib.hid hm
    clear hot hg hns hm
    by_cases hlt : k < xs.length
    · by_cases h5 : k < 5
      · have hk0 : (0 : Int) ≤ (k : Int) := by omega
        have hk1 : (k : Int) < (xs.length : Int) := by omega
        have hk2 : (k : Int) < 5 := by omega
        obtain ⟨x, hx⟩ : ∃ x, xs[k]? = some x := ⟨_, List.getElem?_eq_getElem hlt⟩
        have HX := Lib.hid hx
        obtain ⟨A', c', hA, hcl⟩ := HT0.out
        obtain ⟨bb, off, hAb, hcl2⟩ := hcl (by intro e0; rw [e0] at hlt; simp at hlt)
        obtain ⟨⟨v', hE, m0, m1, m2, m3, m4, m5⟩, hcap⟩ := hcl2 k x hx
        obtain ⟨rfl, rfl⟩ : A = A' ∧ c = c' := by simpa using hA
        subst hAb
        clear hA hcl hcl2 hx
        obtain ⟨kind, prio, chan, ⟨pa, ps⟩, next⟩ := x
        dsimp only at m0 m1 m2 m3 m4 m5 hE
        have hE3 := hE
        obtain ⟨A2, c2, rfl, hl3, _⟩ := hE3
        have hc2 := hcap _ _ _ m5
        have n0 := Keeps.grown HG.out _ _ m0
        have n1 := Keeps.grown HG.out _ _ m1
        have n2 := Keeps.grown HG.out _ _ m2
        have n3 := Keeps.grown HG.out _ _ m3
        have n4 := Keeps.grown HG.out _ _ m4
        have n5 := Keeps.grown HG.out _ _ m5
        have HN1 : Hid (ns.length ≤ 1000) := show _ ≤ _ by have := HNS.out; omega
        have HB1 : Hid (W0.heap.size ≤ wr.heap.size) := HG.out.size
        have hlI : (next.length : Int) ≤ 9223372036854775807 := by omega
        by_cases h9 : next.length ≤ 2
        · have h9' : (next.length : Int) ≤ 2 := by omega
          have HE : Hid (EdgesO W0.heap.size wr (.slice A2 next.length c2) (next.take 2)) := by
            rw [List.take_of_length_le h9]
            exact (hE.old (Nat.le_refl _)).kept HG.out
          clear hE m0 m1 m2 m3 m4 m5 hcap
          go_wp2_with (at_builtin; refine wpList_append_node (nd := ⟨kind, prio, chan, (pa, ps), next.take 2⟩) rfl _ _ rfl rfl rfl ((HO.out.kept (only_alloc (only_refl _ _) _)).kept (only_alloc (only_refl _ _) _)) (blk_at (by simp) _ _) ((HE.out.kept (only_alloc (only_refl _ _) _)).kept (only_alloc (only_refl _ _) _)) HN1.out (by have := HB1.out; simp; omega) ?_; intro v2 W2 hot2 hgr2; have HOT2 := Lib.hid hot2; have HGR2 := Lib.hid hgr2; clear hot2 hgr2)
          go_roundw
          case rel => exact ⟨k + 1, by omega, by omega, by go_num, fa_next HX.out HNS.out HM.out HO.out HG.out (only_alloc (only_refl _ _) _) HOT2.out HGR2.out⟩
          case measure => simp [intOf]; omega
        · have h9' : (2 : Int) < (next.length : Int) := by omega
          have HE : Hid (EdgesO W0.heap.size wr (.slice A2 2 c2) (next.take 2)) := ((hE.take (by omega)).old (Nat.le_refl _)).kept HG.out
          clear hE m0 m1 m2 m3 m4 m5 hcap
          go_wp2_with (at_builtin; refine wpList_append_node (nd := ⟨kind, prio, chan, (pa, ps), next.take 2⟩) rfl _ _ rfl rfl rfl ((HO.out.kept (only_alloc (only_refl _ _) _)).kept (only_alloc (only_refl _ _) _)) (blk_at (by simp) _ _) ((HE.out.kept (only_alloc (only_refl _ _) _)).kept (only_alloc (only_refl _ _) _)) HN1.out (by have := HB1.out; simp; omega) ?_; intro v2 W2 hot2 hgr2; have HOT2 := Lib.hid hot2; have HGR2 := Lib.hid hgr2; clear hot2 hgr2)
          go_roundw
          case rel => exact ⟨k + 1, by omega, by omega, by go_num, fa_next HX.out HNS.out HM.out HO.out HG.out (only_alloc (only_refl _ _) _) HOT2.out HGR2.out⟩
          case measure => simp [intOf]; omega
      · have hk2 : (5 : Int) ≤ (k : Int) := by omega
        have hk1 : (k : Int) < (xs.length : Int) := by omega
        have HF : Hid (xs.take k = xs.take 5) := show _ = _ by rw [show k = 5 by omega]
        go_wp2_with fail
        go_meet
        exact ⟨⟨ns, HO.out, by rw [HM.out, HF.out]; rfl⟩, HG.out⟩
    · have hge : (xs.length : Int) ≤ (k : Int) := by omega
      have HF : Hid (xs.take k = xs.take 5) := show _ = _ by rw [List.take_of_length_le (by omega), List.take_of_length_le (by omega)]
      go_wp2_with fail
      go_meet
      exact ⟨⟨ns, HO.out, by rw [HM.out, HF.out]; rfl⟩, HG.out⟩
end Go.Proofs.Ytepjkoegbehojaa

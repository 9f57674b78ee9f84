/- Texts joined for the claim's sake: MSam. -/
import Derived.Test.YtohhojbeclbedaaGreatDoorZMKnwRow25
import Derived.Deep.CutRange
import Derived.Deep.RegionHeld3
namespace Go.Proofs.YtohhojbeclbedaaGreatDoor
open Go.RowKit

/-- Both modules' boxes. -/
structure SM (w : World) (B C : Nat) (cs ds : Array Value) (W : World) : Prop where
  g : w.grownBy W none
  p : Blk W B 28 cs
  q : Blk W C 28 ds
theorem SM.kept {w W W' : World} {B C : Nat} {cs ds : Array Value} (h : SM w B C cs ds W) (hg : W.grownBy W' none) : SM w B C cs ds W' := ⟨only_trans h.g hg, h.p.kept hg, h.q.kept hg⟩

set_option maxRecDepth 100000 in
set_option maxHeartbeats 4000000 in
theorem msame_any {S1 S2 : Nat → Prop} (m m' : Mo) (A0 A1 A2 A3 A4 A5 A6 A7 D0 D1 D2 D3 D4 D5 D6 D7 : Option Addr) (n0 n1 n2 n3 n4 n5 n6 n7 k4 k5 k6 k7 q0 q1 q2 q3 q4 q5 q6 q7 r0 r1 r2 r3 r4 r5 r6 r7 : Nat) (w : World)
    (a0 : ListA NodE 6 S1 w (.slice A0 n0 q0) m.nodes) (a1 : ListA TplE 3 S1 w (.slice A1 n1 q1) m.tpls) (a2 : ListA EdgE 2 S1 w (.slice A2 n2 q2) m.chans) (a3 : ListA StaE 2 S1 w (.slice A3 n3 q3) m.starts)
    (b0 : ListA NodE 6 S2 w (.slice D0 n0 r0) m.nodes) (b1 : ListA TplE 3 S2 w (.slice D1 n1 r1) m'.tpls) (b2 : ListA EdgE 2 S2 w (.slice D2 n2 r2) m.chans) (b3 : ListA StaE 2 S2 w (.slice D3 n3 r3) m.starts)
    (hT : m'.tpls.map (fun t => (t.params, t.code)) = m.tpls.map (fun t => (t.params, t.code))) (hL : ∀ t ∈ m.tpls, ∀ x ∈ t.code, x.l.length ≤ 1000) :
    Calls Tryz.prog 15 #[.agg #[.slice A0 n0 q0, .slice A1 n1 q1, .slice A2 n2 q2, .slice A3 n3 q3, .slice A4 n4 q4, .slice A5 n5 q5, .slice A6 n6 q6, .slice A7 n7 q7], .agg #[.slice D0 n0 r0, .slice D1 n1 r1, .slice D2 n2 r2, .slice D3 n3 r3, .slice D4 k4 r4, .slice D5 k5 r5, .slice D6 k6 r6, .slice D7 k7 r7]] w fun e w' => e = .returned (.bool true) ∧ w.grownBy w' none := by
  obtain ⟨cs, hcs⟩ : ∃ cs : Array Value, #[.slice A0 n0 q0, .slice A1 n1 q1, .slice A2 n2 q2, .slice A3 n3 q3, .slice A4 n4 q4, .slice A5 n5 q5, .slice A6 n6 q6, .slice A7 n7 q7] = cs := ⟨_, rfl⟩
  obtain ⟨ds, hds⟩ : ∃ ds : Array Value, #[.slice D0 n0 r0, .slice D1 n1 r1, .slice D2 n2 r2, .slice D3 n3 r3, .slice D4 k4 r4, .slice D5 k5 r5, .slice D6 k6 r6, .slice D7 k7 r7] = ds := ⟨_, rfl⟩
  rw [hcs, hds]
  have HA0 := Lib.hid a0
  have HB0 := Lib.hid b0
  have L0 : m.nodes.length = n0 ∧ n0 ≤ 9223372036854775807 := by
    obtain ⟨_, _, e, h, h'⟩ := a0.slice
    injection e with e1 e2 e3
    omega
  have HL0 := Lib.hid L0
  have I0 : (n0 : Int) ≤ 9223372036854775807 := by have := L0.2; omega
  have HA1 := Lib.hid a1
  have HB1 := Lib.hid b1
  have L1 : m.tpls.length = n1 ∧ m'.tpls.length = n1 ∧ n1 ≤ 9223372036854775807 := by
    obtain ⟨_, _, e, h, h'⟩ := a1.slice
    obtain ⟨_, _, e', -, -⟩ := b1.slice
    injection e with e1 e2 e3
    injection e' with e4 e5 e6
    omega
  have HL1 := Lib.hid L1
  have I1 : (n1 : Int) ≤ 9223372036854775807 := by have := L1.2.2; omega
  have HT := Lib.hid hT
  have HLL := Lib.hid hL
  have HA2 := Lib.hid a2
  have HB2 := Lib.hid b2
  have L2 : m.chans.length = n2 ∧ n2 ≤ 9223372036854775807 := by
    obtain ⟨_, _, e, h, h'⟩ := a2.slice
    injection e with e1 e2 e3
    omega
  have HL2 := Lib.hid L2
  have I2 : (n2 : Int) ≤ 9223372036854775807 := by have := L2.2; omega
  have HA3 := Lib.hid a3
  have HB3 := Lib.hid b3
  have L3 : m.starts.length = n3 ∧ n3 ≤ 9223372036854775807 := by
    obtain ⟨_, _, e, h, h'⟩ := a3.slice
    injection e with e1 e2 e3
    omega
  have HL3 := Lib.hid L3
  have I3 : (n3 : Int) ≤ 9223372036854775807 := by have := L3.2; omega
  have HC := Lib.hid (And.intro hcs hds)
  clear a0 b0 hcs hds L0 a1 b1 L1 hT hL a2 b2 L2 a3 b3 L3
  go_enter Tryz.func15, Tryz.ntmps15
  go_upto_region 1 with fail
  have HS : Hid (SM w w.heap.size (w.heap.size + 1) cs ds ((w.alloc (.cells cs 28)).alloc (.cells ds 28))) := Lib.hid ⟨only_alloc (only_alloc (only_refl _ _) _) _, (Blk.new _ _ _).alloc _, blk_new_at (by simp) _ _⟩
  generalize ((w.alloc (.cells cs 28)).alloc (.cells ds 28)) = w1 at *
  generalize w.heap.size + 1 = C at *
  generalize w.heap.size = B at *
  have HP : ∀ W, SM w B C cs ds W → (W.cell? ⟨B, 0, none⟩ = some (.slice A0 n0 q0) ∧ W.cell? ⟨C, 0, none⟩ = some (.slice D0 n0 r0)) ∧ (W.cell? ⟨B, 1, none⟩ = some (.slice A1 n1 q1) ∧ W.cell? ⟨C, 1, none⟩ = some (.slice D1 n1 r1)) ∧ (W.cell? ⟨B, 2, none⟩ = some (.slice A2 n2 q2) ∧ W.cell? ⟨C, 2, none⟩ = some (.slice D2 n2 r2)) ∧ (W.cell? ⟨B, 3, none⟩ = some (.slice A3 n3 q3) ∧ W.cell? ⟨C, 3, none⟩ = some (.slice D3 n3 r3)) := by
    intro W h
    have h1 := h.p.cell
    have h2 := h.q.cell
    rw [← HC.out.1] at h1
    rw [← HC.out.2] at h2
    exact ⟨⟨h1 0, h2 0⟩, ⟨h1 1, h2 1⟩, ⟨h1 2, h2 2⟩, ⟨h1 3, h2 3⟩⟩
  have HPH := Lib.hid HP
  clear HP HC
  obtain ⟨⟨p0, x0⟩, ⟨p1, x1⟩, ⟨p2, x2⟩, ⟨p3, x3⟩⟩ := HPH.out _ HS.out
  go_wp2_with fail
  clear p0 x0 p1 x1 p2 x2 p3 x3
  go_loopw [5] (fun z wr => ∃ i : Nat, i ≤ n0 ∧ z = .int .i64 (i : Int) ∧ SM w B C cs ds wr) (fun z _ => n0 - (intOf z).toNat)
  case atStart => exact ⟨0, Nat.zero_le _, rfl, HS.out⟩
  case round =>
    obtain ⟨i, hi, rfl, hS⟩ := hrel
    have HS2 := Lib.hid hS
    have hi0 : (0 : Int) ≤ (i : Int) := by omega
    obtain ⟨⟨p0, x0⟩, -⟩ := HPH.out _ hS
    clear hS HS
    by_cases hlt : i < n0
    · have hltI : (i : Int) < (n0 : Int) := by omega
      have HK := Lib.hid hlt
      obtain ⟨y, hy⟩ : ∃ y, m.nodes[i]? = some y := ⟨_, List.getElem?_eq_getElem (by rw [HL0.out.1]; exact hlt)⟩
      obtain ⟨ba, oa, ca, rfl, -, ⟨va, rfl, la⟩, ka⟩ := (HA0.out.kept nod_ok (KeptS.none_ HS2.out.g)).at_ hy
      obtain ⟨bb, ob, cb, rfl, -, ⟨vb, rfl, lb⟩, kb⟩ := (HB0.out.kept nod_ok (KeptS.none_ HS2.out.g)).at_ hy
      obtain ⟨ea, qa, rfl, ga, ga'⟩ := la.slice
      obtain ⟨eb, qb, rfl, gb, gb'⟩ := lb.slice
      have HLA := Lib.hid la
      have HLB := Lib.hid lb
      have HKA := Lib.hid ka
      have HKB := Lib.hid kb
      have hlI : (y.next.length : Int) ≤ 9223372036854775807 := by omega
      clear la lb ka kb hy hlt ga ga' gb gb'
      go_upto_region 6 with fail
      go_cut [6, 7] from 60 to 122 (fun p q W => ∃ Bx By, p = .pointer (some ⟨Bx, 0, none⟩) ∧ q = .pointer (some ⟨By, 0, none⟩) ∧ wr.grownBy W none ∧ Blk W Bx 65 #[.int .i64 y.kind, .int .i64 y.prio, .bool y.ch, .int .i64 y.pay.to, .int .i64 y.pay.sh, .slice ea y.next.length qa] ∧ Blk W By 65 #[.int .i64 y.kind, .int .i64 y.prio, .bool y.ch, .int .i64 y.pay.to, .int .i64 y.pay.sh, .slice eb y.next.length qb])
      case first =>
        refine region_two (by kernel_rfl) (by kernel_rfl) [60, 61, 62, 63, 64, 65, 66, 67, 68, 69, 6, 7] (by kernel_rfl) (by kernel_rfl) (by decide)
          [(2, .pointer (some ⟨B, 0, none⟩)), (3, .pointer (some ⟨C, 0, none⟩)), (5, .int .i64 (i : Int)), (60, .pointer (some ⟨B, 0, none⟩)), (61, .slice (some ⟨ba, oa, none⟩) n0 q0), (62, .int .i64 (i : Int)), (63, .pointer (some ⟨ba, oa + i * 6, none⟩)), (64, .agg #[.int .i64 y.kind, .int .i64 y.prio, .bool y.ch, .int .i64 y.pay.to, .int .i64 y.pay.sh, .slice ea y.next.length qa]), (65, .pointer (some ⟨C, 0, none⟩)), (66, .slice (some ⟨bb, ob, none⟩) n0 r0), (67, .int .i64 (i : Int)), (68, .pointer (some ⟨bb, ob + i * 6, none⟩)), (69, .agg #[.int .i64 y.kind, .int .i64 y.prio, .bool y.ch, .int .i64 y.pay.to, .int .i64 y.pay.sh, .slice eb y.next.length qb])]
          ⟨6, 65, #[.int .i64 0, .int .i64 0, .bool false, .int .i64 0, .int .i64 0, .slice none 0 0], #[.int .i64 y.kind, .int .i64 y.prio, .bool y.ch, .int .i64 y.pay.to, .int .i64 y.pay.sh, .slice ea y.next.length qa], 64, 10, 12⟩ ⟨7, 65, #[.int .i64 0, .int .i64 0, .bool false, .int .i64 0, .int .i64 0, .slice none 0 0], #[.int .i64 y.kind, .int .i64 y.prio, .bool y.ch, .int .i64 y.pay.to, .int .i64 y.pay.sh, .slice eb y.next.length qb], 69, 11, 13⟩
          ?h0 (boxed_mnode _ _ _ _) (boxed_mnode _ _ _ _) rfl rfl rfl rfl (by dsimp only; decide) (by kernel_rfl) (by kernel_rfl) (by kernel_rfl) (by kernel_rfl) ?hops ?hQ
        case h0 =>
          intro p hp hn
          simp only [List.mem_cons, List.not_mem_nil, or_false] at hp
          rcases hp with rfl | rfl | rfl | rfl | rfl | rfl | rfl | rfl | rfl | rfl | rfl | rfl | rfl
          all_goals first | rfl | exact absurd (by dsimp only; decide) hn
        case hops =>
          exact ⟨.val 60 _ rfl rfl rfl (ov_fm0 rfl rfl), .val 61 _ rfl rfl rfl (ov_lsNode rfl rfl p0), .val 62 _ rfl rfl rfl (ov_move rfl rfl), .val 63 _ rfl rfl rfl (ov_ixNode rfl rfl rfl HK.out), .val 64 _ rfl rfl rfl (ov_ldNode rfl rfl (HKA.out 0 _ rfl) (HKA.out 1 _ rfl) (HKA.out 2 _ rfl) (HKA.out 3 _ rfl) (HKA.out 4 _ rfl) (HKA.out 5 _ rfl)),
            .val 65 _ rfl rfl rfl (ov_fm0 rfl rfl), .val 66 _ rfl rfl rfl (ov_lsNode rfl rfl x0), .val 67 _ rfl rfl rfl (ov_move rfl rfl), .val 68 _ rfl rfl rfl (ov_ixNode rfl rfl rfl HK.out), .val 69 _ rfl rfl rfl (ov_ldNode rfl rfl (HKB.out 0 _ rfl) (HKB.out 1 _ rfl) (HKB.out 2 _ rfl) (HKB.out 3 _ rfl) (HKB.out 4 _ rfl) (HKB.out 5 _ rfl)), .al1 rfl rfl rfl, .al2 rfl rfl rfl, .st1 rfl rfl rfl, .st2 rfl rfl rfl, trivial⟩
        case hQ =>
          intro vs W Bm Bn hg e1' e2' hne h1 h2 k1 k2
          have HZ : Hid (∃ Bx By, vs 6 = .pointer (some ⟨Bx, 0, none⟩) ∧ vs 7 = .pointer (some ⟨By, 0, none⟩) ∧ wr.grownBy W none ∧ Blk W Bx 65 #[.int .i64 y.kind, .int .i64 y.prio, .bool y.ch, .int .i64 y.pay.to, .int .i64 y.pay.sh, .slice ea y.next.length qa] ∧ Blk W By 65 #[.int .i64 y.kind, .int .i64 y.prio, .bool y.ch, .int .i64 y.pay.to, .int .i64 y.pay.sh, .slice eb y.next.length qb]) := Lib.hid ⟨Bm, Bn, e1', e2', hg, k1, k2⟩
          clear hg e1' e2' hne h1 h2 k1 k2
          simp only [List.foldl_cons, List.foldl_nil, List.setIfInBounds_toArray, List.set_cons_zero, List.set_cons_succ]
          go_wp2_with fail
          go_meet
          exact HZ.out
      case rest =>
        obtain ⟨Bx, By, rfl, rfl, hg, k1, k2⟩ := hcut
        have HS3 := Lib.hid (HS2.out.kept hg)
        have HLA3 := Lib.hid (HLA.out.kept edg_ok (KeptS.none_ hg))
        have HLB3 := Lib.hid (HLB.out.kept edg_ok (KeptS.none_ hg))
        have K1 := Lib.hid k1
        have K2 := Lib.hid k2
        have s0 := k1.cell 0
        have s1 := k1.cell 1
        have s2 := k1.cell 2
        have s3 := k1.cell 3
        have s4 := k1.cell 4
        have s5 := k1.cell 5
        have t0 := k2.cell 0
        have t1 := k2.cell 1
        have t2 := k2.cell 2
        have t3 := k2.cell 3
        have t4 := k2.cell 4
        have t5 := k2.cell 5
        clear hg k1 k2 p0 x0 HLA HLB HKA HKB
        go_upto_region 9 with fail
        clear s0 s1 s2 s3 s5 t0 t1 t2 t3 t5 s4 t4
        go_wp2_with fail
        go_loopw [8] (fun z wx => ∃ k : Nat, k ≤ y.next.length ∧ z = .int .i64 (k : Int) ∧ wc.grownBy wx none) (fun z _ => y.next.length - (intOf z).toNat)
        case atStart => exact ⟨0, Nat.zero_le _, rfl, only_refl _ _⟩
        case round =>
          obtain ⟨k, hk, rfl, hg⟩ := hrel
          have hk0 : (0 : Int) ≤ (k : Int) := by omega
          have HG := Lib.hid hg
          have s4 := (K1.out.kept hg).cell 5
          by_cases hkm : k < y.next.length
          · have hkI : (k : Int) < (y.next.length : Int) := by omega
            have t4 := (K2.out.kept hg).cell 5
            obtain ⟨e, he⟩ : ∃ e, y.next[k]? = some e := ⟨_, List.getElem?_eq_getElem hkm⟩
            obtain ⟨b5, o5, c5, rfl, -, rfl, z5⟩ := (HLA3.out.kept edg_ok (KeptS.none_ hg)).at_ he
            obtain ⟨b6, o6, c6, rfl, -, rfl, z6⟩ := (HLB3.out.kept edg_ok (KeptS.none_ hg)).at_ he
            have z50 : wr.cell? ⟨b5, o5 + k * 2, none⟩ = some (.int .i64 e.to) := z5 0 _ rfl
            have z51 := z5 1 _ rfl
            have z60 : wr.cell? ⟨b6, o6 + k * 2, none⟩ = some (.int .i64 e.to) := z6 0 _ rfl
            have z61 := z6 1 _ rfl
            clear he hg z5 z6 hkm
            go_upto_region 12 with fail
            go_quiet (fail)
            have hgq : wr.grownBy (wr.drewN nq) none := only_drewN (only_refl _ _) _
            have HG2 := Lib.hid (only_trans HG.out hgq)
            clear hgq s4 t4 z50 z51 z60 z61
            go_wp2_with fail
            go_roundw
            case rel => exact ⟨k + 1, by omega, by go_num, HG2.out⟩
            case measure => simp [intOf]; omega
          · have hge : (y.next.length : Int) ≤ (k : Int) := by omega
            have HS4 := Lib.hid (HS3.out.kept hg)
            clear hg hkm
            go_wp2_with fail
            go_roundw
            case rel => exact ⟨i + 1, HK.out, by go_num, HS4.out⟩
            case measure => simp [intOf]; omega
    · have hge : (n0 : Int) ≤ (i : Int) := by omega
      clear hlt hi x0
      go_wp2_with fail
      clear hge
      generalize decide (i < n0) = q57
      go_loopw [9] (fun z W => ∃ i : Nat, i ≤ n1 ∧ z = .int .i64 (i : Int) ∧ SM w B C cs ds W) (fun z _ => n1 - (intOf z).toNat)
      case atStart => exact ⟨0, Nat.zero_le _, rfl, HS2.out⟩
      case round =>
        clear HS2
        obtain ⟨i, hi, rfl, hS⟩ := hrel
        have HS2 := Lib.hid hS
        have hi0 : (0 : Int) ≤ (i : Int) := by omega
        obtain ⟨-, ⟨p0, x0⟩, -⟩ := HPH.out _ hS
        clear hS
        by_cases hlt : i < n1
        · have hltI : (i : Int) < (n1 : Int) := by omega
          have HK := Lib.hid hlt
          obtain ⟨x, hx⟩ : ∃ x, m.tpls[i]? = some x := ⟨_, List.getElem?_eq_getElem (by rw [HL1.out.1]; exact hlt)⟩
          obtain ⟨y, hy⟩ : ∃ y, m'.tpls[i]? = some y := ⟨_, List.getElem?_eq_getElem (by rw [HL1.out.2.1]; exact hlt)⟩
          have HXM := Lib.hid (List.mem_of_getElem? hx)
          have hxy : y.params = x.params ∧ y.code = x.code := by
            have := congrArg (fun l => l[i]?) HT.out
            simp only [List.getElem?_map, hx, hy, Option.map_some, Option.some.injEq, Prod.mk.injEq] at this
            exact this
          obtain ⟨ba, oa, ca, rfl, -, ⟨ua, va, wa, rfl, la, lc, ld⟩, ka⟩ := (HA1.out.kept tpl_ok (KeptS.none_ HS2.out.g)).at_ hx
          obtain ⟨bb, ob, cb, rfl, -, ⟨ub, vb, wb, rfl, lb, le, lf⟩, kb⟩ := (HB1.out.kept tpl_ok (KeptS.none_ HS2.out.g)).at_ hy
          rw [hxy.1] at lb
          rw [hxy.2] at le
          obtain ⟨pa, fa, rfl, h5, h6⟩ := la.slice
          obtain ⟨pb, fb, rfl, -, -⟩ := lb.slice
          obtain ⟨ta, ga, rfl, h7, h8⟩ := lc.slice
          obtain ⟨tb, gb, rfl, -, -⟩ := le.slice
          obtain ⟨za, ia, rfl, -, -⟩ := ld.slice
          obtain ⟨zb, ib, rfl, -, -⟩ := lf.slice
          have HLA := Lib.hid la
          have HLB := Lib.hid lb
          have HLC := Lib.hid lc
          have HLE := Lib.hid le
          have HKA := Lib.hid ka
          have HKB := Lib.hid kb
          have hlI : (x.params.length : Int) ≤ 9223372036854775807 := by omega
          have hlJ : (x.code.length : Int) ≤ 9223372036854775807 := by omega
          clear la lb lc ld le lf ka kb hy hlt hx hxy h5 h6 h7 h8
          go_upto_region 17 with fail
          go_cut [10, 11] from 130 to 192 (fun p q W => ∃ Bx By, p = .pointer (some ⟨Bx, 0, none⟩) ∧ q = .pointer (some ⟨By, 0, none⟩) ∧ wr.grownBy W none ∧ Blk W Bx 50 #[.slice pa x.params.length fa, .slice ta x.code.length ga, .slice za x.at_.length ia] ∧ Blk W By 50 #[.slice pb x.params.length fb, .slice tb x.code.length gb, .slice zb y.at_.length ib])
          case first =>
            refine region_two (by kernel_rfl) (by kernel_rfl) [130, 131, 132, 133, 134, 135, 136, 137, 138, 139, 10, 11] (by kernel_rfl) (by kernel_rfl) (by decide)
              [(2, .pointer (some ⟨B, 0, none⟩)), (3, .pointer (some ⟨C, 0, none⟩)), (9, .int .i64 (i : Int)), (130, .pointer (some ⟨B, 1, none⟩)), (131, .slice (some ⟨ba, oa, none⟩) n1 q1), (132, .int .i64 (i : Int)), (133, .pointer (some ⟨ba, oa + i * 3, none⟩)), (134, .agg #[.slice pa x.params.length fa, .slice ta x.code.length ga, .slice za x.at_.length ia]), (135, .pointer (some ⟨C, 1, none⟩)), (136, .slice (some ⟨bb, ob, none⟩) n1 r1), (137, .int .i64 (i : Int)), (138, .pointer (some ⟨bb, ob + i * 3, none⟩)), (139, .agg #[.slice pb x.params.length fb, .slice tb x.code.length gb, .slice zb y.at_.length ib])]
              ⟨10, 50, #[.slice none 0 0, .slice none 0 0, .slice none 0 0], #[.slice pa x.params.length fa, .slice ta x.code.length ga, .slice za x.at_.length ia], 134, 10, 12⟩ ⟨11, 50, #[.slice none 0 0, .slice none 0 0, .slice none 0 0], #[.slice pb x.params.length fb, .slice tb x.code.length gb, .slice zb y.at_.length ib], 139, 11, 13⟩
              ?h0 (boxed_mtemplate _ _ _ _) (boxed_mtemplate _ _ _ _) rfl rfl rfl rfl (by dsimp only; decide) (by kernel_rfl) (by kernel_rfl) (by kernel_rfl) (by kernel_rfl) ?hops ?hQ
            case h0 =>
              intro p hp hn
              simp only [List.mem_cons, List.not_mem_nil, or_false] at hp
              rcases hp with rfl | rfl | rfl | rfl | rfl | rfl | rfl | rfl | rfl | rfl | rfl | rfl | rfl
              all_goals first | rfl | exact absurd (by dsimp only; decide) hn
            case hops =>
              exact ⟨.val 130 _ rfl rfl rfl (ov_fm1 rfl rfl), .val 131 _ rfl rfl rfl (ov_lsTemplate rfl rfl p0), .val 132 _ rfl rfl rfl (ov_move rfl rfl), .val 133 _ rfl rfl rfl (ov_ixTemplate rfl rfl rfl HK.out), .val 134 _ rfl rfl rfl (ov_ldTemplate rfl rfl (HKA.out 0 _ rfl) (HKA.out 1 _ rfl) (HKA.out 2 _ rfl)),
                .val 135 _ rfl rfl rfl (ov_fm1 rfl rfl), .val 136 _ rfl rfl rfl (ov_lsTemplate rfl rfl x0), .val 137 _ rfl rfl rfl (ov_move rfl rfl), .val 138 _ rfl rfl rfl (ov_ixTemplate rfl rfl rfl HK.out), .val 139 _ rfl rfl rfl (ov_ldTemplate rfl rfl (HKB.out 0 _ rfl) (HKB.out 1 _ rfl) (HKB.out 2 _ rfl)), .al1 rfl rfl rfl, .al2 rfl rfl rfl, .st1 rfl rfl rfl, .st2 rfl rfl rfl, trivial⟩
            case hQ =>
              intro vs W Bm Bn hg e1' e2' hne h1 h2 k1 k2
              have HZ : Hid (∃ Bx By, vs 10 = .pointer (some ⟨Bx, 0, none⟩) ∧ vs 11 = .pointer (some ⟨By, 0, none⟩) ∧ wr.grownBy W none ∧ Blk W Bx 50 #[.slice pa x.params.length fa, .slice ta x.code.length ga, .slice za x.at_.length ia] ∧ Blk W By 50 #[.slice pb x.params.length fb, .slice tb x.code.length gb, .slice zb y.at_.length ib]) := Lib.hid ⟨Bm, Bn, e1', e2', hg, k1, k2⟩
              clear hg e1' e2' hne h1 h2 k1 k2
              simp only [List.foldl_cons, List.foldl_nil, List.setIfInBounds_toArray, List.set_cons_zero, List.set_cons_succ]
              go_wp2_with fail
              go_meet
              exact HZ.out
          case rest =>
            obtain ⟨Bx, By, rfl, rfl, hg, k1, k2⟩ := hcut
            have HS3 := Lib.hid (HS2.out.kept hg)
            have HLA3 := Lib.hid (HLA.out.kept par_ok (KeptS.none_ hg))
            have HLB3 := Lib.hid (HLB.out.kept par_ok (KeptS.none_ hg))
            have HLC3 := Lib.hid (HLC.out.kept ins_ok (KeptS.none_ hg))
            have HLE3 := Lib.hid (HLE.out.kept ins_ok (KeptS.none_ hg))
            have K1 := Lib.hid k1
            have K2 := Lib.hid k2
            have s0 := k1.cell 0
            have s1 := k1.cell 1
            have t0 := k2.cell 0
            have t1 := k2.cell 1
            clear hg k1 k2 p0 x0 HLA HLB HLC HLE HKA HKB
            go_wp2_with fail
            clear s0 s1 t0 t1
            go_loopw [12] (fun z wx => ∃ k : Nat, k ≤ x.params.length ∧ z = .int .i64 (k : Int) ∧ wc.grownBy wx none) (fun z _ => x.params.length - (intOf z).toNat)
            case atStart => exact ⟨0, Nat.zero_le _, rfl, only_refl _ _⟩
            case round =>
              obtain ⟨k, hk, rfl, hg⟩ := hrel
              have hk0 : (0 : Int) ≤ (k : Int) := by omega
              have HG := Lib.hid hg
              have s4 := (K1.out.kept hg).cell 0
              by_cases hkm : k < x.params.length
              · have hkI : (k : Int) < (x.params.length : Int) := by omega
                have t4 := (K2.out.kept hg).cell 0
                obtain ⟨e, he⟩ : ∃ e, x.params[k]? = some e := ⟨_, List.getElem?_eq_getElem hkm⟩
                obtain ⟨b5, o5, c5, rfl, -, rfl, z5⟩ := (HLA3.out.kept par_ok (KeptS.none_ hg)).at_ he
                obtain ⟨b6, o6, c6, rfl, -, rfl, z6⟩ := (HLB3.out.kept par_ok (KeptS.none_ hg)).at_ he
                have z50 : wr.cell? ⟨b5, o5 + k * 3, none⟩ = some (.bool e.ch) := z5 0 _ rfl
                have z51 := z5 1 _ rfl
                have z52 := z5 2 _ rfl
                have z60 : wr.cell? ⟨b6, o6 + k * 3, none⟩ = some (.bool e.ch) := z6 0 _ rfl
                have z61 := z6 1 _ rfl
                have z62 := z6 2 _ rfl
                clear he hg z5 z6 hkm
                go_upto_region 23 with fail
                go_quiet (fail)
                have hgq : wr.grownBy (wr.drewN nq) none := only_drewN (only_refl _ _) _
                have HG2 := Lib.hid (only_trans HG.out hgq)
                clear hgq s4 t4 z50 z51 z60 z61 z52 z62
                go_wp2_with fail
                go_roundw
                case rel => exact ⟨k + 1, by omega, by go_num, HG2.out⟩
                case measure => simp [intOf]; omega
              · have hge : (x.params.length : Int) ≤ (k : Int) := by omega
                have HS4 := Lib.hid (HS3.out.kept hg)
                clear hg hkm
                have K13 := Lib.hid (K1.out.kept HG.out)
                have K23 := Lib.hid (K2.out.kept HG.out)
                have HLC4 := Lib.hid (HLC3.out.kept ins_ok (KeptS.none_ HG.out))
                have HLE4 := Lib.hid (HLE3.out.kept ins_ok (KeptS.none_ HG.out))
                go_wp2_with fail
                generalize decide (k < x.params.length) = q160
                clear hge s4 HG HLA3 HLB3 HLC3 HLE3 K1 K2 HS3
                generalize wr = wp at *
                go_loopw [13] (fun z wx => ∃ k : Nat, k ≤ x.code.length ∧ z = .int .i64 (k : Int) ∧ wp.grownBy wx none) (fun z _ => x.code.length - (intOf z).toNat)
                case atStart => exact ⟨0, Nat.zero_le _, rfl, only_refl _ _⟩
                case round =>
                  obtain ⟨k, hk, rfl, hg⟩ := hrel
                  have hk0 : (0 : Int) ≤ (k : Int) := by omega
                  have HG := Lib.hid hg
                  have s4 : wr.cell? ⟨Bx, 1, none⟩ = some (.slice ta x.code.length ga) := (K13.out.kept hg).cell 1
                  by_cases hkm : k < x.code.length
                  · have hkI : (k : Int) < (x.code.length : Int) := by omega
                    have t4 : wr.cell? ⟨By, 1, none⟩ = some (.slice tb x.code.length gb) := (K23.out.kept hg).cell 1
                    obtain ⟨e, he⟩ : ∃ e, x.code[k]? = some e := ⟨_, List.getElem?_eq_getElem hkm⟩
                    obtain ⟨b5, o5, c5, rfl, -, ⟨lv5, rfl, i5⟩, z5⟩ := (HLC4.out.kept ins_ok (KeptS.none_ hg)).at_ he
                    obtain ⟨b6, o6, c6, rfl, -, ⟨lv6, rfl, i6⟩, z6⟩ := (HLE4.out.kept ins_ok (KeptS.none_ hg)).at_ he
                    have hle : e.l.length ≤ 1000 := HLL.out x HXM.out e (List.mem_of_getElem? he)
                    have z50 : wr.cell? ⟨b5, o5 + k * 6, none⟩ = some (.int .i64 e.op) := z5 0 _ rfl
                    have z51 := z5 1 _ rfl
                    have z52 := z5 2 _ rfl
                    have z53 := z5 3 _ rfl
                    have z54 := z5 4 _ rfl
                    have z55 := z5 5 _ rfl
                    have z60 : wr.cell? ⟨b6, o6 + k * 6, none⟩ = some (.int .i64 e.op) := z6 0 _ rfl
                    have z61 := z6 1 _ rfl
                    have z62 := z6 2 _ rfl
                    have z63 := z6 3 _ rfl
                    have z64 := z6 4 _ rfl
                    have z65 := z6 5 _ rfl
                    have HCS : Hid (∀ W, wr.grownBy W none → Calls Tryz.prog 48 #[.agg #[.int .i64 e.op, .int .i64 e.a, .int .i64 e.b, .int .i64 e.c, .int .i64 e.d, lv5], .agg #[.int .i64 e.op, .int .i64 e.a, .int .i64 e.b, .int .i64 e.c, .int .i64 e.d, lv6]] W fun e w' => e = .returned (.bool true) ∧ W.grownBy w' none) := Lib.hid fun W hg2 => msami_any ⟨e.a, e.b, e.c, e.d, lv5, e.l⟩ e.op lv6 W (i5.keptS (KeptS.none_ hg2)) (i6.keptS (KeptS.none_ hg2)) hle
                    clear he hg z5 z6 hkm i5 i6 hle
                    go_upto_region 28 with fail
                    go_cut [192] from 174 to 192 (fun u W => u = .bool false ∧ wr.grownBy W none)
                    case first =>
                      have s : wr.grownBy wr.drew none := only_drew (only_refl _ _)
                      go_region_held3 (fun w' => w'.cell? ⟨Bx, 1, none⟩ = some (.slice (some ⟨b5, o5, none⟩) x.code.length ga) ∧ w'.cell? ⟨By, 1, none⟩ = some (.slice (some ⟨b6, o6, none⟩) x.code.length gb) ∧ w'.cell? ⟨b5, o5 + k * 6, none⟩ = some (.int .i64 e.op) ∧ w'.cell? ⟨b5, o5 + k * 6 + 1, none⟩ = some (.int .i64 e.a) ∧ w'.cell? ⟨b5, o5 + k * 6 + 2, none⟩ = some (.int .i64 e.b) ∧ w'.cell? ⟨b5, o5 + k * 6 + 3, none⟩ = some (.int .i64 e.c) ∧ w'.cell? ⟨b5, o5 + k * 6 + 4, none⟩ = some (.int .i64 e.d) ∧ w'.cell? ⟨b5, o5 + k * 6 + 5, none⟩ = some lv5 ∧ w'.cell? ⟨b6, o6 + k * 6, none⟩ = some (.int .i64 e.op) ∧ w'.cell? ⟨b6, o6 + k * 6 + 1, none⟩ = some (.int .i64 e.a) ∧ w'.cell? ⟨b6, o6 + k * 6 + 2, none⟩ = some (.int .i64 e.b) ∧ w'.cell? ⟨b6, o6 + k * 6 + 3, none⟩ = some (.int .i64 e.c) ∧ w'.cell? ⟨b6, o6 + k * 6 + 4, none⟩ = some (.int .i64 e.d) ∧ w'.cell? ⟨b6, o6 + k * 6 + 5, none⟩ = some lv6) (exact ⟨cell_row s4 s (fun e => by cases e), cell_row t4 s (fun e => by cases e), cell_row z50 s (fun e => by cases e), cell_row z51 s (fun e => by cases e), cell_row z52 s (fun e => by cases e), cell_row z53 s (fun e => by cases e), cell_row z54 s (fun e => by cases e), cell_row z55 s (fun e => by cases e), cell_row z60 s (fun e => by cases e), cell_row z61 s (fun e => by cases e), cell_row z62 s (fun e => by cases e), cell_row z63 s (fun e => by cases e), cell_row z64 s (fun e => by cases e), cell_row z65 s (fun e => by cases e)⟩) (first | (go_at_call 48; with_reducible refine Calls.mono (HCS.out _ s) ?_; rintro e W8 ⟨rfl, hs⟩; replace s := only_trans s hs; clear hs) | fail)
                      all_goals go_wp2_with fail
                      all_goals go_meet
                      all_goals exact ⟨rfl, s⟩
                    case rest =>
                      obtain ⟨rfl, hg5⟩ := hcut
                      have HG2 := Lib.hid (only_trans HG.out hg5)
                      clear hg5 s4 t4 z50 z51 z52 z53 z54 z55 z60 z61 z62 z63 z64 z65 HCS
                      go_wp2_with fail
                      go_roundw
                      case rel => exact ⟨k + 1, by omega, by go_num, HG2.out⟩
                      case measure => simp [intOf]; omega
                  · have hge : (x.code.length : Int) ≤ (k : Int) := by omega
                    have HS5 := Lib.hid (HS4.out.kept hg)
                    clear hg hkm
                    go_wp2_with fail
                    go_roundw
                    case rel => exact ⟨i + 1, HK.out, by go_num, HS5.out⟩
                    case measure => simp [intOf]; omega
        · have hge : (n1 : Int) ≤ (i : Int) := by omega
          clear hlt hi x0
          go_wp2_with fail
          clear hge
          go_loopw [14] (fun z W => ∃ i : Nat, i ≤ n2 ∧ z = .int .i64 (i : Int) ∧ SM w B C cs ds W) (fun z _ => n2 - (intOf z).toNat)
          case atStart => exact ⟨0, Nat.zero_le _, rfl, HS2.out⟩
          case round =>
            clear HS2
            obtain ⟨i, hi, rfl, hS⟩ := hrel
            have HS2 := Lib.hid hS
            have hi0 : (0 : Int) ≤ (i : Int) := by omega
            obtain ⟨-, -, ⟨p0, x0⟩, -⟩ := HPH.out _ hS
            clear hS
            by_cases hlt : i < n2
            · have hltI : (i : Int) < (n2 : Int) := by omega
              obtain ⟨e, he⟩ : ∃ e, m.chans[i]? = some e := ⟨_, List.getElem?_eq_getElem (by rw [HL2.out.1]; exact hlt)⟩
              obtain ⟨b5, o5, c5, rfl, -, rfl, z5⟩ := (HA2.out.kept edg_ok (KeptS.none_ HS2.out.g)).at_ he
              obtain ⟨b6, o6, c6, rfl, -, rfl, z6⟩ := (HB2.out.kept edg_ok (KeptS.none_ HS2.out.g)).at_ he
              have z50 : wr.cell? ⟨b5, o5 + i * 2, none⟩ = some (.int .i64 e.to) := z5 0 _ rfl
              have z51 := z5 1 _ rfl
              have z60 : wr.cell? ⟨b6, o6 + i * 2, none⟩ = some (.int .i64 e.to) := z6 0 _ rfl
              have z61 := z6 1 _ rfl
              have HK := Lib.hid hlt
              clear he z5 z6 hlt
              go_upto_region 33 with fail
              go_quiet (fail)
              have hgq : wr.grownBy (wr.drewN nq) none := only_drewN (only_refl _ _) _
              have HS3 := Lib.hid (HS2.out.kept hgq)
              clear hgq p0 x0 z50 z51 z60 z61
              go_wp2_with fail
              go_roundw
              case rel => exact ⟨i + 1, HK.out, by go_num, HS3.out⟩
              case measure => have := HK.out; simp [intOf]; omega
            · have hge : (n2 : Int) ≤ (i : Int) := by omega
              clear hlt hi x0
              go_wp2_with fail
              clear hge
              go_loopw [15] (fun z W => ∃ i : Nat, i ≤ n3 ∧ z = .int .i64 (i : Int) ∧ SM w B C cs ds W) (fun z _ => n3 - (intOf z).toNat)
              case atStart => exact ⟨0, Nat.zero_le _, rfl, HS2.out⟩
              case round =>
                clear HS2
                obtain ⟨i, hi, rfl, hS⟩ := hrel
                have HS2 := Lib.hid hS
                have hi0 : (0 : Int) ≤ (i : Int) := by omega
                obtain ⟨-, -, -, ⟨p0, x0⟩⟩ := HPH.out _ hS
                clear hS
                by_cases hlt : i < n3
                · have hltI : (i : Int) < (n3 : Int) := by omega
                  have HK := Lib.hid hlt
                  obtain ⟨y, hy⟩ : ∃ y, m.starts[i]? = some y := ⟨_, List.getElem?_eq_getElem (by rw [HL3.out.1]; exact hlt)⟩
                  obtain ⟨ba, oa, ca, rfl, -, ⟨va, rfl, la⟩, ka⟩ := (HA3.out.kept sta_ok (KeptS.none_ HS2.out.g)).at_ hy
                  obtain ⟨bb, ob, cb, rfl, -, ⟨vb, rfl, lb⟩, kb⟩ := (HB3.out.kept sta_ok (KeptS.none_ HS2.out.g)).at_ hy
                  obtain ⟨ea, qa, rfl, ga, ga'⟩ := la.slice
                  obtain ⟨eb, qb, rfl, gb, gb'⟩ := lb.slice
                  have HLA := Lib.hid la
                  have HLB := Lib.hid lb
                  have HKA := Lib.hid ka
                  have HKB := Lib.hid kb
                  have hlI : (y.args.length : Int) ≤ 9223372036854775807 := by omega
                  clear la lb ka kb hy hlt ga ga' gb gb'
                  go_upto_region 38 with fail
                  go_cut [16, 17] from 211 to 259 (fun p q W => ∃ Bx By, p = .pointer (some ⟨Bx, 0, none⟩) ∧ q = .pointer (some ⟨By, 0, none⟩) ∧ wr.grownBy W none ∧ Blk W Bx 74 #[.int .i64 y.tpl, .slice ea y.args.length qa] ∧ Blk W By 74 #[.int .i64 y.tpl, .slice eb y.args.length qb])
                  case first =>
                    refine region_two (by kernel_rfl) (by kernel_rfl) [218, 219, 220, 221, 222, 223, 224, 225, 226, 227, 16, 17] (by kernel_rfl) (by kernel_rfl) (by decide)
                      [(2, .pointer (some ⟨B, 0, none⟩)), (3, .pointer (some ⟨C, 0, none⟩)), (15, .int .i64 (i : Int)), (218, .pointer (some ⟨B, 3, none⟩)), (219, .slice (some ⟨ba, oa, none⟩) n3 q3), (220, .int .i64 (i : Int)), (221, .pointer (some ⟨ba, oa + i * 2, none⟩)), (222, .agg #[.int .i64 y.tpl, .slice ea y.args.length qa]), (223, .pointer (some ⟨C, 3, none⟩)), (224, .slice (some ⟨bb, ob, none⟩) n3 r3), (225, .int .i64 (i : Int)), (226, .pointer (some ⟨bb, ob + i * 2, none⟩)), (227, .agg #[.int .i64 y.tpl, .slice eb y.args.length qb])]
                      ⟨16, 74, #[.int .i64 0, .slice none 0 0], #[.int .i64 y.tpl, .slice ea y.args.length qa], 222, 10, 12⟩ ⟨17, 74, #[.int .i64 0, .slice none 0 0], #[.int .i64 y.tpl, .slice eb y.args.length qb], 227, 11, 13⟩
                      ?h0 (boxed_mstart _ _ _ _) (boxed_mstart _ _ _ _) rfl rfl rfl rfl (by dsimp only; decide) (by kernel_rfl) (by kernel_rfl) (by kernel_rfl) (by kernel_rfl) ?hops ?hQ
                    case h0 =>
                      intro p hp hn
                      simp only [List.mem_cons, List.not_mem_nil, or_false] at hp
                      rcases hp with rfl | rfl | rfl | rfl | rfl | rfl | rfl | rfl | rfl | rfl | rfl | rfl | rfl
                      all_goals first | rfl | exact absurd (by dsimp only; decide) hn
                    case hops =>
                      exact ⟨.val 218 _ rfl rfl rfl (ov_fm3 rfl rfl), .val 219 _ rfl rfl rfl (ov_lsStart rfl rfl p0), .val 220 _ rfl rfl rfl (ov_move rfl rfl), .val 221 _ rfl rfl rfl (ov_ixStart rfl rfl rfl HK.out), .val 222 _ rfl rfl rfl (ov_ldStart rfl rfl (HKA.out 0 _ rfl) (HKA.out 1 _ rfl)),
                        .val 223 _ rfl rfl rfl (ov_fm3 rfl rfl), .val 224 _ rfl rfl rfl (ov_lsStart rfl rfl x0), .val 225 _ rfl rfl rfl (ov_move rfl rfl), .val 226 _ rfl rfl rfl (ov_ixStart rfl rfl rfl HK.out), .val 227 _ rfl rfl rfl (ov_ldStart rfl rfl (HKB.out 0 _ rfl) (HKB.out 1 _ rfl)), .al1 rfl rfl rfl, .al2 rfl rfl rfl, .st1 rfl rfl rfl, .st2 rfl rfl rfl, trivial⟩
                    case hQ =>
                      intro vs W Bm Bn hg e1' e2' hne h1 h2 k1 k2
                      have HZ : Hid (∃ Bx By, vs 16 = .pointer (some ⟨Bx, 0, none⟩) ∧ vs 17 = .pointer (some ⟨By, 0, none⟩) ∧ wr.grownBy W none ∧ Blk W Bx 74 #[.int .i64 y.tpl, .slice ea y.args.length qa] ∧ Blk W By 74 #[.int .i64 y.tpl, .slice eb y.args.length qb]) := Lib.hid ⟨Bm, Bn, e1', e2', hg, k1, k2⟩
                      clear hg e1' e2' hne h1 h2 k1 k2
                      simp only [List.foldl_cons, List.foldl_nil, List.setIfInBounds_toArray, List.set_cons_zero, List.set_cons_succ]
                      go_wp2_with fail
                      go_meet
                      exact HZ.out
                  case rest =>
                    obtain ⟨Bx, By, rfl, rfl, hg, k1, k2⟩ := hcut
                    have HS3 := Lib.hid (HS2.out.kept hg)
                    have HLA3 := Lib.hid (HLA.out.kept arg_ok (KeptS.none_ hg))
                    have HLB3 := Lib.hid (HLB.out.kept arg_ok (KeptS.none_ hg))
                    have K1 := Lib.hid k1
                    have K2 := Lib.hid k2
                    have s0 := k1.cell 0
                    have s1 := k1.cell 1
                    have t0 := k2.cell 0
                    have t1 := k2.cell 1
                    clear hg k1 k2 p0 x0 HLA HLB HKA HKB
                    go_wp2_with fail
                    clear s0 s1 t0 t1
                    go_loopw [18] (fun z wx => ∃ k : Nat, k ≤ y.args.length ∧ z = .int .i64 (k : Int) ∧ wc.grownBy wx none) (fun z _ => y.args.length - (intOf z).toNat)
                    case atStart => exact ⟨0, Nat.zero_le _, rfl, only_refl _ _⟩
                    case round =>
                      obtain ⟨k, hk, rfl, hg⟩ := hrel
                      have hk0 : (0 : Int) ≤ (k : Int) := by omega
                      have HG := Lib.hid hg
                      have s4 := (K1.out.kept hg).cell 1
                      by_cases hkm : k < y.args.length
                      · have hkI : (k : Int) < (y.args.length : Int) := by omega
                        have t4 := (K2.out.kept hg).cell 1
                        obtain ⟨e, he⟩ : ∃ e, y.args[k]? = some e := ⟨_, List.getElem?_eq_getElem hkm⟩
                        obtain ⟨b5, o5, c5, rfl, -, rfl, z5⟩ := (HLA3.out.kept arg_ok (KeptS.none_ hg)).at_ he
                        obtain ⟨b6, o6, c6, rfl, -, rfl, z6⟩ := (HLB3.out.kept arg_ok (KeptS.none_ hg)).at_ he
                        have z50 : wr.cell? ⟨b5, o5 + k * 3, none⟩ = some (.bool e.ch) := z5 0 _ rfl
                        have z51 := z5 1 _ rfl
                        have z52 := z5 2 _ rfl
                        have z60 : wr.cell? ⟨b6, o6 + k * 3, none⟩ = some (.bool e.ch) := z6 0 _ rfl
                        have z61 := z6 1 _ rfl
                        have z62 := z6 2 _ rfl
                        clear he hg z5 z6 hkm
                        go_upto_region 44 with fail
                        go_quiet (fail)
                        have hgq : wr.grownBy (wr.drewN nq) none := only_drewN (only_refl _ _) _
                        have HG2 := Lib.hid (only_trans HG.out hgq)
                        clear hgq s4 t4 z50 z51 z60 z61 z52 z62
                        go_wp2_with fail
                        go_roundw
                        case rel => exact ⟨k + 1, by omega, by go_num, HG2.out⟩
                        case measure => simp [intOf]; omega
                      · have hge : (y.args.length : Int) ≤ (k : Int) := by omega
                        have HS4 := Lib.hid (HS3.out.kept hg)
                        clear hg hkm
                        go_wp2_with fail
                        go_roundw
                        case rel => exact ⟨i + 1, HK.out, by go_num, HS4.out⟩
                        case measure => simp [intOf]; omega
                · have hge : (n3 : Int) ≤ (i : Int) := by omega
                  clear hlt hi x0
                  go_wp2_with fail
                  go_ret
                  exact ⟨rfl, HS2.out.g⟩
end Go.Proofs.YtohhojbeclbedaaGreatDoor

/- Texts joined for the claim's sake: CSam, CWf, CEx, CCon, DTurn, Rng. -/
import Derived.Test.YtepjkoegbehojaaZMgAQ
import Derived.Test.YtepjkoegbehojaaZMgAK
import Derived.Test.YtepjkoegbehojaaZMgAJ
import Derived.Test.YtepjkoegbehojaaZMgAL
import Derived.Deep.CutBlock
import Derived.Deep.CutRange
import Derived.Deep.QuietTactic
import Derived.BigQuiet
import Derived.RangeFuncNested
import Derived.RangeFuncWrites
import Derived.RangeFuncBound
import Derived.RangeFuncCalls
import Derived.RangeFuncLeaves
/- The document's own answers of layer 7: whether two tables are alike, of like ones. -/
namespace Go.Proofs.Ytepjkoegbehojaa
open Go.RowKit Go.Shelf

set_option maxHeartbeats 400000 in
/-- The document's comparison of two lists of links, of like ones. -/
theorem rlinks_any (es : List Ed) (v u : Value) (w : World) (hE : Edges w v es) (hU : Edges w u es) :
    Calls Try.prog 34 #[v, u] w fun e w' => e = .returned (.bool true) ∧ w.grownBy w' none := by
  obtain ⟨A, c, rfl, hl, hc⟩ := hE
  obtain ⟨B, d, rfl, _, hd⟩ := hU
  have HC := Lib.hid hc
  have HD := Lib.hid hd
  clear hc hd
  go_enter Try.func34, Try.ntmps34
  go_wp2_with fail
  go_loopw [5] (fun i wr => ∃ k : Nat, k ≤ es.length ∧ i = .int .i64 (k : Int) ∧ w.grownBy wr none) (fun i _ => es.length - (intOf i).toNat)
  case atStart => exact ⟨0, Nat.zero_le _, rfl, only_refl _ _⟩
  case round =>
    obtain ⟨k, hk, rfl, hg⟩ := hrel
    have HG := Lib.hid hg
    clear hg
    by_cases hlt : k < es.length
    · obtain ⟨⟨a, b⟩, he⟩ : ∃ e, es[k]? = some e := ⟨_, List.getElem?_eq_getElem hlt⟩
      obtain ⟨bb, off, rfl, hce⟩ := HC.out (by intro e0; rw [e0] at hlt; simp at hlt)
      obtain ⟨bu, ofu, rfl, hde⟩ := HD.out (by intro e0; rw [e0] at hlt; simp at hlt)
      obtain ⟨d0, d1⟩ := hce k _ he
      obtain ⟨f0, f1⟩ := hde k _ he
      have g0 := Keeps.grown HG.out _ _ d0
      have g1 := Keeps.grown HG.out _ _ d1
      have g2 := Keeps.grown HG.out _ _ f0
      have g3 := Keeps.grown HG.out _ _ f1
      have hk0 : (0 : Int) ≤ (k : Int) := by omega
      have hk1 : (k : Int) < (es.length : Int) := by omega
      clear hce hde he d0 d1 f0 f1
      go_upto_region 6 with fail
      go_quiet (fail)
      go_wp2_with fail
      go_roundw
      case rel => exact ⟨k + 1, by omega, by go_num, only_drewN HG.out _⟩
      case measure => simp [intOf]; omega
    · have hge : (es.length : Int) ≤ (k : Int) := by omega
      clear hlt hk
      go_wp2_with fail
      go_ret
      exact ⟨rfl, HG.out⟩

set_option maxHeartbeats 400000 in
/-- The document's comparison of two lists of ints, of like ones. -/
theorem rints_any (es : List Int) (v u : Value) (w : World) (hE : Ints w v es) (hU : Ints w u es) :
    Calls Try.prog 33 #[v, u] w fun e w' => e = .returned (.bool true) ∧ w.grownBy w' none := by
  obtain ⟨A, c, rfl, hl, hc⟩ := hE
  obtain ⟨B, d, rfl, _, hd⟩ := hU
  have HC := Lib.hid hc
  have HD := Lib.hid hd
  clear hc hd
  go_enter Try.func33, Try.ntmps33
  go_wp2_with fail
  go_loopw [5] (fun i wr => ∃ k : Nat, k ≤ es.length ∧ i = .int .i64 (k : Int) ∧ w.grownBy wr none) (fun i _ => es.length - (intOf i).toNat)
  case atStart => exact ⟨0, Nat.zero_le _, rfl, only_refl _ _⟩
  case round =>
    obtain ⟨k, hk, rfl, hg⟩ := hrel
    have HG := Lib.hid hg
    clear hg
    by_cases hlt : k < es.length
    · obtain ⟨a, he⟩ : ∃ e, es[k]? = some e := ⟨_, List.getElem?_eq_getElem hlt⟩
      obtain ⟨bb, off, rfl, hce⟩ := HC.out (by intro e0; rw [e0] at hlt; simp at hlt)
      obtain ⟨bu, ofu, rfl, hde⟩ := HD.out (by intro e0; rw [e0] at hlt; simp at hlt)
      have d0 := hce k _ he
      have f0 := hde k _ he
      have g0 := Keeps.grown HG.out _ _ d0
      have g2 := Keeps.grown HG.out _ _ f0
      have hk0 : (0 : Int) ≤ (k : Int) := by omega
      have hk1 : (k : Int) < (es.length : Int) := by omega
      clear hce hde he d0 f0
      go_upto_region 6 with fail
      go_quiet (fail)
      go_wp2_with fail
      go_roundw
      case rel => exact ⟨k + 1, by omega, by go_num, only_drewN HG.out _⟩
      case measure => simp [intOf]; omega
    · have hge : (es.length : Int) ≤ (k : Int) := by omega
      clear hlt hk
      go_wp2_with fail
      go_ret
      exact ⟨rfl, HG.out⟩

section
variable {b : Act} {W : World} {o : Oper} {t s : Tmp}
theorem rc_loadClasses {p : Addr} {A : Option Addr} {n c : Nat} (ho : o.op = .load 24 (.tmp t)) (h1 : b.eval (.tmp t) = .pointer (some p)) (hc : W.cell? p = some (.slice A n c)) : (execOp b.eval o).run Try.prog W = .ok (.value (.slice A n c)) W := by
  obtain ⟨dst, op, type, pos, after, guard⟩ := o
  dsimp only at ho
  subst ho
  simp only [execOp, h1]
  go_simp
theorem rc_indexClasses {b0 off n c k : Nat} (ho : o.op = .indexAddr 24 (.tmp s) (.tmp t)) (h1 : b.eval (.tmp s) = .slice (some ⟨b0, off, none⟩) n c) (h2 : b.eval (.tmp t) = .int .i64 (k : Int)) (hk : k < n) : (execOp b.eval o).run Try.prog W = .ok (.value (.pointer (some ⟨b0, off + k * 6, none⟩))) W := by
  have hk0 : (0 : Int) ≤ (k : Int) := by omega
  have hk1 : (k : Int) < (n : Int) := by omega
  obtain ⟨dst, op, type, pos, after, guard⟩ := o
  dsimp only at ho
  subst ho
  simp only [execOp, h1, h2]
  go_simp
theorem rc_loadClass {b0 off : Nat} {x : Nd} {v : Value} (ho : o.op = .load 57 (.tmp t)) (h1 : b.eval (.tmp t) = .pointer (some ⟨b0, off, none⟩))
    (n0 : W.cell? ⟨b0, off, none⟩ = some (.int .i64 x.kind)) (n1 : W.cell? ⟨b0, off + 1, none⟩ = some (.int .i64 x.prio)) (n2 : W.cell? ⟨b0, off + 2, none⟩ = some (.bool x.chan)) (n3 : W.cell? ⟨b0, off + 3, none⟩ = some (.int .i64 x.pay.1)) (n4 : W.cell? ⟨b0, off + 4, none⟩ = some (.int .i64 x.pay.2)) (n5 : W.cell? ⟨b0, off + 5, none⟩ = some v) : (execOp b.eval o).run Try.prog W = .ok (.value (ndV x v)) W := by
  obtain ⟨dst, op, type, pos, after, guard⟩ := o
  dsimp only at ho
  subst ho
  simp only [execOp, h1]
  go_simp
end

/-- Both tables' boxes. -/
structure SB (w : World) (va vb oa ob pa pb : Value) (W : World) : Prop where
  gr : w.grownBy W none
  ba : Blk W w.heap.size 27 #[va, oa, pa]
  bb : Blk W (w.heap.size + 1) 27 #[vb, ob, pb]
theorem SB.kept {w W W' : World} {va vb oa ob pa pb : Value} (h : SB w va vb oa ob pa pb W) (hg : W.grownBy W' none) : SB w va vb oa ob pa pb W' := ⟨only_trans h.gr hg, h.ba.kept hg, h.bb.kept hg⟩

set_option maxRecDepth 100000 in
set_option maxHeartbeats 2000000 in
/-- The document's comparison of two tables, of like ones. -/
theorem rtsame_any (T : ClsT) (ta tb : Value) (w : World) (hA : TabV w ta T) (hB : TabV w tb T) (hs : T.cls.length ≤ 1000000) :
    Calls Try.prog 11 #[ta, tb] w fun e w' => e = .returned (.bool true) ∧ w.grownBy w' none := by
  obtain ⟨va, oa, pa, rfl, hCa, hOa, hPa⟩ := hA
  obtain ⟨vb, ob, pb, rfl, hCb, hOb, hPb⟩ := hB
  have HCA := Lib.hid hCa
  have HCB := Lib.hid hCb
  have HO := Lib.hid (And.intro hOa hOb)
  have HP := Lib.hid (And.intro hPa hPb)
  obtain ⟨A1, c1, rfl, _⟩ := hCa
  obtain ⟨A2, c2, rfl, _⟩ := hCb
  obtain ⟨A3, c3, rfl, _⟩ := hOa
  obtain ⟨A4, c4, rfl, _⟩ := hOb
  obtain ⟨A5, c5, rfl, _⟩ := hPa
  obtain ⟨A6, c6, rfl, _⟩ := hPb
  have hsI : (T.cls.length : Int) ≤ 1000000 := by omega
  have HS0 : Hid (SB w (.slice A1 T.cls.length c1) (.slice A2 T.cls.length c2) (.slice A3 T.of_.length c3) (.slice A4 T.of_.length c4) (.slice A5 T.prio.length c5) (.slice A6 T.prio.length c6) ((w.alloc (.cells #[.slice A1 T.cls.length c1, .slice A3 T.of_.length c3, .slice A5 T.prio.length c5] 27)).alloc (.cells #[.slice A2 T.cls.length c2, .slice A4 T.of_.length c4, .slice A6 T.prio.length c6] 27))) :=
    Lib.hid ⟨only_alloc (only_alloc (only_refl _ _) _) _, (Blk.new _ _ _).alloc _, blk_at (by simp) _ _⟩
  have HOI : Hid (∀ W, SB w (.slice A1 T.cls.length c1) (.slice A2 T.cls.length c2) (.slice A3 T.of_.length c3) (.slice A4 T.of_.length c4) (.slice A5 T.prio.length c5) (.slice A6 T.prio.length c6) W → Calls Try.prog 33 #[.slice A3 T.of_.length c3, .slice A4 T.of_.length c4] W fun e w' => e = .returned (.bool true) ∧ W.grownBy w' none) :=
    Lib.hid fun W h => rints_any T.of_ _ _ _ (HO.out.1.keep (.grown h.gr)) (HO.out.2.keep (.grown h.gr))
  have HPI : Hid (∀ W, SB w (.slice A1 T.cls.length c1) (.slice A2 T.cls.length c2) (.slice A3 T.of_.length c3) (.slice A4 T.of_.length c4) (.slice A5 T.prio.length c5) (.slice A6 T.prio.length c6) W → Calls Try.prog 33 #[.slice A5 T.prio.length c5, .slice A6 T.prio.length c6] W fun e w' => e = .returned (.bool true) ∧ W.grownBy w' none) :=
    Lib.hid fun W h => rints_any T.prio _ _ _ (HP.out.1.keep (.grown h.gr)) (HP.out.2.keep (.grown h.gr))
  go_enter Try.func11, Try.ntmps11
  go_wp2_with (first | (with_reducible refine Calls.mono (HPI.out _ HS1.out) ?_; rintro e W2 ⟨rfl, hg2⟩; have hs2 := HS1.out.kept hg2; have HS2 := Lib.hid hs2; clear hg2 hs2 q2 r2 l2) | (with_reducible refine Calls.mono (HOI.out _ HS0.out) ?_; rintro e W1 ⟨rfl, hg1⟩; have hs1 := HS0.out.kept hg1; have HS1 := Lib.hid hs1; have q2 := hs1.ba.cell 2; have r2 := hs1.bb.cell 2; have l2 := hs1.bb.lt; clear hg1 hs1))
  go_loopw [5] (fun i W => ∃ k : Nat, k ≤ T.cls.length ∧ i = .int .i64 (k : Int) ∧ SB w (.slice A1 T.cls.length c1) (.slice A2 T.cls.length c2) (.slice A3 T.of_.length c3) (.slice A4 T.of_.length c4) (.slice A5 T.prio.length c5) (.slice A6 T.prio.length c6) W) (fun i _ => T.cls.length - (intOf i).toNat)
  case atStart => exact ⟨0, Nat.zero_le _, rfl, HS2.out⟩
  case round =>
    clear HS0 HS1 HS2
    obtain ⟨k, hk, rfl, hsb⟩ := hrel
    have HSB := Lib.hid hsb
    have p0 := hsb.ba.cell 0
    have pl := hsb.ba.lt
    by_cases hlt : k < T.cls.length
    · obtain ⟨y, hy⟩ : ∃ y, T.cls[k]? = some y := ⟨_, List.getElem?_eq_getElem hlt⟩
      obtain ⟨b1, o1, D1, e1, rfl, hE1, x0, x1, x2, x3, x4, x5⟩ := cls_at (HCA.out.keep (.grown hsb.gr)) hy
      obtain ⟨b2, o2, D2, e2, rfl, hE2, z0, z1, z2, z3, z4, z5⟩ := cls_at (HCB.out.keep (.grown hsb.gr)) hy
      have HK := Lib.hid hlt
      have HE := Lib.hid (And.intro hE1 hE2)
      have hkI : (k : Int) < (T.cls.length : Int) := by omega
      have hk0 : (0 : Int) ≤ (k : Int) := by omega
      clear hsb hy hE1 hE2 hlt hk
      go_upto_region 6 with fail
      go_cut [6, 7] from 38 to 81 (fun p q W => ∃ Bx By, p = .pointer (some ⟨Bx, 0, none⟩) ∧ q = .pointer (some ⟨By, 0, none⟩) ∧ wr.grownBy W none ∧ Blk W Bx 57 (ndCells y (.slice D1 y.next.length e1)) ∧ Blk W By 57 (ndCells y (.slice D2 y.next.length e2)))
      case first =>
        refine region_two (by kernel_rfl) (by kernel_rfl) [38, 39, 40, 41, 42, 43, 44, 45, 46, 47, 6, 7] (by kernel_rfl) (by kernel_rfl) (by decide)
          [(2, .pointer (some ⟨w.heap.size, 0, none⟩)), (3, .pointer (some ⟨w.heap.size + 1, 0, none⟩)), (5, .int .i64 (k : Int)), (38, .pointer (some ⟨w.heap.size, 0, none⟩)), (39, .slice (some ⟨b1, o1, none⟩) T.cls.length c1), (40, .int .i64 (k : Int)), (41, .pointer (some ⟨b1, o1 + k * 6, none⟩)), (42, ndV y (.slice D1 y.next.length e1)), (43, .pointer (some ⟨w.heap.size + 1, 0, none⟩)), (44, .slice (some ⟨b2, o2, none⟩) T.cls.length c2), (45, .int .i64 (k : Int)), (46, .pointer (some ⟨b2, o2 + k * 6, none⟩)), (47, ndV y (.slice D2 y.next.length e2))]
          ⟨6, 57, ndCells ⟨0, 0, false, (0, 0), []⟩ (.slice none 0 0), ndCells y (.slice D1 y.next.length e1), 42, 10, 12⟩ ⟨7, 57, ndCells ⟨0, 0, false, (0, 0), []⟩ (.slice none 0 0), ndCells y (.slice D2 y.next.length e2), 47, 11, 13⟩
          ?h0 (boxed_class _ _ _ _ _ _ _ _) (boxed_class _ _ _ _ _ _ _ _) rfl rfl rfl rfl (by dsimp only; decide) (by kernel_rfl) (by kernel_rfl) (by kernel_rfl) (by kernel_rfl) ?hops ?hQ
        case h0 =>
          intro p hp hn
          simp only [List.mem_cons, List.not_mem_nil, or_false] at hp
          rcases hp with rfl | rfl | rfl | rfl | rfl | rfl | rfl | rfl | rfl | rfl | rfl | rfl | rfl
          all_goals first | rfl | exact absurd (by dsimp only; decide) hn
        case hops =>
          exact ⟨.val 38 _ rfl rfl rfl (fun b W hg hr => .inl (rc_table0 rfl (hr 2 _ (by simp [Op.operands]) rfl))), .val 39 _ rfl rfl rfl (fun b W hg hr => .inl (rc_loadClasses rfl (hr 38 _ (by simp [Op.operands]) rfl) ((HSB.out.kept hg).ba.cell 0))), .val 40 _ rfl rfl rfl (fun b W hg hr => .inl (rc_move rfl (hr 5 _ (by simp [Op.operands]) rfl))), .val 41 _ rfl rfl rfl (fun b W hg hr => .inl (rc_indexClasses rfl (hr 39 _ (by simp [Op.operands]) rfl) (hr 40 _ (by simp [Op.operands]) rfl) HK.out)), .val 42 _ rfl rfl rfl (fun b W hg hr => .inl (rc_loadClass rfl (hr 41 _ (by simp [Op.operands]) rfl) (Keeps.grown hg _ _ x0) (Keeps.grown hg _ _ x1) (Keeps.grown hg _ _ x2) (Keeps.grown hg _ _ x3) (Keeps.grown hg _ _ x4) (Keeps.grown hg _ _ x5))), .val 43 _ rfl rfl rfl (fun b W hg hr => .inl (rc_table0 rfl (hr 3 _ (by simp [Op.operands]) rfl))), .val 44 _ rfl rfl rfl (fun b W hg hr => .inl (rc_loadClasses rfl (hr 43 _ (by simp [Op.operands]) rfl) ((HSB.out.kept hg).bb.cell 0))), .val 45 _ rfl rfl rfl (fun b W hg hr => .inl (rc_move rfl (hr 5 _ (by simp [Op.operands]) rfl))), .val 46 _ rfl rfl rfl (fun b W hg hr => .inl (rc_indexClasses rfl (hr 44 _ (by simp [Op.operands]) rfl) (hr 45 _ (by simp [Op.operands]) rfl) HK.out)), .val 47 _ rfl rfl rfl (fun b W hg hr => .inl (rc_loadClass rfl (hr 46 _ (by simp [Op.operands]) rfl) (Keeps.grown hg _ _ z0) (Keeps.grown hg _ _ z1) (Keeps.grown hg _ _ z2) (Keeps.grown hg _ _ z3) (Keeps.grown hg _ _ z4) (Keeps.grown hg _ _ z5))), .al1 rfl rfl rfl, .al2 rfl rfl rfl, .st1 rfl rfl rfl, .st2 rfl rfl rfl, trivial⟩
        case hQ =>
          intro vs W Bm Bn hg e1' e2' hne h1 h2 k1 k2
          have HZ : Hid (∃ Bx By, vs 6 = .pointer (some ⟨Bx, 0, none⟩) ∧ vs 7 = .pointer (some ⟨By, 0, none⟩) ∧ wr.grownBy W none ∧ Blk W Bx 57 (ndCells y (.slice D1 y.next.length e1)) ∧ Blk W By 57 (ndCells y (.slice D2 y.next.length e2))) := Lib.hid ⟨Bm, Bn, e1', e2', hg, k1, k2⟩
          clear hg e1' e2' hne h1 h2 k1 k2
          simp only [List.foldl_cons, List.foldl_nil, List.setIfInBounds_toArray, List.set_cons_zero, List.set_cons_succ]
          go_wp2_with fail
          go_meet
          exact HZ.out
      case rest =>
        obtain ⟨Bx, By, rfl, rfl, hg, k1, k2⟩ := hcut
        obtain ⟨yk, yp, yc, ⟨y3, y4⟩, yn⟩ := y
        have HG := Lib.hid hg
        have s0 := k1.cell 0
        have s1 := k1.cell 1
        have s2 := k1.cell 2
        have s3 := k1.cell 3
        have s4 := k1.cell 4
        have s5 := k1.cell 5
        have r0 := k2.cell 0
        have r1 := k2.cell 1
        have r2 := k2.cell 2
        have r3 := k2.cell 3
        have r4 := k2.cell 4
        have r5 := k2.cell 5
        have l1 := k1.lt
        have l2 := k2.lt
        clear hg k1 k2 x0 x1 x2 x3 x4 x5 z0 z1 z2 z3 z4 z5 p0 pl
        dsimp only [ndCells] at *
        go_wp2_with (with_reducible refine Calls.mono (rlinks_any yn _ _ _ (HE.out.1.keep (.grown HG.out)) (HE.out.2.keep (.grown HG.out))) ?_; rintro e W2 ⟨rfl, hg2⟩; have HS5 := Lib.hid (HSB.out.kept (only_trans HG.out hg2)); clear hg2)
        go_roundw
        case rel => exact ⟨k + 1, HK.out, by go_num, HS5.out⟩
        case measure => simp [intOf]; omega
    · have hkI : (T.cls.length : Int) ≤ (k : Int) := by omega
      clear hsb hlt hk
      go_wp2_with fail
      go_ret
      exact ⟨rfl, HSB.out.gr⟩
end Go.Proofs.Ytepjkoegbehojaa

/- What a table of classes that is made holds by itself. No program. -/
namespace Go.Proofs.Ytepjkoegbehojaa
open Go.RowKit

section
variable {L : List Nd}
theorem root_at {i : Nat} (hL : TW L) (hi : i < L.length) : ∃ (m : Nat) (y : Nd) (s : Int), L[m]? = some y ∧ y.kind ≠ 5 ∧ 0 ≤ s ∧ s ≤ 64000 ∧ rootL L i = m ∧ prioL L i = (if y.kind = 0 then 0 else y.prio + s) ∧ ∀ o, -1000000000 ≤ o → o ≤ 1000000000 → resolveL L ((i : Int), o) = ((m : Int), s + o) := by
  obtain ⟨m, y, s, hy, h5, s0, s1, hr⟩ := hL.root (i : Int) (by omega) (by omega)
  have h0 := hr 0 (by omega) (by omega)
  rw [Int.add_zero] at h0
  have e1 : rootL L i = m := by unfold rootL; rw [h0]; rfl
  exact ⟨m, y, s, hy, h5, s0, s1, e1, by unfold prioL; rw [e1, hy, h0], hr⟩
theorem roots_live (hL : TW L) : ∀ x ∈ rootsL L, liveB L x = true := by
  intro x hx
  unfold rootsL at hx
  obtain ⟨i, hi, rfl⟩ := List.mem_map.1 hx
  obtain ⟨m, y, s, hy, h5, _, _, e1, _⟩ := root_at hL (List.mem_range.1 hi)
  rw [e1]
  exact live_of hy h5
theorem cls_num (hL : TW L) : Cls (fun a b => apL L a b = false) (rootsL L) (numL L).1 (numL L).2 :=
  cls_of (D := fun a => liveB L a = true) (apL_alike _) _ _ rfl (roots_live hL)
theorem roots_len (L : List Nd) : (rootsL L).length = L.length := by unfold rootsL; simp
theorem num_len (hL : TW L) : (numL L).2.length = L.length := (cls_num hL).len.trans (roots_len L)
theorem root_get (L : List Nd) {i : Nat} (hi : i < L.length) : (rootsL L)[i]? = some (rootL L i) := by unfold rootsL; simp [hi]
theorem cls_le (A : Nat → Nat → Bool) : ∀ (rs : List Nat) (p : List Nat × List Nat), (rs.foldl (clsStep A) p).1.length ≤ p.1.length + rs.length
  | [], p => by simp
  | x :: rs, p => by
    have h := cls_le A rs (clsStep A p x)
    have h1 : (clsStep A p x).1.length ≤ p.1.length + 1 := by
      unfold clsStep
      split
      · simp
      · dsimp only; omega
    rw [List.foldl_cons, List.length_cons]
    omega
theorem first_le (L : List Nd) : (numL L).1.length ≤ L.length := by
  have h := cls_le (apL L) (rootsL L) ([], [])
  rw [roots_len, List.length_nil, Nat.zero_add] at h
  exact h
theorem num_lt (hL : TW L) (h0 : 0 < L.length) (j : Nat) : (numL L).2.getD j 0 < (numL L).1.length := by
  have h := cls_num hL
  rw [List.getD_eq_getElem?_getD]
  cases hj : (numL L).2[j]? with
  | some c => exact h.lt hj
  | none =>
    obtain ⟨c, hc⟩ : ∃ c, (numL L).2[0]? = some c := ⟨_, List.getElem?_eq_getElem (by rw [num_len hL]; exact h0)⟩
    have := h.lt hc
    show 0 < _
    omega
end
theorem wf_clsT (xs : List Nd) : Wf (clsT xs) := by
  unfold clsT
  by_cases h0 : (orderL xs).2 = 0
  · rw [if_pos h0]
    have hK := (ord_of h0).ok
    have hL := tw_two hK
    have hlen := twoL_len xs
    have hpos := hK.pos
    have hle := hK.le
    generalize twoL xs = L at *
    have hp : 0 < L.length := by omega
    have hf := first_le L
    have hcl : ∀ x ∈ (numL L).1.map (clsN L xs.length (numL L).2), (x.next = [] ∧ x.chan = false) ∨ ∃ y, y ∈ L ∧ x.next = y.next.map (linkL L (numL L).2 y) ∧ x.chan = y.chan ∧ (y.chan = true → x.pay = linkL L (numL L).2 y y.pay) := by
      intro x hx
      obtain ⟨m, _, rfl⟩ := List.mem_map.1 hx
      unfold clsN
      cases hm : L[m]? with
      | none => exact .inl ⟨rfl, rfl⟩
      | some y => exact .inr ⟨y, List.mem_of_getElem? hm, rfl, rfl, fun e => if_pos e⟩
    have hlk : ∀ y e, 0 ≤ (linkL L (numL L).2 y e).1 ∧ (linkL L (numL L).2 y e).1 < (((numL L).1.map (clsN L xs.length (numL L).2)).length : Int) := fun y e => by
      rw [List.length_map]
      unfold linkL
      dsimp only
      have := num_lt hL hp (placeL L y e).1
      omega
    refine ⟨?_, ?_, ?_, ?_, ?_, ?_, ?_⟩
    · dsimp only; rw [List.length_map, List.length_map, List.length_range, num_len hL]
    · intro c hc
      dsimp only at hc ⊢
      obtain ⟨d, hd, rfl⟩ := List.mem_map.1 hc
      obtain ⟨i, hi⟩ := List.mem_iff_getElem?.1 hd
      have := (cls_num hL).lt hi
      rw [List.length_map]
      show 0 ≤ (d : Int) ∧ (d : Int) < _
      omega
    · intro x hx e he
      rcases hcl x hx with ⟨h1, _⟩ | ⟨y, _, h1, _⟩
      · rw [h1] at he; cases he
      · rw [h1] at he
        obtain ⟨f, _, rfl⟩ := List.mem_map.1 he
        exact hlk y f
    · intro x hx hc
      rcases hcl x hx with ⟨_, h1⟩ | ⟨y, _, _, h1, h2⟩
      · rw [h1] at hc; cases hc
      · rw [h2 (by rw [← h1]; exact hc)]
        exact hlk y y.pay
    · dsimp only; rw [List.length_map]; omega
    · dsimp only; rw [List.length_map, num_len hL]; omega
    · intro x hx
      rcases hcl x hx with ⟨h1, _⟩ | ⟨y, hy, h1, _⟩
      · rw [h1]; simp
      · rw [h1, List.length_map]
        have := (hL.good y hy).2.2
        omega
  · rw [if_neg h0]
    exact ⟨rfl, fun c h => (by cases h), fun x h => (by cases h), fun x h => (by cases h), by simp, by simp, fun x h => (by cases h)⟩
end Go.Proofs.Ytepjkoegbehojaa

/- Classes of the chapter's examples, reckoned. No program. -/
namespace Go.Proofs.Ytepjkoegbehojaa
abbrev wd (k p : Int) (t s : Int) : Nd := ⟨k, p, false, (0, 0), [(t, s)]⟩
abbrev endN : Nd := ⟨0, 0, false, (0, 0), []⟩
abbrev exA : List Nd := [wd 1 0 1 0, endN]
abbrev exB : List Nd := [wd 1 0 1 0, wd 2 1 0 3, wd 1 5 3 0, wd 2 6 2 3]
abbrev exC : List Nd := [wd 1 0 0 1, wd 1 0 0 2, endN]
abbrev exD : List Nd := [wd 1 0 1 0, wd 2 1 0 2]
theorem ex_a : (clsT exA).of_ = [0, 1, 2, 1] := by kernel_rfl
theorem ex_b : (clsT exB).of_ = [0, 1, 0, 1, 2, 3, 2, 3] := by kernel_rfl
theorem ex_b2 : (clsT exB).prio = [0, 1, 5, 6, 0, 1, 5, 6] := by kernel_rfl
theorem ex_c : (clsT exC).of_ = [0, 1, 2, 3, 4, 2] := by kernel_rfl
theorem ex_d : (clsT exD).of_ = [0, 1, 1, 0] := by kernel_rfl
abbrev exK : List Nd := [wd 1 0 1 0, wd 2 1 0 2, wd 1 0 3 0, wd 2 1 4 1, ⟨5, 0, false, (0, 0), [(5, 1)]⟩, wd 1 0 1 0, ⟨1, 2, true, (4, 2), [(7, 0)]⟩, endN]
theorem ex_k : (clsT exK).of_ = [0, 1, 0, 1, 0, 0, 2, 3, 1, 0, 1, 0, 1, 1, 4, 3] := by kernel_rfl
theorem ex_kc : (clsT exK).cls = [⟨1, 1, false, (0, 0), [(1, 1)]⟩, ⟨2, 0, false, (0, 0), [(0, 1)]⟩, ⟨1, 4, true, (0, 1), [(3, 0)]⟩, ⟨0, 3, false, (0, 0), []⟩, ⟨2, 2, true, (0, 1), [(3, 0)]⟩] := by kernel_rfl
end Go.Proofs.Ytepjkoegbehojaa

/- What layer 7's statements ask of the code: the contracts of its four functions. -/
namespace Go.Proofs.Ytepjkoegbehojaa
open Go.RowKit

def OfC : Prop := ∀ (xs : List Nd) (v : Value) (w : World), Tbl w v xs → xs.length ≤ 1000 → Calls Try.prog 9 #[v] w fun e w' => (∃ tv, e = .returned (.tuple #[tv, .int .i64 (orderL xs).2]) ∧ TabV w' tv (clsT xs)) ∧ w.grownBy w' none
def TypeC : Prop := ∀ (T : ClsT) (tv : Value) (x : Ed) (w : World), Wf T → TabV w tv T → -9223372036854775808 ≤ x.1 → x.1 ≤ 9223372036854775807 → Calls Try.prog 13 #[tv, edV x] w fun e w' => e = .returned (pairV (typeA T x)) ∧ w.grownBy w' none
def NextC : Prop := ∀ (T : ClsT) (tv : Value) (c prio i : Int) (w : World), Wf T → TabV w tv T → -9223372036854775808 ≤ c → c ≤ 9223372036854775807 → -9223372036854775808 ≤ i → i ≤ 9223372036854775807 → Calls Try.prog 15 #[tv, .int .i64 c, .int .i64 prio, .int .i64 i] w fun e w' => e = .returned (pairV (nextA T c prio i)) ∧ w.grownBy w' none
def PayC : Prop := ∀ (T : ClsT) (tv : Value) (c prio : Int) (w : World), Wf T → TabV w tv T → -9223372036854775808 ≤ c → c ≤ 9223372036854775807 → Calls Try.prog 17 #[tv, .int .i64 c, .int .i64 prio] w fun e w' => e = .returned (pairV (payA T c prio)) ∧ w.grownBy w' none
end Go.Proofs.Ytepjkoegbehojaa

/- dual: turner and what it answers with: a node, turned. -/
namespace Go.Proofs.Ytepjkoegbehojaa
open Go.RowKit Go.Shelf

/-- What turns nodes: its row of kinds, how much further. -/
abbrev turnV (bk bf : Nat) : Value := .func (.func 69) #[] #[.pointer (some ⟨bk, 0, none⟩), .pointer (some ⟨bf, 0, none⟩)]
theorem turner_any (ks : Array Value) (d : Int) (w : World) (hk : ∃ a b c e f g, ks = #[a, b, c, e, f, g]) :
    Calls Try.prog 57 #[.agg ks, .int .i64 d] w fun e w' => e = .returned (turnV w.heap.size (w.heap.size + 1)) ∧ w' = (w.alloc (.cells ks 101)).alloc (.cells #[.int .i64 d] 3) := by
  obtain ⟨a, b, c, e, f, g, rfl⟩ := hk
  have hmf : ∀ (fn : Fn) (first cap : Array Value) (w : World), (Instr.makeFunc fn first cap).run Try.prog w = .ok (.func fn first cap) w := fun _ _ _ _ => rfl
  go_enter Try.func57, Try.ntmps57
  go_wp2
  go_ret
  exact ⟨by simp [turnV], rfl⟩

/-- What stands as a node is turned: the node in its box, the answer's box, the row of its edges. -/
structure TN (w : World) (x : Nd) (K : Int) (u : Value) (es : List Ed) (W : World) : Prop where
  gr : w.grownBy W none
  b0 : Blk W w.heap.size 46 (ndCells ⟨K, x.prio, x.chan, x.pay, es⟩ u)
  b1 : Blk W (w.heap.size + 1) 46 (ndCells ⟨0, 0, false, (0, 0), []⟩ (.slice none 0 0))
  row : EOwn (w.heap.size + 2) W u es
section
variable {w W W' : World} {x : Nd} {K : Int} {u : Value} {es : List Ed}
theorem TN.size (h : TN w x K u es W) : w.heap.size + 2 ≤ W.heap.size := h.b1.lt
theorem TN.kept (h : TN w x K u es W) (hg : W.grownBy W' none) : TN w x K u es W' := ⟨only_trans h.gr hg, h.b0.kept hg, h.b1.kept hg, h.row.kept0 hg⟩
theorem TN.box (h : TN w x K u es W) (hg : W.grownBy W' u.ownBlock) : Blk W' w.heap.size 46 (ndCells ⟨K, x.prio, x.chan, x.pay, es⟩ u) := h.b0.grown hg fun e => by have := (World.ownsRow.lt h.row _ e.symm).1; omega
theorem TN.put {u' : Value} {es' : List Ed} (h : TN w x K u es W) (hg : W.grownBy W' u.ownBlock) (ho : EOwn (w.heap.size + 2) W' u' es') : TN w x K u' es' (W'.setCell ⟨w.heap.size, 5, none⟩ u') := by
  have hne : ∀ k, k < w.heap.size + 2 → ¬ some k = u.ownBlock := fun k hk e => by have := (World.ownsRow.lt h.row k e.symm).1; omega
  have g1 : w.grownBy W' none := grown_own h.gr (fun g e => by have := (World.ownsRow.lt h.row g e).1; omega) hg
  refine ⟨only_setNew g1 (Nat.le_refl _) _, (h.b0.grown hg (hne _ (by omega))).set_ 5 _, (h.b1.grown hg (hne _ (by omega))).far (p := ⟨w.heap.size, 5, none⟩) (by show w.heap.size + 1 ≠ w.heap.size; omega) _, ho.kept (row := some w.heap.size) (only_setCell (only_refl _ _) rfl _) (fun g e e' => ?_)⟩
  have := (World.ownsRow.lt ho g e).1
  injection e' with e'
  omega
end

theorem turn_results {tmps : Array Value} {W : World} {g : Nat} {x : Nd} {v : Value} (hp : tmps.getD 6 undef = .pointer (some ⟨g, 0, none⟩)) (hb : Blk W g 46 (ndCells x v)) :
    (results Try.f69 tmps).run Try.prog W = .ok (ndV x v) W := by
  obtain ⟨c0, c1, c2, c3, c4, c5⟩ := nd_cells hb
  have hp' : tmps[6]?.getD undef = .pointer (some ⟨g, 0, none⟩) := by simpa using hp
  simp [results, Try.results69, hp', go_sem, c0, c1, c2, c3, c4, c5]

set_option maxRecDepth 100000 in
set_option maxHeartbeats 2000000 in
/-- A node, turned: its kind by the row, its edges, those that are handed over, so much further. -/
theorem turn_any (x : Nd) (vn v : Value) (es : List Ed) (k N bk bf : Nat) (K : Int) (w : World) (hk : x.kind = (k : Int)) (h6 : k < 6) (hK : w.cell? ⟨bk, k, none⟩ = some (.int .i64 K)) (hN : w.cell? ⟨bf, 0, none⟩ = some (.int .i64 (N : Int))) (hN0 : N ≤ 1000)
    (hE : Edges w v es) (hlen : es.length ≤ 8) (hes : ∀ e ∈ es, 0 ≤ e.1 ∧ e.1 ≤ 1000) :
    Calls Try.prog 69 #[ndV x vn, v, .pointer (some ⟨bk, 0, none⟩), .pointer (some ⟨bf, 0, none⟩)] w fun e w' => ∃ u, e = .returned (ndV ⟨K, x.prio, x.chan, x.pay, es.map (upE N)⟩ u) ∧ EOwn w.heap.size w' u (es.map (upE N)) ∧ w.grownBy w' none := by
  have HE := Lib.hid hE
  have HES := Lib.hid hes
  obtain ⟨A, cap, rfl, hl, hc⟩ := hE
  obtain ⟨kind, prio, chan, ⟨ea, es0⟩, next⟩ := x
  dsimp only at *
  subst hk
  have hbk : bk < w.heap.size := cell_lt hK
  have hbf : bf < w.heap.size := cell_lt hN
  have hk0 : (0 : Int) ≤ (k : Int) := by omega
  have hk1 : (k : Int) < 6 := by omega
  have hl8 : (es.length : Int) ≤ 8 := by omega
  clear hc hes
  go_enter Try.func69, Try.ntmps69
  go_wp2_with fail
  go_loopw [17] (fun i W => ∃ (q : Nat) (u : Value), q ≤ es.length ∧ i = .int .i64 (q : Int) ∧ TN w ⟨(k : Int), prio, chan, (ea, es0), next⟩ K u ((es.take q).map (upE N)) W) (fun i _ => 16 - (intOf i).toNat)
  case atStart => exact ⟨0, _, Nat.zero_le _, rfl, only_alloc (only_alloc (only_refl _ _) _) _, (Blk.new w _ _).alloc _, blk_at (by simp) _ _, EOwn.nil_ _ _⟩
  case round =>
    obtain ⟨q, u, hq, rfl, h⟩ := hrel
    have HT := Lib.hid h
    by_cases hlt : q < es.length
    · have hqI : (q : Int) < (es.length : Int) := by omega
      have hq0 : (0 : Int) ≤ (q : Int) := by omega
      obtain ⟨⟨e1, e2⟩, he⟩ : ∃ e, es[q]? = some e := ⟨_, List.getElem?_eq_getElem hlt⟩
      obtain ⟨A', c', hA, _, hcl⟩ := HE.out
      obtain ⟨b5, o5, hb5, hce⟩ := hcl (by intro e0; rw [e0] at hlt; simp at hlt)
      obtain ⟨rfl, rfl⟩ : A = A' ∧ cap = c' := by simpa using hA
      subst hb5
      obtain ⟨d0', d1'⟩ := hce q _ he
      have d0 := Keeps.grown h.gr _ _ d0'
      have d1 := Keeps.grown h.gr _ _ d1'
      have hN1 := Keeps.grown h.gr _ _ hN
      have n5 : wr.cell? ⟨w.heap.size, 5, none⟩ = some u := h.b0.cell 5
      have f5 := h.b0.frozen 5
      obtain ⟨hx0, hx1⟩ := HES.out _ (List.mem_of_getElem? he)
      dsimp only at hx0 hx1 d0 d1
      have HQ := Lib.hid he
      have hbs := h.size
      have hb9 : w.heap.size < wr.heap.size := by omega
      have hbf9 : bf < wr.heap.size := by omega
      have hb59 : b5 < wr.heap.size := cell_lt d0
      have HLQ : Hid ((es.take q).length = q) := Lib.hid (by rw [List.length_take]; omega)
      clear h hcl hce hA he d0' d1' hN
      have HT2 := Lib.hid (HT.out.kept (only_alloc (only_alloc (only_refl _ _) (.cells #[.int .i64 e1, .int .i64 e2] 43)) (.cells #[.int .i64 (e1 + (N : Int)), .int .i64 e2] 43)))
      go_wp2_with (at_builtin; refine wpList_append_edgeB (e := (e1 + (N : Int), e2)) rfl (.tmp 22) (.tmp 30) rfl rfl rfl HT2.out.row (blk_at (by simp) _ _) (by have := HLQ.out; rw [List.length_map]; omega) (by simp; omega) ?_; (intro v1 W3 ho1 hg1 hb1; obtain ⟨A3, c3, rfl⟩ := ho1.len; have hp := HT2.out.put hg1 ho1; have HP := Lib.hid hp; have hbx := HT2.out.box hg1; have n9 : W3.cell? ⟨w.heap.size, 5, none⟩ = some u := hbx.cell 5; have f9 := hbx.frozen 5; have hl9 := hbx.lt; clear ho1 hg1 hb1 hp hbx))
      go_roundw
      case rel =>
        refine ⟨q + 1, .slice A3 (q + 1) c3, by omega, by go_num, ?_⟩
        have hp := HP.out
        rw [List.length_append, List.length_map, HLQ.out] at hp
        rw [take_len HQ.out, List.map_append]
        exact hp
      case measure => simp [intOf]; omega
      skip
    · have hqe : q = es.length := by omega
      have hqI : (es.length : Int) ≤ (q : Int) := by omega
      have hfin := HT.out
      rw [hqe, List.take_length] at hfin
      have HF := Lib.hid hfin
      clear HF
      obtain ⟨A3, c3, rfl⟩ := hfin.row.len
      rw [List.length_map] at hfin
      have HF := Lib.hid hfin
      obtain ⟨m0, m1, m2, m3, m4, m5⟩ := nd_cells hfin.b0
      have f0 := hfin.b1.frozen 0
      have f1 := hfin.b1.frozen 1
      have f2 := hfin.b1.frozen 2
      have f3 := hfin.b1.frozen 3
      have f4 := hfin.b1.frozen 4
      have f5 := hfin.b1.frozen 5
      obtain ⟨c0, c1, c2, c3', c4, c5⟩ := nd_cells hfin.b1
      dsimp only at m0 m1 m2 m3 m4 m5
      have hl0 := hfin.b0.lt
      have hl1 := hfin.b1.lt
      clear hlt hq hfin HT
      go_wp2_with fail
      have hf := HF.out
      have g6 := only_setNew (only_setNew (only_setNew (only_setNew (only_setNew (only_setNew hf.gr (p := ⟨w.heap.size + 1, 0, none⟩) (by show w.heap.size ≤ w.heap.size + 1; omega) (.int .i64 K)) (p := ⟨w.heap.size + 1, 1, none⟩) (by show w.heap.size ≤ w.heap.size + 1; omega) (.int .i64 prio)) (p := ⟨w.heap.size + 1, 2, none⟩) (by show w.heap.size ≤ w.heap.size + 1; omega) (.bool chan)) (p := ⟨w.heap.size + 1, 3, none⟩) (by show w.heap.size ≤ w.heap.size + 1; omega) (.int .i64 ea)) (p := ⟨w.heap.size + 1, 4, none⟩) (by show w.heap.size ≤ w.heap.size + 1; omega) (.int .i64 es0)) (p := ⟨w.heap.size + 1, 5, none⟩) (by show w.heap.size ≤ w.heap.size + 1; omega) (.slice A3 es.length c3)
      have b6 := (((((hf.b1.set_ 0 (.int .i64 K)).set_ 1 (.int .i64 prio)).set_ 2 (.bool chan)).set_ 3 (.int .i64 ea)).set_ 4 (.int .i64 es0)).set_ 5 (.slice A3 es.length c3)
      have g7 := only_setCell (only_setCell (only_setCell (only_setCell (only_setCell (only_setCell (only_refl wr (some (w.heap.size + 1))) (p := ⟨w.heap.size + 1, 0, none⟩) rfl (.int .i64 K)) (p := ⟨w.heap.size + 1, 1, none⟩) rfl (.int .i64 prio)) (p := ⟨w.heap.size + 1, 2, none⟩) rfl (.bool chan)) (p := ⟨w.heap.size + 1, 3, none⟩) rfl (.int .i64 ea)) (p := ⟨w.heap.size + 1, 4, none⟩) rfl (.int .i64 es0)) (p := ⟨w.heap.size + 1, 5, none⟩) rfl (.slice A3 es.length c3)
      refine bodyPost_ret (turn_results (x := ⟨K, prio, chan, (ea, es0), es.map (upE N)⟩) (v := .slice A3 es.length c3) rfl b6) rfl ?_
      exact ⟨_, rfl, (hf.row.kept g7 (fun g e e' => by have := (World.ownsRow.lt hf.row g e).1; injection e' with e'; omega)).base_ (by omega), g6⟩
end Go.Proofs.Ytepjkoegbehojaa

/- A range over a function that writes memory of its own between two rounds (a reader that moves on): what such a function owes, and what its caller owes. No program. -/
namespace Go.Proofs.Ytepjkoegbehojaa
open Go.RowKit

variable {F : Fence} {n : Nat} {P : Program}

/-- What the function owes: Sp, its own steps; T, what it keeps between two rounds; Tm, what holds as it hands x over; S, what has come when it ends by itself. -/
def Hands {α : Type} (F : Fence) (n : Nat) (P : Program) (gf : Nat) (lb : Array Value) (encs : α → Array Value) (Sp : World → World → Prop) (T : List α → World → Prop) (Tm : List α → α → World → Prop) (S : List α → Prop) : Prop :=
  ∀ (l : Nat) (J Jx : List α → World → Prop) (W : World), (∀ s X Y, J s X → Sp X Y → J s Y) →
    (∀ pre x X, J pre X → Tm pre x X → YieldAt F (n - 1) P l (encs x) X fun e Y => (e = .returned (.bool true) ∧ J (pre ++ [x]) Y ∧ T (pre ++ [x]) Y) ∨ (e = .returned (.bool false) ∧ Jx (pre ++ [x]) Y)) →
    J [] W → T [] W →
    CallsIn F n P gf (#[.func (.yield l) #[] #[]] ++ lb) W fun e Y => (∃ v, e = .returned v) ∧ ((∃ xs, S xs ∧ J xs Y ∧ T xs Y) ∨ (∃ xs, Jx xs Y))

/-- What the law itself has laid: the loop's record at D + 1, the rounds' deferred calls at D. -/
def Laid2 (rec : LoopState → Option Code → Loop) (D : Nat) (s : LoopState) (p : Option Code) (W : World) : Prop :=
  W.heap[D + 1]? = some (.loop (rec s p)) ∧ W.heap[D]? = some (.deferred (some []))
theorem Laid2.keep {rec : LoopState → Option Code → Loop} {D B : Nat} {s : LoopState} {p : Option Code} {X Y : World} (h : Laid2 rec D s p X) (hD : B ≤ D) (hk : KeepsFrom B X Y) : Laid2 rec D s p Y :=
  ⟨hk.same _ _ (by omega) h.1 rfl, hk.same _ _ hD h.2 rfl⟩
theorem Laid2.put {rec : LoopState → Option Code → Loop} {D : Nat} {s s' : LoopState} {p p' : Option Code} {W : World} (h : Laid2 rec D s p W) : Laid2 rec D s' p' (W.putObj (D + 1) (.loop (rec s' p'))) :=
  ⟨World.putObj_heap_same (Array.getElem?_eq_some_iff.1 h.1).1, (World.putObj_heap_other (by omega)).trans h.2⟩
theorem own_put2 {β : Type} {B : Nat} {I : β → World → Prop} (hI : OwnFrom B I) {rec : LoopState → Option Code → Loop} {D : Nat} {st : LoopState} {p : Option Code} {W : World} (hD : B ≤ D) (h : Laid2 rec D st p W) {s : β} (hs : I s W) (o : Obj) : I s (W.putObj (D + 1) o) :=
  hI.putObj o hs (by omega) h.1 rfl

/-- What the caller owes. -/
theorem wpIn_rangeFunc_hands {α : Type} {g : Operand} {ps : Array Tmp} {assign body : Code} {Q : Exit → Act → World → Prop} {a : Act} {w : World}
    (hro : F.round = none) (h1 : 1 ≤ n) {gf : Nat} {lb : Array Value} (hg : a.eval g = .func (.func gf) #[] lb) (hFg : F.fn gf) (eg : ∀ args w, (callFunc gf args).run P w = .ok (.enter gf args) w)
    {encs : α → Array Value} {Sp : World → World → Prop} {T : List α → World → Prop} {Tm : List α → α → World → Prop} {S : List α → Prop} (hseq : Hands F (n - 1) P gf lb encs Sp T Tm S)
    (hSp : ∀ X Y, Sp X Y → KeepsFrom w.heap.size X Y) (hps : ∀ x, (encs x).size = ps.size)
    (hT : OwnFrom w.heap.size T) (hTm : ∀ x, OwnFrom w.heap.size (fun pre W => Tm pre x W))
    (I : List α → World → Prop) (Ix : Code → List α → World → Prop) (hI : OwnFrom w.heap.size I) (hIx : ∀ c, OwnFrom w.heap.size (Ix c)) (hIs : ∀ s X Y, I s X → Sp X Y → I s Y)
    (h0 : I [] w) (t0 : T [] w) (a₁ : α → Act)
    (hassign : ∀ (l : Nat) (x : α) (W : World) (K : Act → World → Prop), K (a₁ x) W →
      assign.wpIn (F.inRound l) (n - 1 - 1) P (Exit.then K (fun _ _ _ => False)) { tmps := (ps.zip (encs x)).foldl (fun t (p, v) => t.setIfInBounds p v) a.tmps, defers := [] } W)
    (hbody : ∀ (l : Nat) (pre : List α) (x : α) (W : World), I pre W → Tm pre x W → body.wpIn (F.inRound l) (n - 1 - 1) P (ownPostG w.heap.size (fun _ _ => True) (fun xs W => I xs W ∧ T xs W) Ix (pre ++ [x]) W) (a₁ x) W)
    (hdone : ∀ (D : Nat) (xs : List α) (W : World), w.heap.size ≤ D → S xs → I xs W → T xs W → W.heap[D]? = some (.deferred (some [])) → Q .normal { a with defers := { target := .collected D, args := #[] } :: a.defers } W)
    (hstop : ∀ (D : Nat) (c : Code) (xs : List α) (W : World), w.heap.size ≤ D → Ix c xs W → W.heap[D]? = some (.deferred (some [])) → c.wpIn F n P Q { a with defers := { target := .collected D, args := #[] } :: a.defers } W) :
    (Code.rangeFunc g ps assign body).wpIn F n P Q a w := by
  refine wpIn_rangeFunc fun fn hfn => ?_
  rw [hro]
  obtain ⟨rec, hrec⟩ : ∃ rec : LoopState → Option Code → Loop, rec = fun st pe => { state := st, pending := pe, fn, tmps := a.tmps, params := ps, assign, body, defers := w.heap.size } := ⟨_, rfl⟩
  obtain ⟨W1, hW1⟩ : ∃ W1, (w.alloc (.deferred (some []))).alloc (.loop (rec .ready none)) = W1 := ⟨_, rfl⟩
  have L0 : Laid2 rec w.heap.size .ready none W1 := by
    rw [← hW1]
    refine ⟨?_, (Below.heap_alloc _ _ _ (by simp)).trans (World.alloc_heap_new w _)⟩
    have := World.alloc_heap_new (w.alloc (.deferred (some []))) (.loop (rec .ready none))
    rwa [World.size_alloc] at this
  have I0 : I [] W1 := hW1 ▸ hI.alloc (.loop (rec .ready none)) (hI.alloc (.deferred (some [])) h0)
  have T0 : T [] W1 := hW1 ▸ hT.alloc (.loop (rec .ready none)) (hT.alloc (.deferred (some [])) t0)
  refine ⟨w.heap.size + 1, [{ target := .collected w.heap.size, args := #[] }], W1, { target := .fn (.func gf) lb, args := #[.func (.yield (w.heap.size + 1)) #[] #[]] }, W1, gf,
    #[.func (.yield (w.heap.size + 1)) #[] #[]] ++ lb, W1, ?_, ?_, ?_, ?_, fun _ => h1, ?_⟩
  · rw [← hW1, hrec]
    exact run_enterLoop_outer _ _ _ _ _
  · simp only [resolve, hg]
    simp [go_sem]
  · intro f' hf'
    simp [Target.leads] at hf'
    exact hf' ▸ hFg
  · simp [invoke, go_sem, eg]
  clear hW1
  refine (hseq (w.heap.size + 1) (fun pre W => I pre W ∧ Laid2 rec w.heap.size .ready none W) (fun pre W => ∃ c, Ix c pre W ∧ Laid2 rec w.heap.size .done (some c) W) W1
    (fun s X Y ⟨hi, hl⟩ hs => ⟨hIs s X Y hi hs, hl.keep (Nat.le_refl _) (hSp X Y hs)⟩) ?_ ⟨I0, L0⟩ T0).mono ?_
  · rintro pre x X ⟨hi, hl⟩ hm
    have hy := run_yield (P := P) (args := encs x) hl.1 (by rw [hrec]; exact hps x)
    have hb := run_beginRound (P := P) hl.1 (by rw [hrec])
    have hbusy : ({ rec .ready none with state := .busy } : Loop) = rec .busy none := by rw [hrec]
    rw [hbusy] at hb
    have hl2 : Laid2 rec w.heap.size .busy none (X.putObj (w.heap.size + 1) (.loop (rec .busy none))) := hl.put
    have hi2 := own_put2 hI (Nat.le_refl _) hl hi (.loop (rec .busy none))
    have hm2 : Tm pre x (X.putObj (w.heap.size + 1) (.loop (rec .busy none))) := own_put2 (hTm x) (Nat.le_refl _) hl hm (.loop (rec .busy none))
    rw [hrec] at hy
    refine ⟨fn, _, assign, body, hy, roundIn_of_wpIn hfn (hassign _ x X _ ⟨_, hb, wpIn_mono (hbody _ pre x _ hi2 hm2) ?_⟩)⟩
    have fin : ∀ (j : Option Code) (Y : World), KeepsFrom w.heap.size (X.putObj (w.heap.size + 1) (.loop (rec .busy none))) Y →
        Laid2 rec w.heap.size .busy none Y ∧ (Instr.endRound (w.heap.size + 1) j).run P Y = .ok (.bool j.isNone) (Y.putObj (w.heap.size + 1) (.loop (rec (if j.isNone then .ready else .done) j))) := fun j Y hk => by
      have h2 := hl2.keep (Nat.le_refl _) hk
      refine ⟨h2, ?_⟩
      have := run_endRound (P := P) j h2.1
      rw [hrec] at this ⊢
      exact this
    have out : ∀ (c : Code) (Y : World), KeepsFrom w.heap.size (X.putObj (w.heap.size + 1) (.loop (rec .busy none))) Y → Ix c (pre ++ [x]) Y →
        ∃ v Y', (Instr.endRound (w.heap.size + 1) (some c)).run P Y = .ok v Y' ∧ ((Ending.returned v = .returned (.bool true) ∧ (I (pre ++ [x]) Y' ∧ Laid2 rec w.heap.size .ready none Y') ∧ T (pre ++ [x]) Y') ∨ (Ending.returned v = .returned (.bool false) ∧ ∃ c, Ix c (pre ++ [x]) Y' ∧ Laid2 rec w.heap.size .done (some c) Y')) := fun c Y hk hx => by
      obtain ⟨h2, hr⟩ := fin (some c) Y hk
      exact ⟨_, _, hr, .inr ⟨rfl, c, own_put2 (hIx c) (Nat.le_refl _) h2 hx _, h2.put⟩⟩
    intro e a3 Y hp
    cases e with
    | normal =>
      obtain ⟨hk, _, hi3, ht3⟩ := hp
      obtain ⟨h2, hr⟩ := fin none Y hk
      exact ⟨_, _, hr, .inl ⟨rfl, ⟨own_put2 hI (Nat.le_refl _) h2 hi3 _, h2.put⟩, own_put2 hT (Nat.le_refl _) h2 ht3 _⟩⟩
    | ret => exact out _ Y hp.1 hp.2
    | exit id => exact out _ Y hp.1 hp.2
    | goto t => exact out _ Y hp.1 hp.2
    | panic ch => exact hp.elim
    | outgrown => exact hp.elim
  · rintro e Y ⟨⟨v, rfl⟩, ⟨xs, hS, ⟨hi, hl⟩, ht⟩ | ⟨xs, c, hx, hl⟩⟩
    · have hr := run_endLoop (P := P) hl.1 (by rw [hrec]; simp)
      rw [hrec] at hr
      exact ⟨none, _, hr, hdone _ xs _ (Nat.le_refl _) hS (own_put2 hI (Nat.le_refl _) hl hi _) (own_put2 hT (Nat.le_refl _) hl ht _) ((World.putObj_heap_other (by omega)).trans hl.2)⟩
    · have hr := run_endLoop (P := P) hl.1 (by rw [hrec]; simp)
      rw [hrec] at hr
      exact ⟨some c, _, hr, hstop _ c xs _ (Nat.le_refl _) (own_put2 (hIx c) (Nat.le_refl _) hl hx _) ((World.putObj_heap_other (by omega)).trans hl.2)⟩
end Go.Proofs.Ytepjkoegbehojaa

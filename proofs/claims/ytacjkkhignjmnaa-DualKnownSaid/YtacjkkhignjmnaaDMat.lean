/- dual: Mate and Mates: what they answer. -/
import Derived.Test.YtacjkkhignjmnaaDCon
import Derived.Test.YtacjkkhignjmnaaGRes
import Derived.Test.YtacjkkhignjmnaaTwo
import Derived.Deep.CutBlock
import Derived.Deep.CutRange
import Derived.Deep.QuietTactic
import Derived.BigQuiet
namespace Go.Proofs.Ytacjkkhignjmnaa
open Go.RowKit Go.Shelf

set_option maxHeartbeats 400000 in
theorem dmate_eq (n m : Int) (w : World) (h0 : -1000000000 ≤ n) (h1 : n ≤ 1000000000) (h2 : -9223372036854775808 ≤ m) (h3 : m ≤ 9223372036854775807) : Calls Try.prog 10 #[.int .i64 n, .int .i64 m] w fun e w' => e = .returned (.int .i64 (mateA n m)) ∧ w = w' := by
  obtain ⟨r, hr⟩ : ∃ r, mateA n m = r := ⟨_, rfl⟩
  rw [hr]
  have HR := Lib.hid hr
  clear hr
  by_cases c0 : n < 1
  · have e : mateA n m = -1 := by unfold mateA; rw [if_pos (by omega)]
    have HE := Lib.hid e
    clear e
    go_enter Try.func10, Try.ntmps10
    go_wp2_with fail
    go_ret
    exact ⟨by rw [← HR.out, HE.out]; rfl, rfl⟩
  · have c0' : 1 ≤ n := by omega
    by_cases c1 : m < 0
    · have e : mateA n m = -1 := by unfold mateA; rw [if_pos (by omega)]
      have HE := Lib.hid e
      clear e
      go_enter Try.func10, Try.ntmps10
      go_wp2_with fail
      go_ret
      exact ⟨by rw [← HR.out, HE.out]; rfl, rfl⟩
    · have c1' : 0 ≤ m := by omega
      by_cases c2 : 2 * n ≤ m
      · have e : mateA n m = -1 := by unfold mateA; rw [if_pos (by omega)]
        have HE := Lib.hid e
        clear e
        have c2' : 2 * n - 1 < m := by omega
        go_enter Try.func10, Try.ntmps10
        go_wp2_with fail
        go_ret
        exact ⟨by rw [← HR.out, HE.out]; rfl, rfl⟩
      · have c2' : m ≤ 2 * n - 1 := by omega
        by_cases c3 : m < n
        · have e : mateA n m = m + n := mate_low c0' c1' c3
          have HE := Lib.hid e
          clear e
          go_enter Try.func10, Try.ntmps10
          go_wp2_with fail
          go_ret
          exact ⟨by rw [← HR.out, HE.out, Int.add_comm m n]; rfl, rfl⟩
        · have c3' : n ≤ m := by omega
          have e : mateA n m = m - n := mate_high c0' c3' (by omega)
          have HE := Lib.hid e
          clear e
          go_enter Try.func10, Try.ntmps10
          go_wp2_with fail
          go_ret
          exact ⟨by rw [← HR.out, HE.out]; rfl, rfl⟩

theorem dmate_con : MateC := fun n m w h0 h1 h2 h3 => (dmate_eq n m w h0 h1 h2 h3).mono fun _ _ ⟨h, hw⟩ => ⟨h, hw ▸ only_refl _ _⟩

theorem pick_range {xs : List Nd} : ∀ (l : List Ed), (∀ t ∈ l, ∃ x, nodeAt xs t.1 = some x) → (pickL xs l).1 = -1 ∨ (0 ≤ (pickL xs l).1 ∧ (pickL xs l).1 < (xs.length : Int))
  | [], _ => .inl rfl
  | t :: l, h => by
    unfold pickL
    by_cases c : isAl xs t = true
    · rw [if_pos c]
      exact pick_range l fun u hu => h u (List.mem_cons_of_mem _ hu)
    · rw [if_neg c]
      obtain ⟨x, hx⟩ := h t List.mem_cons_self
      obtain ⟨h0, h1, _⟩ := nodeAt_some hx
      exact .inr ⟨h0, h1⟩
theorem resolve_range (xs : List Nd) (t : Ed) : (resolveL xs t).1 = -1 ∨ (0 ≤ (resolveL xs t).1 ∧ (resolveL xs t).1 < (xs.length : Int)) := pick_range _ fun _ hu => wayL_mem hu
theorem mates_odd {xs : List Nd} {a b : Ed} (h : xs.length % 2 = 1) : matesB xs a b = false := by
  unfold matesB
  rw [decide_eq_false (by omega), Bool.false_and]
theorem mates_even {xs : List Nd} {a b x y : Ed} {q : Int} (h : xs.length % 2 = 0) (hx : resolveL xs a = x) (hy : resolveL xs b = y) (hq : mateA ((xs.length / 2 : Nat) : Int) x.1 = q) :
    matesB xs a b = (decide (0 ≤ x.1) && (decide (y.1 = q) && decide (y.2 = x.2))) := by
  have hr := resolve_range xs a
  unfold matesB
  rw [hx] at hr ⊢
  rw [hy, hq, decide_eq_true h, Bool.true_and]
  by_cases h0 : 0 ≤ x.1
  · have hq0 : 0 ≤ q := by rw [← hq]; unfold mateA; rw [if_neg (by omega)]; split <;> omega
    rw [decide_eq_true h0, Bool.true_and, Bool.true_and]
    by_cases e : y.1 = q
    · rw [decide_eq_true (show 0 ≤ y.1 by omega), decide_eq_true e, decide_eq_true e.symm, Bool.true_and, Bool.true_and, Bool.true_and]
      exact decide_eq_decide.2 eq_comm
    · rw [decide_eq_false e, decide_eq_false (Ne.symm e)]; simp
  · rw [decide_eq_false h0, Bool.false_and, Bool.false_and]

theorem only_drewN_M {w w' : World} (h : w.grownBy w' none) : ∀ n, w.grownBy (w'.drewN n) none
  | 0 => h
  | n + 1 => only_drew (only_drewN_M h n)
/-- Two boxes, each by itself. -/
def TwoM (W0 : World) (t : TypeId) (cs ds : Array Value) (x y : Value) (W : World) : Prop := ∃ Bx By, x = .pointer (some ⟨Bx, 0, none⟩) ∧ y = .pointer (some ⟨By, 0, none⟩) ∧ Bx ≠ By ∧ Blk W Bx t cs ∧ Blk W By t ds ∧ W0.grownBy W none

set_option maxRecDepth 100000 in
set_option maxHeartbeats 2000000 in
theorem dmates_con : MatesC := by
  intro xs v a b w hT hxs
  have HT := Lib.hid hT
  have HL := Lib.hid hxs
  obtain ⟨A, cap, rfl, hcl⟩ := hT
  clear hcl hxs
  rcases Nat.mod_two_eq_zero_or_one xs.length with hm | hm
  · have hmI : ((xs.length : Int)).tmod 2 = 0 := by rw [Int.tmod_eq_emod_of_nonneg (by omega)]; omega
    obtain ⟨⟨i, d⟩, hx⟩ : ∃ x, resolveL xs a = x := ⟨_, rfl⟩
    obtain ⟨⟨j, e⟩, hy⟩ : ∃ x, resolveL xs b = x := ⟨_, rfl⟩
    obtain ⟨m2, hm2⟩ : ∃ m2 : Nat, xs.length / 2 = m2 := ⟨_, rfl⟩
    obtain ⟨q, hq⟩ : ∃ q, mateA ((xs.length / 2 : Nat) : Int) i = q := ⟨_, rfl⟩
    have hRA : ∀ W, w.grownBy W none → Calls Try.prog 16 #[.slice A xs.length cap, edV a] W fun e w'' => e = .returned (edV (i, d)) ∧ W.grownBy w'' none := fun W h => by
      rw [← hx]; exact resolve_any xs _ a W (HT.out.keep (.grown h)) (by have := HL.out; omega)
    have hRB : ∀ W, w.grownBy W none → Calls Try.prog 16 #[.slice A xs.length cap, edV b] W fun x w'' => x = .returned (edV (j, e)) ∧ W.grownBy w'' none := fun W h => by
      rw [← hy]; exact resolve_any xs _ b W (HT.out.keep (.grown h)) (by have := HL.out; omega)
    have hME : matesB xs a b = (decide (0 ≤ i) && (decide (j = q) && decide (e = d))) := mates_even hm hx hy hq
    rw [hME]
    rw [hm2] at hq
    have HQ := Lib.hid hq
    have hdiv : ((xs.length : Int)).tdiv 2 = (m2 : Int) := by rw [Int.tdiv_eq_ediv_of_nonneg (by omega)]; omega
    have hm2l : m2 ≤ 1000 := by have := HL.out; omega
    have HM2 := Lib.hid hm2l
    have hw2 : IntKind.i64.wrap (m2 : Int) = (m2 : Int) := IntWalk.i64_in _ ⟨by omega, by omega⟩
    clear hm2 hm2l
    have HRA := Lib.hid hRA
    have HRB := Lib.hid hRB
    have hi := resolve_range xs a
    rw [hx] at hi
    have HI := Lib.hid hi
    clear hx hy hq hRA hRB hME hi hm
    go_enter Try.func15, Try.ntmps15
    go_upto_region 3 with fail
    have hgX : w.grownBy ((w.alloc (.cells (edCells a) 40)).alloc (.cells (edCells b) 40)) none := only_alloc (only_alloc (only_refl _ _) _) _
    have ba : Blk ((w.alloc (.cells (edCells a) 40)).alloc (.cells (edCells b) 40)) w.heap.size 40 (edCells a) := (Blk.new w _ _).alloc _
    have bb : Blk ((w.alloc (.cells (edCells a) 40)).alloc (.cells (edCells b) 40)) (w.heap.size + 1) 40 (edCells b) := blk_at (by simp) _ _
    have HGX := Lib.hid hgX
    clear hgX
    go_cut [7, 8] from 13 to 39 (fun x y wx => TwoM ((w.alloc (.cells (edCells a) 40)).alloc (.cells (edCells b) 40)) 40 (edCells (i, d)) (edCells (j, e)) x y wx)
    case first =>
      refine region_two (by kernel_rfl) (by kernel_rfl) [13, 14, 15, 16, 17, 18, 7, 8] (by kernel_rfl) (by kernel_rfl) (by decide)
        [(0, .slice A xs.length cap), (4, .pointer (some ⟨w.heap.size, 0, none⟩)), (5, .pointer (some ⟨w.heap.size + 1, 0, none⟩)), (13, .slice A xs.length cap), (14, edV a), (15, edV (i, d)), (16, .slice A xs.length cap), (17, edV b), (18, edV (j, e))]
        ⟨7, 40, edCells (0, 0), edCells (i, d), 15, 6, 8⟩ ⟨8, 40, edCells (0, 0), edCells (j, e), 18, 7, 9⟩
        ?h0 (boxed_type _ _ _ _ _) (boxed_type _ _ _ _ _) rfl rfl rfl rfl (by dsimp only; decide) (by kernel_rfl) (by kernel_rfl) (by kernel_rfl) (by kernel_rfl) ?hops ?hQ
      case h0 =>
        intro p hp hn
        simp only [List.mem_cons, List.not_mem_nil, or_false] at hp
        rcases hp with rfl | rfl | rfl | rfl | rfl | rfl | rfl | rfl | rfl
        all_goals first | rfl | exact absurd (by dsimp only; decide) hn
      case hops =>
        have hrun : ∀ {args : Array Value} W, (callFunc 16 args).run Try.prog W = .ok (.enter 16 args) W := fun W => enters_of Try.func16 (by kernel_rfl) rfl _ W
        exact ⟨.val 13 _ rfl rfl rfl (ov_move rfl rfl), .val 14 _ rfl rfl rfl (ov_load_type rfl rfl ba), .val 15 _ rfl rfl rfl (ov_call2 rfl rfl rfl (fun W => hrun W) (fun W hg => HRA.out W (only_trans HGX.out hg))),
          .val 16 _ rfl rfl rfl (ov_move rfl rfl), .val 17 _ rfl rfl rfl (ov_load_type rfl rfl bb), .val 18 _ rfl rfl rfl (ov_call2 rfl rfl rfl (fun W => hrun W) (fun W hg => HRB.out W (only_trans HGX.out hg))),
          .al1 rfl rfl rfl, .al2 rfl rfl rfl, .st1 rfl rfl rfl, .st2 rfl rfl rfl, trivial⟩
      case hQ =>
        intro vs W Bx By hg e1 e2 hne h1 h2 k1 k2
        have HZ : Hid (TwoM ((w.alloc (.cells (edCells a) 40)).alloc (.cells (edCells b) 40)) 40 (edCells (i, d)) (edCells (j, e)) (vs 7) (vs 8) W) := Lib.hid ⟨Bx, By, e1, e2, hne, k1, k2, hg⟩
        clear hg e1 e2 hne h1 h2 k1 k2
        simp only [List.foldl_cons, List.foldl_nil, List.setIfInBounds_toArray, List.set_cons_zero, List.set_cons_succ]
        go_wp2_with fail
        go_meet
        exact HZ.out
    case rest =>
      obtain ⟨Bx, By, rfl, rfl, hxy, kx, ky, hg⟩ := hcut
      have HGW := Lib.hid (only_trans HGX.out hg)
      have HKX := Lib.hid kx
      have HKY := Lib.hid ky
      have x0 : wc.cell? ⟨Bx, 0, none⟩ = some (.int .i64 i) := kx.cell 0
      have x1 : wc.cell? ⟨Bx, 1, none⟩ = some (.int .i64 d) := kx.cell 1
      have y0 : wc.cell? ⟨By, 0, none⟩ = some (.int .i64 j) := ky.cell 0
      have y1 : wc.cell? ⟨By, 1, none⟩ = some (.int .i64 e) := ky.cell 1
      clear hg ba bb hxy kx ky HKX HKY
      by_cases hi : 0 ≤ i
      · have hi2 : i ≤ 1000 := by have := HL.out; have := HI.out; dsimp only at this; omega
        have hd0 : decide (0 ≤ i) = true := decide_eq_true hi
        have hmq : ∀ W : World, Calls Try.prog 10 #[.int .i64 (m2 : Int), .int .i64 i] W fun e w' => e = .returned (.int .i64 q) ∧ ∃ n, w' = W.drewN n := fun W => by
          rw [← HQ.out]
          exact (dmate_eq _ _ W (by have := HM2.out; omega) (by have := HM2.out; omega) (by omega) (by omega)).mono fun _ _ ⟨h, hw⟩ => ⟨h, 0, hw ▸ rfl⟩
        have HMQ := Lib.hid hmq
        clear HI hmq HQ
        by_cases hjq : j = q
        · subst hjq
          have hbe : (j == j) = true := beq_self_eq_true _
          go_upto_region 4 with fail
          go_quiet ((go_at_call 10; refine Calls.quiet_of (HMQ.out _)))
          go_wp2_with fail
          go_ret
          refine ⟨?_, only_drewN_M HGW.out nq⟩
          have hed : (e == d) = decide (e = d) := rfl
          rw [← hed]
          rfl
        · have hbe : (j == q) = false := beq_eq_false_iff_ne.2 hjq
          go_upto_region 4 with fail
          go_quiet ((go_at_call 10; refine Calls.quiet_of (HMQ.out _)))
          go_wp2_with fail
          go_ret
          refine ⟨?_, only_drewN_M HGW.out nq⟩
          rw [decide_eq_false hjq]
          simp
      · have hd0 : decide (0 ≤ i) = false := decide_eq_false hi
        go_upto_region 4 with fail
        go_quiet (fail)
        go_wp2_with fail
        go_ret
        refine ⟨?_, only_drewN_M HGW.out nq⟩
        rfl
  · have hmI : ((xs.length : Int)).tmod 2 = 1 := by rw [Int.tmod_eq_emod_of_nonneg (by omega)]; omega
    have HO := Lib.hid (mates_odd (a := a) (b := b) hm)
    clear hm
    go_enter Try.func15, Try.ntmps15
    go_wp2_with fail
    go_ret
    exact ⟨by rw [HO.out]; rfl, only_alloc (only_alloc (only_refl _ _) _) _⟩
end Go.Proofs.Ytacjkkhignjmnaa

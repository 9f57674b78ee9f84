/- The document's answer for order: acts, Jump. -/
import Derived.Test.YtepjkoegbehojaaZMgAN
namespace Go.Proofs.Ytepjkoegbehojaa
open Go.RowKit Go.Shelf

def actR (k : Int) : Bool := decide (1 ≤ k) && decide (k ≤ 4)
theorem act_eq {k : Int} (h0 : 0 ≤ k) (h5 : k ≤ 5) : actR k = actB k := by
  unfold actR actB
  rcases (by omega : k = 0 ∨ k = 1 ∨ k = 2 ∨ k = 3 ∨ k = 4 ∨ k = 5) with rfl | rfl | rfl | rfl | rfl | rfl <;> decide
theorem OKT.act {xs : List Nd} {u : Nat} {x : Nd} (hk : OKT xs) (hx : xs[u]? = some x) : actR x.kind = actB x.kind := act_eq (hk.end_ hx).1.1 (hk.end_ hx).1.2
set_option maxHeartbeats 400000 in
theorem racts_any (x : Nd) (v : Value) (w : World) : Calls Try.prog 50 #[ndV x v] w fun e w' => e = .returned (.bool (actR x.kind)) ∧ w.grownBy w' none := by
  go_enter Try.func50, Try.ntmps50
  go_wp2_with fail
  all_goals go_ret
  all_goals exact ⟨by simp [actR, *] <;> omega, only_alloc (only_refl _ _) _⟩

theorem orefRes_any (xs : List Nd) (v : Value) (t : Ed) (w : World) (hT : Tbl w v xs) (hxs : xs.length ≤ 1000000) :
    Calls Try.prog 31 #[v, edV t] w fun e w' => e = .returned (edV (resolveL xs t)) ∧ w.grownBy w' none := by
  have := refResolve_any xs v t w hT hxs
  rwa [pick_more] at this

set_option maxRecDepth 100000 in
set_option maxHeartbeats 2000000 in
theorem rJump_any (xs : List Nd) (v : Value) (fr : Int) (e : Ed) (w : World) (hT : Tbl w v xs) (hxs : xs.length ≤ 1000) (h0 : -9223372036854775808 ≤ e.2) (h1 : e.2 ≤ 9223372036854775807) :
    Calls Try.prog 51 #[v, .int .i64 fr, edV e] w fun en w' => en = .returned (pairB (jumpA xs fr e)) ∧ w.grownBy w' none := by
  have HT := Lib.hid hT
  have HL := Lib.hid hxs
  have HE : Hid (-9223372036854775808 ≤ e.2 ∧ e.2 ≤ 9223372036854775807) := ⟨h0, h1⟩
  clear h0 h1
  have hxs' : (xs.length : Int) ≤ 1000 := by omega
  obtain ⟨A, cap, rfl, hcl⟩ := hT
  have HCL := Lib.hid hcl
  clear hcl hxs
  obtain ⟨ea, es⟩ := e
  dsimp only at HE
  by_cases hc : (checkL xs).2 = 0
  · have HC := Lib.hid (okt_check hc)
    have HK := Lib.hid (okt_of hc)
    have HC0 := Lib.hid hc
    clear hc
    cases hf : nodeB xs.length fr
    · have HR : Hid (jumpA xs fr (ea, es) = (0, false)) := jumpA_2 hf
      have hf2 : fr < 0 ∨ (0 ≤ fr ∧ (xs.length : Int) ≤ fr) := by
        have := mt nodeB_true.2 (by rw [hf]; simp)
        omega
      clear hf
      rcases hf2 with hf2 | ⟨hf2, hf3⟩
      all_goals
        (go_enter Try.func51, Try.ntmps51
         go_wp2_with (go_at_call 49; go_must (refine (refCheck_any xs _ _ (HT.out.keep (.alloc _ _)) (by have := HL.out; omega)).mono ?_; rw [HC.out]; rintro e w1 ⟨rfl, hg1⟩; have HG1 := Lib.hid (only_trans (only_alloc (only_refl _ _) _) hg1); have d0 := (Blk.new w 43 (edCells (ea, es))).kept hg1; have d1 : w1.cell? ⟨w.heap.size, 0, none⟩ = some (.int .i64 ea) := d0.cell 0; have d2 : w1.cell? ⟨w.heap.size, 1, none⟩ = some (.int .i64 es) := d0.cell 1; have hbe := d0.lt; clear hg1 d0))
         go_ret2
         exact ⟨by rw [HR.out]; rfl, HG1.out⟩)
    · obtain ⟨hf0, hf1⟩ := nodeB_true.1 hf
      cases ht : nodeB xs.length ea
      · have HR : Hid (jumpA xs fr (ea, es) = (0, false)) := jumpA_3 ht
        have ht2 : ea < 0 ∨ (0 ≤ ea ∧ (xs.length : Int) ≤ ea) := by
          have := mt nodeB_true.2 (by rw [ht]; simp)
          omega
        clear hf ht
        rcases ht2 with ht2 | ⟨ht2, ht3⟩
        all_goals
          (go_enter Try.func51, Try.ntmps51
           go_wp2_with (go_at_call 49; go_must (refine (refCheck_any xs _ _ (HT.out.keep (.alloc _ _)) (by have := HL.out; omega)).mono ?_; rw [HC.out]; rintro e w1 ⟨rfl, hg1⟩; have HG1 := Lib.hid (only_trans (only_alloc (only_refl _ _) _) hg1); have d0 := (Blk.new w 43 (edCells (ea, es))).kept hg1; have d1 : w1.cell? ⟨w.heap.size, 0, none⟩ = some (.int .i64 ea) := d0.cell 0; have d2 : w1.cell? ⟨w.heap.size, 1, none⟩ = some (.int .i64 es) := d0.cell 1; have hbe := d0.lt; clear hg1 d0))
           go_ret2
           exact ⟨by rw [HR.out]; rfl, HG1.out⟩)
      · obtain ⟨x, hx, hx2⟩ := nodeAt_of hf
        obtain ⟨ht0, ht1⟩ := nodeB_true.1 ht
        have HR : Hid (jumpA xs fr (ea, es) = _) := jumpA_4 HC0.out ht hx
        obtain ⟨m, y, o, hr, hy, hk5⟩ := HK.out.node (e := (ea, es)) ht HE.out.1 HE.out.2
        obtain ⟨f, rfl⟩ : ∃ f : Nat, fr = f := ⟨fr.toNat, by omega⟩
        have hm : m < xs.length := (List.getElem?_eq_some_iff.1 hy).1
        have hm' : (m : Int) < (xs.length : Int) := by omega
        obtain ⟨b, off, rfl, hcl2⟩ := HCL.out (by intro e0; rw [e0] at hm; simp at hm)
        obtain ⟨vx, _, n0, n1, _⟩ := hcl2 f x (by simpa using hx2)
        obtain ⟨vy, _, m0, m1, _⟩ := hcl2 m y hy
        have HQ := Lib.hid hr
        have HJ : Hid (jumpP xs x.prio (ea, es) = if y.kind = 0 then none else some ((m : Int), wrap64 (wrap64 (y.prio + o) - x.prio))) := by
          show _ = _
          unfold jumpP
          rw [hr]
          simp only [nodeAt_nat, hy]
          by_cases hy0 : y.kind = 0
          · simp [actB, hy0]
          · simp [actB, hy0, hk5]
        clear hx hr hy hcl2 hf ht hx2 hk5 hm
        by_cases hy0 : y.kind = 0
        · have HR2 : Hid (jumpA xs (f : Int) (ea, es) = (0, false)) := show _ = _ by rw [HR.out, HJ.out, if_pos hy0]
          rw [hy0] at m0
          clear hy0
          go_enter Try.func51, Try.ntmps51
          go_wp2_with (first | (go_at_call 49; go_must (refine (refCheck_any xs _ _ (HT.out.keep (.alloc _ _)) (by have := HL.out; omega)).mono ?_; rw [HC.out]; rintro e w1 ⟨rfl, hg1⟩; have HG1 := Lib.hid (only_trans (only_alloc (only_refl _ _) _) hg1); have d0 := (Blk.new w 43 (edCells (ea, es))).kept hg1; have d1 : w1.cell? ⟨w.heap.size, 0, none⟩ = some (.int .i64 ea) := d0.cell 0; have d2 : w1.cell? ⟨w.heap.size, 1, none⟩ = some (.int .i64 es) := d0.cell 1; have hbe := d0.lt; clear hg1 d0)) | (go_at_call 31; go_must (refine (orefRes_any xs _ (ea, es) _ (HT.out.keep (.grown HG1.out)) (by have := HL.out; omega)).mono ?_; rw [HQ.out]; rintro e w2 ⟨rfl, hg2⟩; have HG2 := Lib.hid (only_trans HG1.out hg2); have a0 := Keeps.grown HG2.out _ _ m0; have a1 := Keeps.grown HG2.out _ _ m1; have a2 := Keeps.grown HG2.out _ _ n1; have hb2 := cell_lt a0; clear hg2)))
          go_ret2
          exact ⟨by rw [HR2.out]; rfl, only_alloc HG2.out _⟩
        · have HR2 : Hid (jumpA xs (f : Int) (ea, es) = (wrap64 (wrap64 (y.prio + o) - x.prio), true)) := show _ = _ by rw [HR.out, HJ.out, if_neg hy0]
          go_enter Try.func51, Try.ntmps51
          go_wp2_with (first | (go_at_call 49; go_must (refine (refCheck_any xs _ _ (HT.out.keep (.alloc _ _)) (by have := HL.out; omega)).mono ?_; rw [HC.out]; rintro e w1 ⟨rfl, hg1⟩; have HG1 := Lib.hid (only_trans (only_alloc (only_refl _ _) _) hg1); have d0 := (Blk.new w 43 (edCells (ea, es))).kept hg1; have d1 : w1.cell? ⟨w.heap.size, 0, none⟩ = some (.int .i64 ea) := d0.cell 0; have d2 : w1.cell? ⟨w.heap.size, 1, none⟩ = some (.int .i64 es) := d0.cell 1; have hbe := d0.lt; clear hg1 d0)) | (go_at_call 31; go_must (refine (orefRes_any xs _ (ea, es) _ (HT.out.keep (.grown HG1.out)) (by have := HL.out; omega)).mono ?_; rw [HQ.out]; rintro e w2 ⟨rfl, hg2⟩; have HG2 := Lib.hid (only_trans HG1.out hg2); have a0 := Keeps.grown HG2.out _ _ m0; have a1 := Keeps.grown HG2.out _ _ m1; have a2 := Keeps.grown HG2.out _ _ n1; have hb2 := cell_lt a0; clear hg2)))
          have hbx := Blk.drew (Blk.new w2 35 (edCells ((m : Int), o)))
          have k2 := (Keeps.alloc w2 (.cells (edCells ((m : Int), o)) 35)).drew
          go_region_held3 (fun w' => w'.cell? ⟨w2.heap.size, 0, none⟩ = some (.int .i64 (m : Int)) ∧ w'.cell? ⟨w2.heap.size, 1, none⟩ = some (.int .i64 o) ∧ w'.cell? ⟨b, off + f * 6 + 1, none⟩ = some (.int .i64 x.prio) ∧ w'.cell? ⟨b, off + m * 6 + 1, none⟩ = some (.int .i64 y.prio)) (exact ⟨hbx.cell 0, hbx.cell 1, k2 _ _ a2, k2 _ _ a1⟩) (fail)
          all_goals go_wp2
          all_goals go_ret2
          all_goals exact ⟨by rw [HR2.out, ← IntWalk.i64_left, ← IntWalk.i64_left]; rfl, only_drew (only_alloc HG2.out _)⟩
  · have HR : Hid (jumpA xs fr (ea, es) = (0, false)) := jumpA_1 hc
    have hc' : ((checkL xs).2 == 0) = false := beq_eq_false_iff_ne.2 hc
    go_enter Try.func51, Try.ntmps51
    go_wp2_with (go_at_call 49; go_must (refine (refCheck_any xs _ _ (HT.out.keep (.alloc _ _)) (by have := HL.out; omega)).mono ?_; rintro e w1 ⟨rfl, hg1⟩; have HG1 := Lib.hid (only_trans (only_alloc (only_refl _ _) _) hg1); clear hg1))
    go_ret2
    exact ⟨by rw [HR.out]; rfl, HG1.out⟩
end Go.Proofs.Ytepjkoegbehojaa

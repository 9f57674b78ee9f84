/- order: Jump; and the document's own Jump. -/
import Derived.Test.YtablbgfleopbfaaOChk
namespace Go.Proofs.Ytablbgfleopbfaa
open Go.RowKit Go.Shelf

theorem OKT.node {xs : List Nd} (hk : OKT xs) {e : Ed} (h : nodeB xs.length e.1 = true) (h0 : -9223372036854775808 ≤ e.2) (h1 : e.2 ≤ 9223372036854775807) : ∃ (m : Nat) (y : Nd) (o : Int), resolveL xs e = ((m : Int), o) ∧ xs[m]? = some y ∧ y.kind ≠ 5 := by
  obtain ⟨a0, a1⟩ := nodeB_true.1 h
  obtain ⟨m, y, s, hy, hk5, hs0, hs1, hm, hr⟩ := hk.goal a0 a1
  have hr0 : resolveL xs (e.1, 0) = ((m : Int), s) := by rw [hr 0 (by omega) (by omega), Int.add_zero]
  have := resolve_shift (xs := xs) (t := (e.1, 0)) (a := ((m : Int), s)) e.2 hr0 (nodeAt_nat.trans hy)
  simp only [Int.zero_add] at this
  rw [wrap_in h0 h1] at this
  exact ⟨m, y, _, this, hy, hk5⟩
abbrev pairB (p : Int × Bool) : Value := .tuple #[.int .i64 p.1, .bool p.2]
theorem jumpA_1 {xs : List Nd} {fr : Int} {e : Ed} (h : (checkL xs).2 ≠ 0) : jumpA xs fr e = (0, false) := by unfold jumpA; rw [if_neg (fun a => h a.1)]
theorem jumpA_2 {xs : List Nd} {fr : Int} {e : Ed} (h : nodeB xs.length fr = false) : jumpA xs fr e = (0, false) := by
  unfold jumpA
  split
  · cases hn : nodeAt xs fr with
    | none => rfl
    | some x => have := nodeAt_some hn; rw [nodeB_true.2 ⟨this.1, this.2.1⟩] at h; cases h
  · rfl
theorem jumpA_3 {xs : List Nd} {fr : Int} {e : Ed} (h : nodeB xs.length e.1 = false) : jumpA xs fr e = (0, false) := by unfold jumpA; rw [if_neg (fun a => by rw [h] at a; cases a.2)]
theorem jumpA_4 {xs : List Nd} {fr : Int} {e : Ed} {x : Nd} (h : (checkL xs).2 = 0) (h2 : nodeB xs.length e.1 = true) (hx : nodeAt xs fr = some x) : jumpA xs fr e = (match jumpP xs x.prio e with | some (_, r) => (r, true) | none => (0, false)) := by
  unfold jumpA
  rw [if_pos ⟨h, h2⟩, hx]
  rfl

set_option maxRecDepth 100000 in
set_option maxHeartbeats 2000000 in
theorem oJump_any (xs : List Nd) (v : Value) (fr : Int) (e : Ed) (w : World) (hT : Tbl w v xs) (hxs : xs.length ≤ 1000) (h0 : -9223372036854775808 ≤ e.2) (h1 : e.2 ≤ 9223372036854775807) :
    Calls Try.prog 11 #[v, .int .i64 fr, edV e] w fun en w' => en = .returned (pairB (jumpA xs fr e)) ∧ w.grownBy w' none := by
  have HT := Lib.hid hT
  have HL := Lib.hid hxs
  have HE : Hid (-9223372036854775808 ≤ e.2 ∧ e.2 ≤ 9223372036854775807) := ⟨h0, h1⟩
  clear h0 h1
  obtain ⟨A, cap, rfl, hcl⟩ := hT
  clear hcl hxs
  obtain ⟨ea, es⟩ := e
  dsimp only at HE
  by_cases hc : (checkL xs).2 = 0
  · have HC := Lib.hid (okt_check hc)
    have HK := Lib.hid (okt_of hc)
    have HC0 := Lib.hid hc
    clear hc
    cases hf : nodeB xs.length fr
    · have HR : Hid (jumpA xs fr (ea, es) = (0, false)) := jumpA_2 hf
      have HF := Lib.hid hf
      go_enter Try.func11, Try.ntmps11
      go_wp2_with (first | (go_at_call 18; go_must (refine (check_any xs _ _ (HT.out.keep (.alloc _ _)) (by have := HL.out; omega)).mono ?_; rw [HC.out]; rintro e w1 ⟨rfl, hg1⟩; have HG1 := Lib.hid (only_trans (only_alloc (only_refl _ _) _) hg1); have d0 := (Blk.new w 24 (edCells (ea, es))).kept hg1; have d1 : w1.cell? ⟨w.heap.size, 0, none⟩ = some (.int .i64 ea) := d0.cell 0; have d2 : w1.cell? ⟨w.heap.size, 1, none⟩ = some (.int .i64 es) := d0.cell 1; clear hg1 d0)) | (go_at_call 24; go_must (refine (oisNode_any _ _ _ _ _).mono ?_; rintro e w2 ⟨rfl, rfl⟩)))
      go_ret2
      exact ⟨by rw [HR.out]; rfl, HG1.out⟩
    · obtain ⟨x, hx, _⟩ := nodeAt_of hf
      have HX := Lib.hid hx
      cases ht : nodeB xs.length ea
      · have HR : Hid (jumpA xs fr (ea, es) = (0, false)) := jumpA_3 ht
        clear hx
        go_enter Try.func11, Try.ntmps11
        go_wp2_with (first | (go_at_call 18; go_must (refine (check_any xs _ _ (HT.out.keep (.alloc _ _)) (by have := HL.out; omega)).mono ?_; rw [HC.out]; rintro e w1 ⟨rfl, hg1⟩; have HG1 := Lib.hid (only_trans (only_alloc (only_refl _ _) _) hg1); have d0 := (Blk.new w 24 (edCells (ea, es))).kept hg1; have d1 : w1.cell? ⟨w.heap.size, 0, none⟩ = some (.int .i64 ea) := d0.cell 0; have d2 : w1.cell? ⟨w.heap.size, 1, none⟩ = some (.int .i64 es) := d0.cell 1; clear hg1 d0)) | (go_at_call 24; go_must (refine (oisNode_any _ _ _ _ _).mono ?_; rintro e w2 ⟨rfl, rfl⟩)))
        go_ret2
        exact ⟨by rw [HR.out]; rfl, HG1.out⟩
      · have HR : Hid (jumpA xs fr (ea, es) = _) := jumpA_4 HC0.out ht hx
        obtain ⟨m, y, o, hr, hy, _⟩ := HK.out.node (e := (ea, es)) ht HE.out.1 HE.out.2
        have HY : Hid (nodeAt xs (resolveL xs (ea, es)).1 = some y) := show _ = _ by rw [hr]; exact nodeAt_nat.trans hy
        clear hx hr hy
        cases hj : jumpP xs x.prio (ea, es) with
        | none =>
          have HJ := Lib.hid hj
          have HR2 : Hid (jumpA xs fr (ea, es) = (0, false)) := show _ = _ by rw [HR.out, hj]
          clear hj
          go_enter Try.func11, Try.ntmps11
          go_wp2_with (first | (go_at_call 18; go_must (refine (check_any xs _ _ (HT.out.keep (.alloc _ _)) (by have := HL.out; omega)).mono ?_; rw [HC.out]; rintro e w1 ⟨rfl, hg1⟩; have HG1 := Lib.hid (only_trans (only_alloc (only_refl _ _) _) hg1); have d0 := (Blk.new w 24 (edCells (ea, es))).kept hg1; have d1 : w1.cell? ⟨w.heap.size, 0, none⟩ = some (.int .i64 ea) := d0.cell 0; have d2 : w1.cell? ⟨w.heap.size, 1, none⟩ = some (.int .i64 es) := d0.cell 1; clear hg1 d0)) | (go_at_call 24; go_must (refine (oisNode_any _ _ _ _ _).mono ?_; rintro e w2 ⟨rfl, rfl⟩)) | (go_at_call 25; go_must (refine (ojump_any xs _ fr (ea, es) x y _ (HT.out.keep (.grown HG1.out)) HL.out HX.out HY.out).mono ?_; rw [HJ.out]; rintro e w3 ⟨rfl, hg3⟩; have HG3 := Lib.hid (only_trans HG1.out hg3); clear hg3)))
          go_ret2
          exact ⟨by rw [HR2.out]; rfl, HG3.out⟩
        | some q =>
          obtain ⟨t, r⟩ := q
          have HJ := Lib.hid hj
          have HR2 : Hid (jumpA xs fr (ea, es) = (r, true)) := show _ = _ by rw [HR.out, hj]
          clear hj
          go_enter Try.func11, Try.ntmps11
          go_wp2_with (first | (go_at_call 18; go_must (refine (check_any xs _ _ (HT.out.keep (.alloc _ _)) (by have := HL.out; omega)).mono ?_; rw [HC.out]; rintro e w1 ⟨rfl, hg1⟩; have HG1 := Lib.hid (only_trans (only_alloc (only_refl _ _) _) hg1); have d0 := (Blk.new w 24 (edCells (ea, es))).kept hg1; have d1 : w1.cell? ⟨w.heap.size, 0, none⟩ = some (.int .i64 ea) := d0.cell 0; have d2 : w1.cell? ⟨w.heap.size, 1, none⟩ = some (.int .i64 es) := d0.cell 1; clear hg1 d0)) | (go_at_call 24; go_must (refine (oisNode_any _ _ _ _ _).mono ?_; rintro e w2 ⟨rfl, rfl⟩)) | (go_at_call 25; go_must (refine (ojump_any xs _ fr (ea, es) x y _ (HT.out.keep (.grown HG1.out)) HL.out HX.out HY.out).mono ?_; rw [HJ.out]; rintro e w3 ⟨rfl, hg3⟩; have HG3 := Lib.hid (only_trans HG1.out hg3); clear hg3)))
          go_ret2
          exact ⟨by rw [HR2.out]; rfl, HG3.out⟩
  · have HR : Hid (jumpA xs fr (ea, es) = (0, false)) := jumpA_1 hc
    have hc' : ((checkL xs).2 == 0) = false := beq_eq_false_iff_ne.2 hc
    go_enter Try.func11, Try.ntmps11
    go_wp2_with (go_at_call 18; go_must (refine (check_any xs _ _ (HT.out.keep (.alloc _ _)) (by have := HL.out; omega)).mono ?_; rintro e w1 ⟨rfl, hg1⟩; have HG1 := Lib.hid (only_trans (only_alloc (only_refl _ _) _) hg1); clear hg1))
    go_ret2
    exact ⟨by rw [HR.out]; rfl, HG1.out⟩

end Go.Proofs.Ytablbgfleopbfaa

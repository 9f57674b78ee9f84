/- Texts joined for the claim's sake: SExa, SWks. -/
import Derived.Test.YtmhbmeckdbdhpaaZSAddRow48
import Derived.Test.YtmhbmeckdbdhpaaZSAddRow43
import Derived.Test.YtmhbmeckdbdhpaaZSAddRow45
import Derived.Test.YtmhbmeckdbdhpaaZSAddRow50
namespace Go.Proofs.Ytmhbmeckdbdhpaa
open Go.RowKit Go.Shelf

abbrev exN13 : List Nd := [⟨1, 3, false, (0, 0), [(1, 0)]⟩, ⟨0, 0, false, (0, 0), []⟩]
abbrev exP13 : List Prm := [⟨false, (0, 0)⟩, ⟨true, (0, 4)⟩, ⟨true, (1, 0)⟩]
abbrev exS13 : List Slt := [⟨1, 0, 0⟩, ⟨2, 0, 7⟩, ⟨2, 1, 0⟩]
abbrev NL : Value := .slice none 0 0
/-- The example's rows in memory. -/
structure ExB (W : World) (be bn bp bt : Nat) : Prop where
  e : Blk W be 67 #[.int .i64 1, .int .i64 0]
  n : Blk W bn 70 #[.int .i64 1, .int .i64 3, .bool false, .int .i64 0, .int .i64 0, .slice (some ⟨be, 0, none⟩) 1 1, .int .i64 0, .int .i64 0, .bool false, .int .i64 0, .int .i64 0, NL]
  p : Blk W bp 61 #[.bool false, .int .i64 0, .int .i64 0, .bool true, .int .i64 0, .int .i64 4, .bool true, .int .i64 1, .int .i64 0]
  t : Blk W bt 65 #[.slice (some ⟨bp, 0, none⟩) 3 3, NL, NL]
theorem ExB.kept {W W' : World} {be bn bp bt : Nat} (h : ExB W be bn bp bt) (hg : W.grownBy W' none) : ExB W' be bn bp bt := ⟨h.e.kept hg, h.n.kept hg, h.p.kept hg, h.t.kept hg⟩
abbrev exV (bn bt : Nat) : Value := .agg #[.slice (some ⟨bn, 0, none⟩) 2 2, .slice (some ⟨bt, 0, none⟩) 1 1, NL, NL, NL, NL, NL, NL]
theorem nodes_tbl {W : World} {bn be : Nat} {e : Ed} (hn : Blk W bn 70 #[.int .i64 1, .int .i64 3, .bool false, .int .i64 0, .int .i64 0, .slice (some ⟨be, 0, none⟩) 1 1, .int .i64 0, .int .i64 0, .bool false, .int .i64 0, .int .i64 0, NL])
    (he : Blk W be 67 #[.int .i64 e.1, .int .i64 e.2]) : Tbl W (.slice (some ⟨bn, 0, none⟩) 2 2) [⟨1, 3, false, (0, 0), [e]⟩, ⟨0, 0, false, (0, 0), []⟩] := by
  refine ⟨_, 2, rfl, fun _ => ⟨bn, 0, rfl, fun i x hx => ?_⟩⟩
  match i, hx with
  | 0, hx =>
    cases hx
    refine ⟨_, ⟨_, 1, rfl, by simp, fun _ => ⟨be, 0, rfl, fun i x hx => ?_⟩⟩, hn.cell 0, hn.cell 1, hn.cell 2, hn.cell 3, hn.cell 4, hn.cell 5⟩
    match i, hx with
    | 0, hx => cases hx; exact ⟨he.cell 0, he.cell 1⟩
    | i + 1, hx => simp at hx
  | 1, hx =>
    cases hx
    exact ⟨_, Edges.nil_ _, hn.cell 6, hn.cell 7, hn.cell 8, hn.cell 9, hn.cell 10, hn.cell 11⟩
  | i + 2, hx => simp at hx
theorem tpl_one {W : World} {bt : Nat} {pv : Value} {ps : List Prm} (ht : Blk W bt 65 #[pv, NL, NL]) (hp : PrmsV W pv ps) : TplsV W (.slice (some ⟨bt, 0, none⟩) 1 1) [ps] := by
  refine ⟨_, 1, rfl, by simp, by simp, fun _ => ⟨bt, 0, rfl, fun i x hx => ?_⟩⟩
  match i, hx with
  | 0, hx => cases hx; exact ⟨pv, none, 0, 0, none, 0, 0, hp, ht.cell 0, ht.cell 1, ht.cell 2⟩
  | i + 1, hx => simp at hx
theorem prm_three {W : World} {bp : Nat} {x : Ed} (hx : -9223372036854775808 ≤ x.1 ∧ x.1 ≤ 9223372036854775807) (hp : Blk W bp 61 #[.bool false, .int .i64 0, .int .i64 0, .bool true, .int .i64 x.1, .int .i64 x.2, .bool true, .int .i64 1, .int .i64 0]) : PrmsV W (.slice (some ⟨bp, 0, none⟩) 3 3) [⟨false, (0, 0)⟩, ⟨true, x⟩, ⟨true, (1, 0)⟩] := by
  refine ⟨_, 3, rfl, by simp, by simp, fun _ => ⟨bp, 0, rfl, fun i q hq => ?_⟩⟩
  match i, hq with
  | 0, hq => cases hq; exact ⟨by unfold Prm.Fit; decide, hp.cell 0, hp.cell 1, hp.cell 2⟩
  | 1, hq => cases hq; exact ⟨hx, hp.cell 3, hp.cell 4, hp.cell 5⟩
  | 2, hq => cases hq; exact ⟨by unfold Prm.Fit; decide, hp.cell 6, hp.cell 7, hp.cell 8⟩
  | i + 3, hq => simp at hq
theorem ExB.tbl {W : World} {be bn bp bt : Nat} (h : ExB W be bn bp bt) : Tbl W (.slice (some ⟨bn, 0, none⟩) 2 2) exN13 := nodes_tbl (e := (1, 0)) h.n h.e
theorem ExB.tpl {W : World} {be bn bp bt : Nat} (h : ExB W be bn bp bt) : TplsV W (.slice (some ⟨bt, 0, none⟩) 1 1) [exP13] := tpl_one h.t (prm_three (x := (0, 4)) (by decide) h.p)
set_option maxRecDepth 100000 in
set_option maxHeartbeats 2000000 in
theorem example_any (w : World) : Calls Try.prog 21 #[] w fun e w' => ∃ be bn bp bt, e = .returned (exV bn bt) ∧ ExB w' be bn bp bt ∧ w.grownBy w' none ∧ w.heap.size ≤ be ∧ be < bn ∧ bn < bp ∧ bp < bt := by
  go_enter Try.func21, Try.ntmps21
  go_wp2_with fail
  refine bodyPost_ret (results_cell_row (p := 0) (ty := 28) rfl _ _ w.heap.size 28 _ _ _ rfl ((((Blk.new _ _ _).alloc _).alloc _).alloc _ |>.alloc _) Try.underlying28 rfl mod_info) rfl
    ⟨w.heap.size + 1, w.heap.size + 1 + 1, w.heap.size + 1 + 1 + 1, w.heap.size + 1 + 1 + 1 + 1, rfl, ⟨?_, ?_, ?_, ?_⟩, only_alloc (only_alloc (only_alloc (only_alloc (only_alloc (only_refl _ _) _) _) _) _) _, by omega, by omega, by omega, by omega⟩
  · exact (((blk_at (by simp) _ _).alloc _).alloc _).alloc _
  · exact ((blk_at (by simp) _ _).alloc _).alloc _
  · exact (blk_at (by simp) _ _).alloc _
  · exact blk_at (by simp) _ _
theorem ex_facts : factsA exN13 [exP13] = (0, clsT exN13, [exS13]) := by kernel_rfl
theorem ex_entry : entryA (clsT exN13).cls [exS13] 0 = ⟨7, 0, pad16 exS13⟩ := by kernel_rfl
end Go.Proofs.Ytmhbmeckdbdhpaa

namespace Go.Proofs.Ytmhbmeckdbdhpaa
open Go.RowKit Go.Shelf

theorem pars_shape {W : World} {v : Value} {ps : List (List Slt)} (h : ParsV W v ps) : ∃ A n c, v = .slice A n c := by
  obtain ⟨A, c, rfl, _⟩ := h
  exact ⟨_, _, _, rfl⟩
theorem fac_shape {W : World} {v : Value} {T : ClsT} {ps : List (List Slt)} (h : FacV W v T ps) : ∃ A1 n1 c1 A2 n2 c2 A3 n3 c3 A4 n4 c4, v = .agg #[.slice A1 n1 c1, .slice A2 n2 c2, .slice A3 n3 c3, .slice A4 n4 c4] := by
  obtain ⟨vc, vo, vp, vq, rfl, hT, hP⟩ := h
  obtain ⟨A1, n1, c1, A2, n2, c2, A3, n3, c3, e⟩ := tabv_shape hT
  obtain ⟨A4, n4, c4, rfl⟩ := pars_shape hP
  simp only [Value.agg.injEq, Array.mk.injEq, List.cons.injEq, and_true] at e
  obtain ⟨rfl, rfl, rfl⟩ := e
  exact ⟨_, _, _, _, _, _, _, _, _, _, _, _, rfl⟩
theorem ex_cls : (clsT exN13).cls.length ≤ 1000000 := (wf_clsT exN13).small.1
abbrev sv0 : StT := ⟨7, 0, List.replicate 16 zeroS⟩
abbrev sv1 : StT := ⟨7, 0, ⟨1, 0, 0⟩ :: List.replicate 15 zeroS⟩
abbrev sv2 : StT := ⟨7, 0, ⟨1, 0, 0⟩ :: ⟨2, 0, 7⟩ :: List.replicate 14 zeroS⟩
abbrev svE : StT := ⟨7, 0, ⟨1, 0, 0⟩ :: ⟨2, 0, 7⟩ :: ⟨2, 1, 0⟩ :: List.replicate 13 zeroS⟩
abbrev svF0 : StT := ⟨9, 0, ⟨1, 0, 0⟩ :: ⟨2, 0, 7⟩ :: ⟨2, 1, 0⟩ :: List.replicate 13 zeroS⟩
abbrev svF : StT := ⟨9, 0, ⟨1, 0, 0⟩ :: ⟨2, 0, 9⟩ :: ⟨2, 1, 0⟩ :: List.replicate 13 zeroS⟩
abbrev svW : StT := ⟨7, 0, ⟨1, 0, 0⟩ :: ⟨2, 0, 7⟩ :: ⟨2, 1, 0⟩ :: ⟨1, 0, 0⟩ :: List.replicate 12 zeroS⟩
abbrev sv5 : StT := ⟨5, 0, List.replicate 16 zeroS⟩
theorem ex_entry2 : entryA (clsT exN13).cls [exS13] 0 = svE := ex_entry
theorem ex_s1 : shiftA (clsT exN13).cls svE svF = (2, true) := by kernel_rfl
theorem ex_s2 : shiftA (clsT exN13).cls svE svF0 = (0, false) := by kernel_rfl
theorem ex_s3 : shiftA (clsT exN13).cls svE svW = (0, false) := by kernel_rfl
theorem ex_r5 : raiseA (clsT exN13).cls sv5 = sv5 := by kernel_rfl
theorem st_set {W : World} {g : Nat} {s s' : StT} (h : StB W g s) (k : Nat) (u : Value) (e : (stC s).setIfInBounds k u = stC s') : StB (W.setCell ⟨g, k, none⟩ u) g s' := by
  have := h.set_ k u
  rwa [e] at this
theorem es_1 : decide (svE = svE) = true := decide_eq_true rfl
theorem es_2 : decide (svE = svF) = false := by kernel_rfl
theorem es_5 : decide (sv5 = sv5) = true := decide_eq_true rfl
/-- What stands: facts, in a box; states, in boxes. -/
structure WkS (wF : World) (b1 : Nat) (cs : Array Value) (l : List (Nat × StT)) (W : World) : Prop where
  gr : wF.grownBy W none
  bf : Blk W b1 35 cs
  st : ∀ p ∈ l, wF.heap.size ≤ p.1 ∧ StB W p.1 p.2
theorem WkS.kept {wF W W' : World} {b1 : Nat} {cs : Array Value} {l : List (Nat × StT)} (h : WkS wF b1 cs l W) (hg : W.grownBy W' none) : WkS wF b1 cs l W' := ⟨only_trans h.gr hg, h.bf.kept hg, fun p hp => ⟨(h.st p hp).1, (h.st p hp).2.kept hg⟩⟩
theorem WkS.put {wF W W' : World} {b1 g : Nat} {cs : Array Value} {l : List (Nat × StT)} {s : StT} (h : WkS wF b1 cs l W) (hg : W.grownBy W' (some g)) (hF : wF.heap.size ≤ g) (hne : b1 ≠ g) (hs : StB W' g s) (hl : ∀ p ∈ l, p.1 ≠ g) : WkS wF b1 cs ((g, s) :: l) W' := by
  refine ⟨only_new h.gr hg hF, h.bf.grown hg (fun e => hne (by injection e)), fun p hp => ?_⟩
  rcases List.mem_cons.1 hp with rfl | hp
  · exact ⟨hF, hs⟩
  · exact ⟨(h.st p hp).1, (h.st p hp).2.grown hg (fun e => hl p hp (by injection e))⟩
theorem WkS.sub {wF W : World} {b1 : Nat} {cs : Array Value} {l l' : List (Nat × StT)} (h : WkS wF b1 cs l W) (hl : ∀ p ∈ l', p ∈ l) : WkS wF b1 cs l' W := ⟨h.gr, h.bf, fun p hp => h.st p (hl p hp)⟩
theorem WkS.new {wF W : World} {b1 : Nat} {cs : Array Value} {l : List (Nat × StT)} (h : WkS wF b1 cs l W) (s : StT) : WkS wF b1 cs ((W.heap.size, s) :: l) ((W.alloc (.cells (stC zeroT) 45)).setRow W.heap.size (stC s)) := by
  have hg : W.grownBy ((W.alloc (.cells (stC zeroT) 45)).setRow W.heap.size (stC s)) none := only_new (only_alloc (only_refl _ _) _) (only_rowM _ _ _) (Nat.le_refl _)
  have h2 := h.kept hg
  refine ⟨h2.gr, h2.bf, fun p hp => ?_⟩
  rcases List.mem_cons.1 hp with rfl | hp
  · exact ⟨h.gr.size, Blk.rowM (Blk.new W 45 (stC zeroT)) _⟩
  · exact h2.st p hp
theorem WkS.slot {wF W : World} {b1 g : Nat} {cs : Array Value} {l : List (Nat × StT)} {s : StT} (h : WkS wF b1 cs l W) (hs : StB W g s) (hF : wF.heap.size ≤ g) (hne : b1 ≠ g) (hl : ∀ p ∈ l, p.1 ≠ g) {i : Nat} (hi : i < s.regs.length) (k c p : Int) (s' : StT) (e : ({ s with regs := s.regs.set i ⟨k, c, p⟩ } : StT) = s') :
    WkS wF b1 cs ((g, s') :: l) (((W.setCell ⟨g, 2 + i * 3, none⟩ (.int .i64 k)).setCell ⟨g, 2 + i * 3 + 1, none⟩ (.int .i64 c)).setCell ⟨g, 2 + i * 3 + 2, none⟩ (.int .i64 p)) := by
  have h1 := StB.setSlot hs hi k c p
  rw [e] at h1
  have g1 : W.grownBy (W.setCell ⟨g, 2 + i * 3, none⟩ (.int .i64 k)) (some g) := only_setCell (only_refl _ _) rfl _
  have g2 : W.grownBy ((W.setCell ⟨g, 2 + i * 3, none⟩ (.int .i64 k)).setCell ⟨g, 2 + i * 3 + 1, none⟩ (.int .i64 c)) (some g) := only_setCell g1 rfl _
  have g3 : W.grownBy (((W.setCell ⟨g, 2 + i * 3, none⟩ (.int .i64 k)).setCell ⟨g, 2 + i * 3 + 1, none⟩ (.int .i64 c)).setCell ⟨g, 2 + i * 3 + 2, none⟩ (.int .i64 p)) (some g) := only_setCell g2 rfl _
  exact h.put g3 hF hne h1 hl
theorem WkS.cell {wF W : World} {b1 g : Nat} {cs : Array Value} {l : List (Nat × StT)} {s : StT} (h : WkS wF b1 cs l W) (hs : StB W g s) (hF : wF.heap.size ≤ g) (hne : b1 ≠ g) (hl : ∀ p ∈ l, p.1 ≠ g) (k : Nat) (u : Value) (s' : StT) (e : (stC s).setIfInBounds k u = stC s') : WkS wF b1 cs ((g, s') :: l) (W.setCell ⟨g, k, none⟩ u) :=
  h.put (only_setCell (only_refl _ _) rfl _) hF hne (st_set hs k u e) hl
set_option maxRecDepth 100000 in
set_option maxHeartbeats 4000000 in
theorem works_any (w : World) : Calls Try.prog 13 #[] w fun e w' => e = .returned (.bool true) ∧ w.grownBy w' none := by
  go_enter Try.func13, Try.ntmps13
  go_upto_region 4 with (first
    | (go_at_call 21; go_must (refine (example_any _).mono ?_; rintro e w1 ⟨be, bn, bp, bt, rfl, hx, hg, _⟩; have HX := Lib.hid hx; have HG1 := Lib.hid hg; clear hx hg))
    | (go_at_call 7; go_must (refine (sfacts_any exN13 [exP13] (.slice (some ⟨bn, 0, none⟩) 2 2) (.slice (some ⟨bt, 0, none⟩) 1 1) NL NL NL NL NL NL _ HX.out.tbl HX.out.tpl (by decide) (by decide) (by decide)).mono ?_; rw [ex_facts]; rintro e w2 ⟨⟨fv, rfl, hf⟩, hg⟩; have HF := Lib.hid hf; have HG2 := Lib.hid (only_trans HG1.out hg); obtain ⟨A1, n1, c1, A2, n2, c2, A3, n3, c3, A4, n4, c4, rfl⟩ := fac_shape hf; clear hf hg))
    | fail)
  obtain ⟨W3, hW3⟩ : ∃ W3, w2.alloc (.cells #[.slice A1 n1 c1, .slice A2 n2 c2, .slice A3 n3 c3, .slice A4 n4 c4] 35) = W3 := ⟨_, rfl⟩
  obtain ⟨b1, hb1⟩ : ∃ b1, w2.heap.size = b1 := ⟨_, rfl⟩
  have HI3 : Hid (WkS w2 b1 #[.slice A1 n1 c1, .slice A2 n2 c2, .slice A3 n3 c3, .slice A4 n4 c4] [] W3) := Lib.hid ⟨by rw [← hW3]; exact only_alloc (only_refl _ _) _, by rw [← hW3, ← hb1]; exact Blk.new _ _ _, fun p hp => by cases hp⟩
  have HB1 : Hid (w2.heap.size = b1 ∧ W3.heap.size = b1 + 1) := Lib.hid ⟨hb1, by rw [← hW3, ← hb1]; simp⟩
  rw [hW3, hb1]
  clear hW3 hb1 HX HG1
  refine wp_region_lit ?_
  refine wpList_build_st rfl _ rfl sv0 (by kernel_rfl) ?_
  refine wpList_alloc_st rfl rfl ?_
  refine wpList_store_st (s := sv0) (s0 := zeroT) rfl (.tmp 3) (.tmp 21) rfl rfl rfl rfl rfl (Blk.new _ _ _) ?_
  simp only [Act.put, List.setIfInBounds_toArray, List.set_cons_zero, List.set_cons_succ]
  have hi := HI3.out.new sv0
  rw [HB1.out.2] at hi ⊢
  have HI4 := Lib.hid hi
  clear hi HI3
  generalize ((W3.alloc (.cells (stC zeroT) 45)).setRow (b1 + 1) (stC sv0)) = W4 at *
  have hst : StB W4 (b1 + 1) sv0 := (HI4.out.st (b1 + 1, sv0) List.mem_cons_self).2
  have d0 : W4.cell? ⟨b1 + 1, 2, none⟩ = some (.int .i64 0) := hst.cell 2
  have d1 : W4.cell? ⟨b1 + 1, 3, none⟩ = some (.int .i64 0) := hst.cell 3
  have d2 : W4.cell? ⟨b1 + 1, 4, none⟩ = some (.int .i64 0) := hst.cell 4
  have e0 := hst.frozen 2
  have e1 := hst.frozen 3
  have e2 := hst.frozen 4
  have HI5 := Lib.hid (WkS.slot (HI4.out.sub (l' := []) (fun p hp => by cases hp)) hst (by have := HB1.out.1; omega) (by omega) (fun p hp => by cases hp) (i := 0) (by decide) 1 0 0 sv1 rfl)
  clear hst
  go_upto_region 6 with fail
  clear d0 d1 d2 e0 e1 e2 HI4
  generalize (World.setCell _ _ _) = W5 at *
  have hst : StB W5 (b1 + 1) sv1 := (HI5.out.st (b1 + 1, sv1) List.mem_cons_self).2
  have d0 : W5.cell? ⟨b1 + 1, 5, none⟩ = some (.int .i64 0) := hst.cell 5
  have d1 : W5.cell? ⟨b1 + 1, 6, none⟩ = some (.int .i64 0) := hst.cell 6
  have d2 : W5.cell? ⟨b1 + 1, 7, none⟩ = some (.int .i64 0) := hst.cell 7
  have e0 := hst.frozen 5
  have e1 := hst.frozen 6
  have e2 := hst.frozen 7
  have HI6 := Lib.hid (WkS.slot (HI5.out.sub (l' := []) (fun p hp => by cases hp)) hst (by have := HB1.out.1; omega) (by omega) (fun p hp => by cases hp) (i := 1) (by decide) 2 0 7 sv2 rfl)
  clear hst
  go_upto_region 7 with fail
  clear d0 d1 d2 e0 e1 e2 HI5
  generalize (World.setCell _ _ _) = W6 at *
  have hst : StB W6 (b1 + 1) sv2 := (HI6.out.st (b1 + 1, sv2) List.mem_cons_self).2
  have d0 : W6.cell? ⟨b1 + 1, 8, none⟩ = some (.int .i64 0) := hst.cell 8
  have d1 : W6.cell? ⟨b1 + 1, 9, none⟩ = some (.int .i64 0) := hst.cell 9
  have d2 : W6.cell? ⟨b1 + 1, 10, none⟩ = some (.int .i64 0) := hst.cell 10
  have e0 := hst.frozen 8
  have e1 := hst.frozen 9
  have e2 := hst.frozen 10
  have HI7 := Lib.hid (WkS.slot (HI6.out.sub (l' := []) (fun p hp => by cases hp)) hst (by have := HB1.out.1; omega) (by omega) (fun p hp => by cases hp) (i := 2) (by decide) 2 1 0 svE rfl)
  clear hst
  go_upto_region 8 with fail
  clear d0 d1 d2 e0 e1 e2 HI6
  generalize (World.setCell _ _ _) = W7 at *
  have x0 : W7.cell? ⟨b1, 0, none⟩ = some (.slice A1 n1 c1) := HI7.out.bf.cell 0
  have x1 : W7.cell? ⟨b1, 1, none⟩ = some (.slice A2 n2 c2) := HI7.out.bf.cell 1
  have x2 : W7.cell? ⟨b1, 2, none⟩ = some (.slice A3 n3 c3) := HI7.out.bf.cell 2
  have x3 : W7.cell? ⟨b1, 3, none⟩ = some (.slice A4 n4 c4) := HI7.out.bf.cell 3
  have HF7 := Lib.hid (HF.out.keep (.grown HI7.out.gr))
  go_upto_region 9 with (first
    | (go_at_call 11; go_must (refine (sentry_any (clsT exN13) [exS13] (.agg #[.slice A1 n1 c1, .slice A2 n2 c2, .slice A3 n3 c3, .slice A4 n4 c4]) 0 _ HF7.out ex_cls).mono ?_; rw [ex_entry2]; rintro e W8 ⟨rfl, hg⟩; have HI8 := Lib.hid (HI7.out.kept hg); clear hg))
    | (refine wpList_alloc_st rfl rfl ?_)
    | (refine wpList_store_st (s := svE) (s0 := zeroT) rfl (.tmp 4) (.tmp 32) rfl rfl rfl rfl rfl (Blk.new _ _ _) ?_)
    | fail)
  clear x0 x1 x2 x3 HI7 HF7
  simp only [Act.put, List.setIfInBounds_toArray, List.set_cons_zero, List.set_cons_succ]
  have hi := HI8.out.new svE
  obtain ⟨W9, hW9⟩ : ∃ W9, (W8.alloc (.cells (stC zeroT) 45)).setRow W8.heap.size (stC svE) = W9 := ⟨_, rfl⟩
  obtain ⟨b4, hb4⟩ : ∃ b4, W8.heap.size = b4 := ⟨_, rfl⟩
  have hz9 : b4 < W9.heap.size := by rw [← hW9, ← hb4]; simp [World.setRow]
  have hl4 : b1 + 1 < b4 := by rw [← hb4]; exact (HI8.out.st (b1 + 1, svE) List.mem_cons_self).2.lt
  rw [hW9, hb4] at hi
  rw [hW9, hb4]
  have HI9 := Lib.hid hi
  have H4 := Lib.hid (And.intro hz9 hl4)
  clear hi hW9 hb4 hz9 hl4 HI8
  refine region_three (by kernel_rfl) [33, 34, 35, 5, 6, 7] (by kernel_rfl) (by kernel_rfl) (by decide) 4 33 34 35 5 6 7 b4 svE rfl rfl (by decide) (HI9.out.st (b4, svE) List.mem_cons_self).2 rfl (by decide) _ _ _ _ _ _ _ _ _ rfl ⟨rfl, rfl⟩ ⟨rfl, rfl⟩ ⟨rfl, rfl⟩ ⟨rfl, rfl⟩ ⟨rfl, rfl⟩ ⟨rfl, rfl⟩ ⟨rfl, rfl⟩ ⟨rfl, rfl⟩ ⟨rfl, rfl⟩ fun vs W10 b5 b6 b7 hg e5 e6 e7 n56 n57 n67 l5 l6 l7 s5 s6 s7 => ?_
  simp only [List.foldl_cons, List.foldl_nil, List.setIfInBounds_toArray, List.set_cons_zero, List.set_cons_succ]
  rw [e5, e6, e7]
  have HNE : Hid (b1 + 1 < b4 ∧ b4 < b5 ∧ b4 < b6 ∧ b4 < b7 ∧ b5 ≠ b6 ∧ b5 ≠ b7 ∧ b6 ≠ b7) := Lib.hid (by have := H4.out; omega)
  have hk := HI9.out.kept hg
  have HI10 : Hid (WkS w2 b1 #[.slice A1 n1 c1, .slice A2 n2 c2, .slice A3 n3 c3, .slice A4 n4 c4] [(b5, svE), (b6, svE), (b7, svE), (b1 + 1, svE), (b4, svE)] W10) := Lib.hid ⟨hk.gr, hk.bf, fun p hp => by
    have h1 := HB1.out.1
    have h2 := HNE.out
    simp only [List.mem_cons, List.not_mem_nil, or_false] at hp
    rcases hp with rfl | rfl | rfl | rfl | rfl
    · exact ⟨by dsimp only; omega, s5⟩
    · exact ⟨by dsimp only; omega, s6⟩
    · exact ⟨by dsimp only; omega, s7⟩
    · exact hk.st _ (by simp)
    · exact hk.st _ (by simp)⟩
  clear hk hg e5 e6 e7 n56 n57 n67 l5 l6 l7 s5 s6 s7 HI9 H4
  have hst : StB W10 (b5) svE := (HI10.out.st (b5, svE) (by simp)).2
  have d0 : W10.cell? ⟨b5, 0, none⟩ = some (.int .i64 7) := hst.cell 0
  have e0 := hst.frozen 0
  have HI11 := Lib.hid (WkS.cell (HI10.out.sub (l' := [(b6, svE), (b7, svE), (b1 + 1, svE), (b4, svE)]) (fun p hp => by simp only [List.mem_cons, List.not_mem_nil, or_false] at hp ⊢; rcases hp with rfl | rfl | rfl | rfl <;> simp)) hst (by have h1 := HB1.out.1; have h2 := HNE.out; omega) (by have h1 := HB1.out.1; have h2 := HNE.out; omega) (fun p hp => by have h2 := HNE.out; simp only [List.mem_cons, List.not_mem_nil, or_false] at hp; rcases hp with rfl | rfl | rfl | rfl <;> (dsimp only; omega)) 0 (.int .i64 9) svF0 (by kernel_rfl))
  clear hst
  go_upto_region 11 with fail
  clear d0 e0 HI10
  generalize (World.setCell _ _ _) = W11 at *
  have hst : StB W11 (b5) svF0 := (HI11.out.st (b5, svF0) (by simp)).2
  have d0 : W11.cell? ⟨b5, 7, none⟩ = some (.int .i64 7) := hst.cell 7
  have e0 := hst.frozen 7
  have HI12 := Lib.hid (WkS.cell (HI11.out.sub (l' := [(b6, svE), (b7, svE), (b1 + 1, svE), (b4, svE)]) (fun p hp => by simp only [List.mem_cons, List.not_mem_nil, or_false] at hp ⊢; rcases hp with rfl | rfl | rfl | rfl <;> simp)) hst (by have h1 := HB1.out.1; have h2 := HNE.out; omega) (by have h1 := HB1.out.1; have h2 := HNE.out; omega) (fun p hp => by have h2 := HNE.out; simp only [List.mem_cons, List.not_mem_nil, or_false] at hp; rcases hp with rfl | rfl | rfl | rfl <;> (dsimp only; omega)) 7 (.int .i64 9) svF (by kernel_rfl))
  clear hst
  go_upto_region 12 with fail
  clear d0 e0 HI11
  generalize (World.setCell _ _ _) = W12 at *
  have hst : StB W12 (b6) svE := (HI12.out.st (b6, svE) (by simp)).2
  have d0 : W12.cell? ⟨b6, 0, none⟩ = some (.int .i64 7) := hst.cell 0
  have e0 := hst.frozen 0
  have HI13 := Lib.hid (WkS.cell (HI12.out.sub (l' := [(b5, svF), (b7, svE), (b1 + 1, svE), (b4, svE)]) (fun p hp => by simp only [List.mem_cons, List.not_mem_nil, or_false] at hp ⊢; rcases hp with rfl | rfl | rfl | rfl <;> simp)) hst (by have h1 := HB1.out.1; have h2 := HNE.out; omega) (by have h1 := HB1.out.1; have h2 := HNE.out; omega) (fun p hp => by have h2 := HNE.out; simp only [List.mem_cons, List.not_mem_nil, or_false] at hp; rcases hp with rfl | rfl | rfl | rfl <;> (dsimp only; omega)) 0 (.int .i64 9) svF0 (by kernel_rfl))
  clear hst
  go_upto_region 13 with fail
  clear d0 e0 HI12
  generalize (World.setCell _ _ _) = W13 at *
  have hst : StB W13 (b7) svE := (HI13.out.st (b7, svE) (by simp)).2
  have d0 : W13.cell? ⟨b7, 11, none⟩ = some (.int .i64 0) := hst.cell 11
  have e0 := hst.frozen 11
  have HI14 := Lib.hid (WkS.cell (HI13.out.sub (l' := [(b6, svF0), (b5, svF), (b1 + 1, svE), (b4, svE)]) (fun p hp => by simp only [List.mem_cons, List.not_mem_nil, or_false] at hp ⊢; rcases hp with rfl | rfl | rfl | rfl <;> simp)) hst (by have h1 := HB1.out.1; have h2 := HNE.out; omega) (by have h1 := HB1.out.1; have h2 := HNE.out; omega) (fun p hp => by have h2 := HNE.out; simp only [List.mem_cons, List.not_mem_nil, or_false] at hp; rcases hp with rfl | rfl | rfl | rfl <;> (dsimp only; omega)) 11 (.int .i64 1) svW (by kernel_rfl))
  clear hst
  go_upto_region 14 with fail
  clear d0 e0 HI13
  generalize (World.setCell _ _ _) = W14 at *
  have x0 : W14.cell? ⟨b1, 0, none⟩ = some (.slice A1 n1 c1) := HI14.out.bf.cell 0
  have x1 : W14.cell? ⟨b1, 1, none⟩ = some (.slice A2 n2 c2) := HI14.out.bf.cell 1
  have x2 : W14.cell? ⟨b1, 2, none⟩ = some (.slice A3 n3 c3) := HI14.out.bf.cell 2
  have x3 : W14.cell? ⟨b1, 3, none⟩ = some (.slice A4 n4 c4) := HI14.out.bf.cell 3
  have HF14 := Lib.hid ((HF.out.keep (.grown HI14.out.gr)).tbl)
  have hs4 : StB W14 b4 svE := (HI14.out.st (b4, svE) (by simp)).2
  have hs5 : StB W14 b5 svF := (HI14.out.st (b5, svF) (by simp)).2
  have HS4 := Lib.hid hs4
  have HS5 := Lib.hid hs5
  clear hs4 hs5
  go_upto_region 15 with (first
    | (refine wpList_load_st (s := svE) rfl (.tmp 4) rfl rfl rfl HS4.out ?_)
    | (refine wpList_load_st (s := svF) rfl (.tmp 5) rfl rfl rfl HS5.out ?_)
    | (go_at_call 20; go_must (refine (sshift_any (clsT exN13).cls (.slice A1 n1 c1) (.slice A2 n2 c2) (.slice A3 n3 c3) (.slice A4 n4 c4) svE svF _ HF14.out ex_cls rfl rfl).mono ?_; rw [ex_s1]; rintro e W15 ⟨rfl, hg⟩; have HI15 := Lib.hid (HI14.out.kept hg); clear hg))
    | fail)
  clear x0 x1 x2 x3 HI14 HF14 HS4 HS5
  have x0 : W15.cell? ⟨b1, 0, none⟩ = some (.slice A1 n1 c1) := HI15.out.bf.cell 0
  have x1 : W15.cell? ⟨b1, 1, none⟩ = some (.slice A2 n2 c2) := HI15.out.bf.cell 1
  have x2 : W15.cell? ⟨b1, 2, none⟩ = some (.slice A3 n3 c3) := HI15.out.bf.cell 2
  have x3 : W15.cell? ⟨b1, 3, none⟩ = some (.slice A4 n4 c4) := HI15.out.bf.cell 3
  have HF15 := Lib.hid ((HF.out.keep (.grown HI15.out.gr)).tbl)
  have hs4 : StB W15 b4 svE := (HI15.out.st (b4, svE) (by simp)).2
  have hs5 : StB W15 b6 svF0 := (HI15.out.st (b6, svF0) (by simp)).2
  have HS4 := Lib.hid hs4
  have HS5 := Lib.hid hs5
  clear hs4 hs5
  go_upto_region 16 with (first
    | (refine wpList_load_st (s := svE) rfl (.tmp 4) rfl rfl rfl HS4.out ?_)
    | (refine wpList_load_st (s := svF0) rfl (.tmp 6) rfl rfl rfl HS5.out ?_)
    | (go_at_call 20; go_must (refine (sshift_any (clsT exN13).cls (.slice A1 n1 c1) (.slice A2 n2 c2) (.slice A3 n3 c3) (.slice A4 n4 c4) svE svF0 _ HF15.out ex_cls rfl rfl).mono ?_; rw [ex_s2]; rintro e W16 ⟨rfl, hg⟩; have HI16 := Lib.hid (HI15.out.kept hg); clear hg))
    | fail)
  clear x0 x1 x2 x3 HI15 HF15 HS4 HS5
  have x0 : W16.cell? ⟨b1, 0, none⟩ = some (.slice A1 n1 c1) := HI16.out.bf.cell 0
  have x1 : W16.cell? ⟨b1, 1, none⟩ = some (.slice A2 n2 c2) := HI16.out.bf.cell 1
  have x2 : W16.cell? ⟨b1, 2, none⟩ = some (.slice A3 n3 c3) := HI16.out.bf.cell 2
  have x3 : W16.cell? ⟨b1, 3, none⟩ = some (.slice A4 n4 c4) := HI16.out.bf.cell 3
  have HF16 := Lib.hid ((HF.out.keep (.grown HI16.out.gr)).tbl)
  have hs4 : StB W16 b4 svE := (HI16.out.st (b4, svE) (by simp)).2
  have hs5 : StB W16 b7 svW := (HI16.out.st (b7, svW) (by simp)).2
  have HS4 := Lib.hid hs4
  have HS5 := Lib.hid hs5
  clear hs4 hs5
  go_upto_region 17 with (first
    | (refine wpList_load_st (s := svE) rfl (.tmp 4) rfl rfl rfl HS4.out ?_)
    | (refine wpList_load_st (s := svW) rfl (.tmp 7) rfl rfl rfl HS5.out ?_)
    | (go_at_call 20; go_must (refine (sshift_any (clsT exN13).cls (.slice A1 n1 c1) (.slice A2 n2 c2) (.slice A3 n3 c3) (.slice A4 n4 c4) svE svW _ HF16.out ex_cls rfl rfl).mono ?_; rw [ex_s3]; rintro e W17 ⟨rfl, hg⟩; have HI17 := Lib.hid (HI16.out.kept hg); clear hg))
    | fail)
  clear x0 x1 x2 x3 HI16 HF16 HS4 HS5
  have hs4 : StB W17 b4 svE := (HI17.out.st (b4, svE) (by simp)).2
  have hs3 : StB W17 (b1 + 1) svE := (HI17.out.st (b1 + 1, svE) (by simp)).2
  have HS4 := Lib.hid hs4
  have HS3 := Lib.hid hs3
  clear hs4 hs3
  go_wp2_with (first
    | (refine wpList_load_st (s := svE) rfl (.tmp 4) rfl rfl rfl HS4.out ?_)
    | (refine wpList_load_st (s := svE) rfl (.tmp 3) rfl rfl rfl HS3.out ?_)
    | (refine wpList_load_stG (s := svE) rfl (.tmp 4) rfl rfl rfl (HI18.out.st (b4, svE) (by simp)).2 ?_)
    | (refine wpList_load_stG (s := svF) rfl (.tmp 5) rfl rfl rfl (HI18.out.st (b5, svF) (by simp)).2 ?_)
    | (refine wpList_build_stG rfl _ rfl sv5 (by kernel_rfl) ?_)
    | (go_at_call 18; refine (ssame_any (a := sv5) (b := sv5) rfl rfl _).mono ?_; rw [es_5]; rintro e W21 ⟨rfl, hg⟩; have HI21 := Lib.hid (HI20.out.kept hg); clear hg)
    | (go_at_call 15; refine (sraise_any (clsT exN13).cls (.slice A1 n1 c1) (.slice A2 n2 c2) (.slice A3 n3 c3) (.slice A4 n4 c4) sv5 _ (HF.out.keep (.grown HI19.out.gr)).tbl ex_cls rfl).mono ?_; rw [ex_r5]; rintro e W20 ⟨rfl, hg⟩; have HI20 := Lib.hid (HI19.out.kept hg); clear hg)
    | (go_at_call 18; refine (ssame_any (a := svE) (b := svF) rfl rfl _).mono ?_; rw [es_2]; rintro e W19 ⟨rfl, hg⟩; have HI19 := Lib.hid (HI18.out.kept hg); clear hg; have x0 : W19.cell? ⟨b1, 0, none⟩ = some (.slice A1 n1 c1) := HI19.out.bf.cell 0; have x1 : W19.cell? ⟨b1, 1, none⟩ = some (.slice A2 n2 c2) := HI19.out.bf.cell 1; have x2 : W19.cell? ⟨b1, 2, none⟩ = some (.slice A3 n3 c3) := HI19.out.bf.cell 2; have x3 : W19.cell? ⟨b1, 3, none⟩ = some (.slice A4 n4 c4) := HI19.out.bf.cell 3)
    | (go_at_call 18; refine (ssame_any (a := svE) (b := svE) rfl rfl _).mono ?_; rw [es_1]; rintro e W18 ⟨rfl, hg⟩; have HI18 := Lib.hid (HI17.out.kept hg); clear hg)
    | fail)
  go_ret
  exact ⟨rfl, only_trans HG2.out HI21.out.gr⟩
end Go.Proofs.Ytmhbmeckdbdhpaa

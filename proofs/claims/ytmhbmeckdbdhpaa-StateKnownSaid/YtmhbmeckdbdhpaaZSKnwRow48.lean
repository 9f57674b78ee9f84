/- Texts joined for the claim's sake: SExa. -/
import Derived.Test.YtmhbmeckdbdhpaaZSKnwRow46
import Derived.Test.YtmhbmeckdbdhpaaZSKnwRow40
import Derived.Test.YtmhbmeckdbdhpaaZSKnwRow47
namespace Go.Proofs.Ytmhbmeckdbdhpaa
open Go.RowKit Go.Shelf

abbrev exN13 : List Nd := [⟨1, 3, false, (0, 0), [(1, 0)]⟩, ⟨0, 0, false, (0, 0), []⟩]
abbrev exP13 : List Prm := [⟨false, (0, 0)⟩, ⟨true, (0, 4)⟩, ⟨true, (1, 0)⟩]
abbrev exS13 : List Slt := [⟨1, 0, 0⟩, ⟨2, 0, 7⟩, ⟨2, 1, 0⟩]
abbrev NL : Value := .slice none 0 0
/-- The example's rows in memory. -/
structure ExB (W : World) (be bn bp bt : Nat) : Prop where
  e : Blk W be 67 #[.int .i64 1, .int .i64 0]
  n : Blk W bn 70 #[.int .i64 1, .int .i64 3, .bool false, .int .i64 0, .int .i64 0, .slice (some ⟨be, 0, none⟩) 1 1, .int .i64 0, .int .i64 0, .bool false, .int .i64 0, .int .i64 0, NL]
  p : Blk W bp 61 #[.bool false, .int .i64 0, .int .i64 0, .bool true, .int .i64 0, .int .i64 4, .bool true, .int .i64 1, .int .i64 0]
  t : Blk W bt 65 #[.slice (some ⟨bp, 0, none⟩) 3 3, NL, NL]
theorem ExB.kept {W W' : World} {be bn bp bt : Nat} (h : ExB W be bn bp bt) (hg : W.grownBy W' none) : ExB W' be bn bp bt := ⟨h.e.kept hg, h.n.kept hg, h.p.kept hg, h.t.kept hg⟩
abbrev exV (bn bt : Nat) : Value := .agg #[.slice (some ⟨bn, 0, none⟩) 2 2, .slice (some ⟨bt, 0, none⟩) 1 1, NL, NL, NL, NL, NL, NL]
theorem nodes_tbl {W : World} {bn be : Nat} {e : Ed} (hn : Blk W bn 70 #[.int .i64 1, .int .i64 3, .bool false, .int .i64 0, .int .i64 0, .slice (some ⟨be, 0, none⟩) 1 1, .int .i64 0, .int .i64 0, .bool false, .int .i64 0, .int .i64 0, NL])
    (he : Blk W be 67 #[.int .i64 e.1, .int .i64 e.2]) : Tbl W (.slice (some ⟨bn, 0, none⟩) 2 2) [⟨1, 3, false, (0, 0), [e]⟩, ⟨0, 0, false, (0, 0), []⟩] := by
  refine ⟨_, 2, rfl, fun _ => ⟨bn, 0, rfl, fun i x hx => ?_⟩⟩
  match i, hx with
  | 0, hx =>
    cases hx
    refine ⟨_, ⟨_, 1, rfl, by simp, fun _ => ⟨be, 0, rfl, fun i x hx => ?_⟩⟩, hn.cell 0, hn.cell 1, hn.cell 2, hn.cell 3, hn.cell 4, hn.cell 5⟩
    match i, hx with
    | 0, hx => cases hx; exact ⟨he.cell 0, he.cell 1⟩
    | i + 1, hx => simp at hx
  | 1, hx =>
    cases hx
    exact ⟨_, Edges.nil_ _, hn.cell 6, hn.cell 7, hn.cell 8, hn.cell 9, hn.cell 10, hn.cell 11⟩
  | i + 2, hx => simp at hx
theorem tpl_one {W : World} {bt : Nat} {pv : Value} {ps : List Prm} (ht : Blk W bt 65 #[pv, NL, NL]) (hp : PrmsV W pv ps) : TplsV W (.slice (some ⟨bt, 0, none⟩) 1 1) [ps] := by
  refine ⟨_, 1, rfl, by simp, by simp, fun _ => ⟨bt, 0, rfl, fun i x hx => ?_⟩⟩
  match i, hx with
  | 0, hx => cases hx; exact ⟨pv, none, 0, 0, none, 0, 0, hp, ht.cell 0, ht.cell 1, ht.cell 2⟩
  | i + 1, hx => simp at hx
theorem prm_three {W : World} {bp : Nat} {x : Ed} (hx : -9223372036854775808 ≤ x.1 ∧ x.1 ≤ 9223372036854775807) (hp : Blk W bp 61 #[.bool false, .int .i64 0, .int .i64 0, .bool true, .int .i64 x.1, .int .i64 x.2, .bool true, .int .i64 1, .int .i64 0]) : PrmsV W (.slice (some ⟨bp, 0, none⟩) 3 3) [⟨false, (0, 0)⟩, ⟨true, x⟩, ⟨true, (1, 0)⟩] := by
  refine ⟨_, 3, rfl, by simp, by simp, fun _ => ⟨bp, 0, rfl, fun i q hq => ?_⟩⟩
  match i, hq with
  | 0, hq => cases hq; exact ⟨by unfold Prm.Fit; decide, hp.cell 0, hp.cell 1, hp.cell 2⟩
  | 1, hq => cases hq; exact ⟨hx, hp.cell 3, hp.cell 4, hp.cell 5⟩
  | 2, hq => cases hq; exact ⟨by unfold Prm.Fit; decide, hp.cell 6, hp.cell 7, hp.cell 8⟩
  | i + 3, hq => simp at hq
theorem ExB.tbl {W : World} {be bn bp bt : Nat} (h : ExB W be bn bp bt) : Tbl W (.slice (some ⟨bn, 0, none⟩) 2 2) exN13 := nodes_tbl (e := (1, 0)) h.n h.e
theorem ExB.tpl {W : World} {be bn bp bt : Nat} (h : ExB W be bn bp bt) : TplsV W (.slice (some ⟨bt, 0, none⟩) 1 1) [exP13] := tpl_one h.t (prm_three (x := (0, 4)) (by decide) h.p)
theorem mod_info : (Try.prog.info? 28).map (·.size) = some 8 := by kernel_rfl
set_option maxRecDepth 100000 in
set_option maxHeartbeats 2000000 in
theorem example_any (w : World) : Calls Try.prog 21 #[] w fun e w' => ∃ be bn bp bt, e = .returned (exV bn bt) ∧ ExB w' be bn bp bt ∧ w.grownBy w' none ∧ w.heap.size ≤ be ∧ be < bn ∧ bn < bp ∧ bp < bt := by
  go_enter Try.func21, Try.ntmps21
  go_wp2_with fail
  refine bodyPost_ret (results_cell_row (p := 0) (ty := 28) rfl _ _ w.heap.size 28 _ _ _ rfl ((((Blk.new _ _ _).alloc _).alloc _).alloc _ |>.alloc _) Try.underlying28 rfl mod_info) rfl
    ⟨w.heap.size + 1, w.heap.size + 1 + 1, w.heap.size + 1 + 1 + 1, w.heap.size + 1 + 1 + 1 + 1, rfl, ⟨?_, ?_, ?_, ?_⟩, only_alloc (only_alloc (only_alloc (only_alloc (only_alloc (only_refl _ _) _) _) _) _) _, by omega, by omega, by omega, by omega⟩
  · exact (((blk_at (by simp) _ _).alloc _).alloc _).alloc _
  · exact ((blk_at (by simp) _ _).alloc _).alloc _
  · exact (blk_at (by simp) _ _).alloc _
  · exact blk_at (by simp) _ _
theorem ex_facts : factsA exN13 [exP13] = (0, clsT exN13, [exS13]) := by kernel_rfl
theorem ex_entry : entryA (clsT exN13).cls [exS13] 0 = ⟨7, 0, pad16 exS13⟩ := by kernel_rfl
end Go.Proofs.Ytmhbmeckdbdhpaa

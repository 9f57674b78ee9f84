/- The statements' own works: two aliases, and an end. -/
import Derived.Test.YthjkgjkiikomdaaGChk
namespace Go.Proofs.Ythjkgjkiikomdaa
open Go.RowKit Go.Shelf

abbrev wk : List Nd := [⟨5, 0, false, (0, 0), [(1, 2)]⟩, ⟨5, 0, false, (0, 0), [(2, 3)]⟩, ⟨0, 0, false, (0, 0), []⟩]
abbrev wk1 : List Nd := [⟨0, 1, false, (0, 0), []⟩]
theorem wk_check : checkL wk = (-1, 0) := by decide
theorem wk1_check : checkL wk1 = (0, 7) := by decide
theorem wk_resolve : resolveL wk (0, 4) = (2, 9) := by kernel_rfl
/-- One edge in a block of its own. -/
theorem edges_one {W : World} {g : Nat} {t : TypeId} {e : Ed} {c : Nat} (h : Blk W g t (edCells e)) : Edges W (.slice (some ⟨g, 0, none⟩) 1 c) [e] :=
  ⟨_, _, rfl, by simp, fun _ => ⟨g, 0, rfl, fun i x hx => by
    match i, hx with
    | 0, hx => cases hx; exact ⟨h.cell 0, h.cell 1⟩
    | i + 1, hx => simp at hx⟩⟩

set_option maxRecDepth 100000 in
set_option maxHeartbeats 2000000 in
theorem works_any (w : World) : Calls Try.prog 10 #[] w fun e w' => e = .returned (.bool true) ∧ w.grownBy w' none := by
  go_enter Try.func10, Try.ntmps10
  go_wp2_with fail
  obtain ⟨W1, hW1⟩ : ∃ W1, (((w.alloc (.cells #[.int .i64 1, .int .i64 2] 32)).alloc (.cells #[.int .i64 2, .int .i64 3] 32)).alloc (.cells #[.int .i64 5, .int .i64 0, .bool false, .int .i64 0, .int .i64 0, .slice (some ⟨w.heap.size, 0, none⟩) 1 1, .int .i64 5, .int .i64 0, .bool false, .int .i64 0, .int .i64 0, .slice (some ⟨w.heap.size + 1, 0, none⟩) 1 1, .int .i64 0, .int .i64 0, .bool false, .int .i64 0, .int .i64 0, .slice none 0 0] 35)) = W1 := ⟨_, rfl⟩
  have hg0 : w.grownBy W1 none := by rw [← hW1]; exact only_alloc (only_alloc (only_alloc (only_refl _ _) _) _) _
  have hT : Tbl W1 (.slice (some ⟨w.heap.size + 1 + 1, 0, none⟩) 3 3) wk := by
    have b1 : Blk W1 w.heap.size 32 (edCells (1, 2)) := by rw [← hW1]; exact ((Blk.new w _ _).alloc _).alloc _
    have b2 : Blk W1 (w.heap.size + 1) 32 (edCells (2, 3)) := by rw [← hW1]; exact (blk_at (by simp) _ _).alloc _
    have b3 : Blk W1 (w.heap.size + 1 + 1) 35 #[.int .i64 5, .int .i64 0, .bool false, .int .i64 0, .int .i64 0, .slice (some ⟨w.heap.size, 0, none⟩) 1 1, .int .i64 5, .int .i64 0, .bool false, .int .i64 0, .int .i64 0, .slice (some ⟨w.heap.size + 1, 0, none⟩) 1 1, .int .i64 0, .int .i64 0, .bool false, .int .i64 0, .int .i64 0, .slice none 0 0] := by rw [← hW1]; exact blk_at (by simp) _ _
    refine ⟨_, _, rfl, fun _ => ⟨w.heap.size + 1 + 1, 0, rfl, fun i x hx => ?_⟩⟩
    match i, hx with
    | 0, hx => cases hx; exact ⟨_, edges_one b1, b3.cell 0, b3.cell 1, b3.cell 2, b3.cell 3, b3.cell 4, b3.cell 5⟩
    | 1, hx => cases hx; exact ⟨_, edges_one b2, b3.cell 6, b3.cell 7, b3.cell 8, b3.cell 9, b3.cell 10, b3.cell 11⟩
    | 2, hx => cases hx; exact ⟨_, Edges.nil_ _, b3.cell 12, b3.cell 13, b3.cell 14, b3.cell 15, b3.cell 16, b3.cell 17⟩
    | i + 3, hx => simp at hx
  rw [hW1]
  clear hW1
  refine (check_any wk _ _ hT (by decide)).mono ?_
  rintro e w1 ⟨rfl, hg1⟩
  rw [wk_check]
  have HT := Lib.hid (hT.keep (.grown hg1))
  have HG := Lib.hid (only_trans hg0 hg1)
  clear hT hg0 hg1
  go_wp2_with fail
  have hT1 : Tbl (w1.alloc (.cells (ndCells ⟨0, 1, false, (0, 0), []⟩ (.slice none 0 0)) 35)) (.slice (some ⟨w1.heap.size, 0, none⟩) 1 1) wk1 := by
    have b3 := Blk.new w1 35 (ndCells ⟨0, 1, false, (0, 0), []⟩ (.slice none 0 0))
    refine ⟨_, _, rfl, fun _ => ⟨w1.heap.size, 0, rfl, fun i x hx => ?_⟩⟩
    match i, hx with
    | 0, hx => cases hx; exact ⟨_, Edges.nil_ _, b3.cell 0, b3.cell 1, b3.cell 2, b3.cell 3, b3.cell 4, b3.cell 5⟩
    | i + 1, hx => simp at hx
  refine (check_any wk1 _ _ hT1 (by decide)).mono ?_
  rintro e w2 ⟨rfl, hg2⟩
  rw [wk1_check]
  have HT2 := Lib.hid (((HT.out.keep (.alloc _ _)).keep (.grown hg2)))
  have HG2 := Lib.hid (only_trans (only_alloc HG.out _) hg2)
  clear hT1 hg2
  go_wp2_with fail
  refine (resolve_any wk _ (0, 4) _ HT2.out (by decide)).mono ?_
  rintro e w3 ⟨rfl, hg3⟩
  rw [wk_resolve]
  have HG3 := Lib.hid (only_trans HG2.out hg3)
  clear hg3
  go_wp2_with fail
  go_ret
  exact ⟨rfl, HG3.out⟩
end Go.Proofs.Ythjkgjkiikomdaa

/- The statements' own works: the chapter's examples. -/
import Derived.Test.YtablbgfleopbfaaOFew
namespace Go.Proofs.Ytablbgfleopbfaa
open Go.RowKit Go.Shelf

abbrev tA : List Nd := [⟨1, 0, false, (0, 0), [(1, 0)]⟩, ⟨2, 1, false, (0, 0), [(0, 2)]⟩]
abbrev tB : List Nd := [⟨1, 0, false, (0, 0), [(1, 0)]⟩, ⟨2, 1, false, (0, 0), [(0, 1)]⟩]
abbrev tC : List Nd := [⟨1, 3, true, (1, 0), [(1, 0)]⟩, ⟨0, 0, false, (0, 0), []⟩]
abbrev tD : List Nd := [⟨1, 0, true, (0, 0), [(1, 0)]⟩, ⟨0, 0, false, (0, 0), []⟩]
theorem tA_check : orderL tA = (-1, 0) := by kernel_rfl
theorem tB_check : orderL tB = (1, 10) := by kernel_rfl
theorem tC_check : orderL tC = (-1, 0) := by kernel_rfl
theorem tD_check : orderL tD = (0, 10) := by kernel_rfl
theorem tA_back : backL tA 0 = (2, true) := by kernel_rfl
theorem tB_back : backL tB 0 = (0, false) := by kernel_rfl
theorem tC_back : backL tC 0 = (0, false) := by kernel_rfl

/-- One edge in a block of its own. -/
theorem edges_one_ {W : World} {g : Nat} {t : TypeId} {e : Ed} {c : Nat} (h : Blk W g t (edCells e)) : Edges W (.slice (some ⟨g, 0, none⟩) 1 c) [e] :=
  ⟨_, _, rfl, by simp, fun _ => ⟨g, 0, rfl, fun i x hx => by
    match i, hx with
    | 0, hx => cases hx; exact ⟨h.cell 0, h.cell 1⟩
    | i + 1, hx => simp at hx⟩⟩
theorem tbl_two {W : World} {g : Nat} {x y : Nd} {v1 v2 : Value} (hb : Blk W g 41 (ndCells x v1 ++ ndCells y v2)) (h1 : Edges W v1 x.next) (h2 : Edges W v2 y.next) : Tbl W (.slice (some ⟨g, 0, none⟩) 2 2) [x, y] :=
  ⟨_, _, rfl, fun _ => ⟨g, 0, rfl, fun i z hz => by
    match i, hz with
    | 0, hz => cases hz; exact ⟨v1, h1, hb.cell 0, hb.cell 1, hb.cell 2, hb.cell 3, hb.cell 4, hb.cell 5⟩
    | 1, hz => cases hz; exact ⟨v2, h2, hb.cell 6, hb.cell 7, hb.cell 8, hb.cell 9, hb.cell 10, hb.cell 11⟩
    | i + 2, hz => simp at hz⟩⟩
/-- The four tables. -/
structure WK (w : World) (B : Nat) (W : World) : Prop where
  step : w.grownBy W none
  a : Tbl W (.slice (some ⟨B + 1 + 1 + 1 + 1, 0, none⟩) 2 2) tA
  b : Tbl W (.slice (some ⟨B + 1 + 1 + 1 + 1 + 1 + 1 + 1 + 1 + 1, 0, none⟩) 2 2) tB
  c : Tbl W (.slice (some ⟨B + 1 + 1 + 1 + 1 + 1 + 1 + 1 + 1 + 1 + 1 + 1, 0, none⟩) 2 2) tC
  d : Tbl W (.slice (some ⟨B + 1 + 1 + 1 + 1 + 1 + 1 + 1 + 1 + 1 + 1 + 1 + 1 + 1, 0, none⟩) 2 2) tD
theorem WK.none_ {w W W' : World} {B : Nat} (h : WK w B W) (hg : W.grownBy W' none) : WK w B W' := ⟨only_trans h.step hg, h.a.keep (.grown hg), h.b.keep (.grown hg), h.c.keep (.grown hg), h.d.keep (.grown hg)⟩

set_option maxRecDepth 100000 in
set_option maxHeartbeats 2000000 in
theorem oworks_any (w : World) : Calls Try.prog 13 #[] w fun e w' => e = .returned (.bool true) ∧ w.grownBy w' none := by
  go_enter Try.func13, Try.ntmps13
  go_wp2_with (go_at_call 17; go_must (refine (word_any _ _ _ _ _).mono ?_; rintro e w1 ⟨rfl, rfl⟩))
  generalize hW : World.alloc _ _ = W1
  have e1 : Blk W1 (w.heap.size + 1) 24 (edCells (1, 0)) := by rw [← hW]; repeat (first | (refine blk_at ?_ _ _; simp; done) | refine Blk.alloc ?_ _)
  have e2 : Blk W1 (w.heap.size + 1 + 1 + 1) 24 (edCells (0, 2)) := by rw [← hW]; repeat (first | (refine blk_at ?_ _ _; simp; done) | refine Blk.alloc ?_ _)
  have e3 : Blk W1 (w.heap.size + 1 + 1 + 1 + 1 + 1 + 1) 24 (edCells (1, 0)) := by rw [← hW]; repeat (first | (refine blk_at ?_ _ _; simp; done) | refine Blk.alloc ?_ _)
  have e4 : Blk W1 (w.heap.size + 1 + 1 + 1 + 1 + 1 + 1 + 1 + 1) 24 (edCells (0, 1)) := by rw [← hW]; repeat (first | (refine blk_at ?_ _ _; simp; done) | refine Blk.alloc ?_ _)
  have e5 : Blk W1 (w.heap.size + 1 + 1 + 1 + 1 + 1 + 1 + 1 + 1 + 1 + 1) 24 (edCells (1, 0)) := by rw [← hW]; repeat (first | (refine blk_at ?_ _ _; simp; done) | refine Blk.alloc ?_ _)
  have e6 : Blk W1 (w.heap.size + 1 + 1 + 1 + 1 + 1 + 1 + 1 + 1 + 1 + 1 + 1 + 1) 24 (edCells (1, 0)) := by rw [← hW]; repeat (first | (refine blk_at ?_ _ _; simp; done) | refine Blk.alloc ?_ _)
  have b1 : Blk W1 (w.heap.size + 1 + 1 + 1 + 1) 41 (ndCells ⟨1, 0, false, (0, 0), [(1, 0)]⟩ (.slice (some ⟨w.heap.size + 1, 0, none⟩) 1 1) ++ ndCells ⟨2, 1, false, (0, 0), [(0, 2)]⟩ (.slice (some ⟨w.heap.size + 1 + 1 + 1, 0, none⟩) 1 1)) := by rw [← hW]; repeat (first | (refine blk_at ?_ _ _; simp; done) | refine Blk.alloc ?_ _)
  have b2 : Blk W1 (w.heap.size + 1 + 1 + 1 + 1 + 1 + 1 + 1 + 1 + 1) 41 (ndCells ⟨1, 0, false, (0, 0), [(1, 0)]⟩ (.slice (some ⟨w.heap.size + 1 + 1 + 1 + 1 + 1 + 1, 0, none⟩) 1 1) ++ ndCells ⟨2, 1, false, (0, 0), [(0, 1)]⟩ (.slice (some ⟨w.heap.size + 1 + 1 + 1 + 1 + 1 + 1 + 1 + 1, 0, none⟩) 1 1)) := by rw [← hW]; repeat (first | (refine blk_at ?_ _ _; simp; done) | refine Blk.alloc ?_ _)
  have b3 : Blk W1 (w.heap.size + 1 + 1 + 1 + 1 + 1 + 1 + 1 + 1 + 1 + 1 + 1) 41 (ndCells ⟨1, 3, true, (1, 0), [(1, 0)]⟩ (.slice (some ⟨w.heap.size + 1 + 1 + 1 + 1 + 1 + 1 + 1 + 1 + 1 + 1, 0, none⟩) 1 1) ++ ndCells ⟨0, 0, false, (0, 0), []⟩ (.slice none 0 0)) := by rw [← hW]; repeat (first | (refine blk_at ?_ _ _; simp; done) | refine Blk.alloc ?_ _)
  have b4 : Blk W1 (w.heap.size + 1 + 1 + 1 + 1 + 1 + 1 + 1 + 1 + 1 + 1 + 1 + 1 + 1) 41 (ndCells ⟨1, 0, true, (0, 0), [(1, 0)]⟩ (.slice (some ⟨w.heap.size + 1 + 1 + 1 + 1 + 1 + 1 + 1 + 1 + 1 + 1 + 1 + 1, 0, none⟩) 1 1) ++ ndCells ⟨0, 0, false, (0, 0), []⟩ (.slice none 0 0)) := by rw [← hW]; repeat (first | (refine blk_at ?_ _ _; simp; done) | refine Blk.alloc ?_ _)
  have hg : w.grownBy W1 none := by rw [← hW]; repeat (first | exact only_refl _ _ | refine only_alloc ?_ _)
  have s : WK w w.heap.size W1 := ⟨hg, tbl_two b1 (edges_one_ e1) (edges_one_ e2), tbl_two b2 (edges_one_ e3) (edges_one_ e4), tbl_two b3 (edges_one_ e5) (Edges.nil_ _), tbl_two b4 (edges_one_ e6) (Edges.nil_ _)⟩
  clear e1 e2 e3 e4 e5 e6 b1 b2 b3 b4 hg hW
  refine (ocheck_any tA _ _ s.a (by decide)).mono ?_
  rintro e W2 ⟨rfl, hg⟩
  rw [tA_check]
  replace s := s.none_ hg
  clear hg
  go_wp2_with fail
  refine (ocheck_any tB _ _ s.b (by decide)).mono ?_
  rintro e W3 ⟨rfl, hg⟩
  rw [tB_check]
  replace s := s.none_ hg
  clear hg
  go_wp2_with fail
  refine (ocheck_any tC _ _ s.c (by decide)).mono ?_
  rintro e W4 ⟨rfl, hg⟩
  rw [tC_check]
  replace s := s.none_ hg
  clear hg
  go_wp2_with fail
  refine (ocheck_any tD _ _ s.d (by decide)).mono ?_
  rintro e W5 ⟨rfl, hg⟩
  rw [tD_check]
  replace s := s.none_ hg
  clear hg
  go_wp2_with fail
  refine (oback_any tA _ 0 _ s.a (by decide)).mono ?_
  rintro e W6 ⟨rfl, hg⟩
  rw [tA_back]
  replace s := s.none_ hg
  clear hg
  go_wp2_with fail
  refine (oback_any tB _ 0 _ s.b (by decide)).mono ?_
  rintro e W7 ⟨rfl, hg⟩
  rw [tB_back]
  replace s := s.none_ hg
  clear hg
  go_wp2_with fail
  refine (oback_any tC _ 0 _ s.c (by decide)).mono ?_
  rintro e W8 ⟨rfl, hg⟩
  rw [tC_back]
  replace s := s.none_ hg
  clear hg
  go_wp2_with fail
  go_ret
  exact ⟨rfl, s.step⟩
end Go.Proofs.Ytablbgfleopbfaa

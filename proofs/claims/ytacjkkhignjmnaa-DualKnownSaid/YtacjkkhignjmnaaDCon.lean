/- What layer 6's statements ask of the code: the contracts of its three functions, as they are proved of the code that landed. -/
import Derived.Test.YtacjkkhignjmnaaDRTab
namespace Go.Proofs.Ytacjkkhignjmnaa
open Go.RowKit Go.Shelf

def TabC : Prop := ∀ (xs : List Nd) (v : Value) (w : World), Tbl w v xs → xs.length ≤ 1000 → Calls Try.prog 7 #[v] w (MadeT w (tableL xs))
def MateC : Prop := ∀ (n m : Int) (w : World), -1000000000 ≤ n → n ≤ 1000000000 → -9223372036854775808 ≤ m → m ≤ 9223372036854775807 → Calls Try.prog 10 #[.int .i64 n, .int .i64 m] w fun e w' => e = .returned (.int .i64 (mateA n m)) ∧ w.grownBy w' none
def MatesC : Prop := ∀ (xs : List Nd) (v : Value) (a b : Ed) (w : World), Tbl w v xs → xs.length ≤ 1000 → Calls Try.prog 15 #[v, edV a, edV b] w fun e w' => e = .returned (.bool (matesB xs a b)) ∧ w.grownBy w' none

abbrev dwL : List Nd := [⟨2, 0, true, (1, 4), [(0, 1)]⟩, ⟨0, 0, false, (0, 0), []⟩]
abbrev dw4 : List Nd := [⟨2, 0, true, (1, 4), [(0, 1)]⟩, ⟨0, 0, false, (0, 0), []⟩, ⟨1, 0, true, (1, 4), [(2, 1)]⟩, ⟨0, 0, false, (0, 0), []⟩]
theorem dw_table : tableL dwL = dw4 := by kernel_rfl
theorem dw_mates : matesB dw4 (0, 7) (2, 7) = true := by kernel_rfl
theorem dw_mate0 : mateA 2 0 = 2 := by decide
theorem dw_mate3 : mateA 2 3 = 1 := by decide
theorem edges_oneD {W : World} {g : Nat} {t : TypeId} {e : Ed} {c : Nat} (h : Blk W g t (edCells e)) : Edges W (.slice (some ⟨g, 0, none⟩) 1 c) [e] :=
  ⟨_, _, rfl, by simp, fun _ => ⟨g, 0, rfl, fun i x hx => by
    match i, hx with
    | 0, hx => cases hx; exact ⟨h.cell 0, h.cell 1⟩
    | i + 1, hx => simp at hx⟩⟩
theorem tbl_twoD {W : World} {g : Nat} {x y : Nd} {v1 v2 : Value} (hb : Blk W g 29 (ndCells x v1 ++ ndCells y v2)) (h1 : Edges W v1 x.next) (h2 : Edges W v2 y.next) : Tbl W (.slice (some ⟨g, 0, none⟩) 2 2) [x, y] :=
  ⟨_, _, rfl, fun _ => ⟨g, 0, rfl, fun i z hz => by
    match i, hz with
    | 0, hz => cases hz; exact ⟨v1, h1, hb.cell 0, hb.cell 1, hb.cell 2, hb.cell 3, hb.cell 4, hb.cell 5⟩
    | 1, hz => cases hz; exact ⟨v2, h2, hb.cell 6, hb.cell 7, hb.cell 8, hb.cell 9, hb.cell 10, hb.cell 11⟩
    | i + 2, hz => simp at hz⟩⟩
/-- A node of a table in memory, its one edge, too. -/
theorem tbl_node1 {W : World} {b off : Nat} {x : Nd} {e : Ed} (h : NdAt W b off x) (hx : x.next = [e]) : ∃ b2 o2 c2, W.cell? ⟨b, off, none⟩ = some (.int .i64 x.kind) ∧ W.cell? ⟨b, off + 1, none⟩ = some (.int .i64 x.prio) ∧ W.cell? ⟨b, off + 2, none⟩ = some (.bool x.chan) ∧
    W.cell? ⟨b, off + 3, none⟩ = some (.int .i64 x.pay.1) ∧ W.cell? ⟨b, off + 4, none⟩ = some (.int .i64 x.pay.2) ∧ W.cell? ⟨b, off + 5, none⟩ = some (.slice (some ⟨b2, o2, none⟩) 1 c2) ∧ W.cell? ⟨b2, o2, none⟩ = some (.int .i64 e.1) ∧ W.cell? ⟨b2, o2 + 1, none⟩ = some (.int .i64 e.2) := by
  obtain ⟨v, hE, m0, m1, m2, m3, m4, m5⟩ := h
  rw [hx] at hE
  obtain ⟨A, c, rfl, _, hcl⟩ := hE
  obtain ⟨b2, o2, rfl, hc⟩ := hcl (by simp)
  obtain ⟨e0, e1⟩ := hc 0 e rfl
  simp only [Nat.zero_mul, Nat.add_zero] at e0 e1
  exact ⟨b2, o2, c, m0, m1, m2, m3, m4, m5, e0, e1⟩

set_option maxRecDepth 100000 in
set_option maxHeartbeats 2000000 in
theorem dworks_of (hC : TabC) (hM : MateC) (hS : MatesC) (w : World) : Calls Try.prog 12 #[] w fun e w' => e = .returned (.bool true) ∧ w.grownBy w' none := by
  have HC := Lib.hid hC
  have HM := Lib.hid hM
  have HS := Lib.hid hS
  clear hC hM hS
  go_enter Try.func12, Try.ntmps12
  go_wp2_with fail
  generalize hW : World.alloc _ _ = W1
  have e1 : Blk W1 w.heap.size 26 (edCells (0, 1)) := by rw [← hW]; repeat (first | (refine blk_at ?_ _ _; simp; done) | exact Blk.new _ _ _ | refine Blk.alloc ?_ _)
  have b1 : Blk W1 (w.heap.size + 1) 29 (ndCells ⟨2, 0, true, (1, 4), [(0, 1)]⟩ (.slice (some ⟨w.heap.size, 0, none⟩) 1 1) ++ ndCells ⟨0, 0, false, (0, 0), []⟩ (.slice none 0 0)) := by rw [← hW]; repeat (first | (refine blk_at ?_ _ _; simp; done) | refine Blk.alloc ?_ _)
  have hg : w.grownBy W1 none := by rw [← hW]; repeat (first | exact only_refl _ _ | refine only_alloc ?_ _)
  have hT : Tbl W1 (.slice (some ⟨w.heap.size + 1, 0, none⟩) 2 2) dwL := tbl_twoD b1 (edges_oneD e1) (Edges.nil_ _)
  have HG := Lib.hid hg
  clear e1 b1 hg hW
  refine (HC.out dwL _ _ hT (by decide)).mono ?_
  rw [dw_table]
  rintro e W2 ⟨⟨u, ns, rfl, hot, hns⟩, hg2⟩
  have hT2 := hot.tbl
  rw [hns] at hT2
  have HG2 := Lib.hid (only_trans HG.out hg2)
  have HT2 := Lib.hid hT2
  clear hT hot hns hg2
  obtain ⟨A, c, hu, hcl⟩ := hT2
  obtain rfl : u = .slice A 4 c := hu
  obtain ⟨b, off, rfl, hcl2⟩ := hcl (by simp)
  obtain ⟨b2, o2, c2, n0, n1, n2, n3, n4, n5, e0, e1⟩ := tbl_node1 (hcl2 2 _ rfl) rfl
  obtain ⟨v3, _, k0, _⟩ := hcl2 3 _ rfl
  have n0 : W2.cell? ⟨b, off + 12, none⟩ = some (.int .i64 1) := n0
  have n2 : W2.cell? ⟨b, off + 12 + 2, none⟩ = some (.bool true) := n2
  have n3 : W2.cell? ⟨b, off + 12 + 3, none⟩ = some (.int .i64 1) := n3
  have n4 : W2.cell? ⟨b, off + 12 + 4, none⟩ = some (.int .i64 4) := n4
  have n5 : W2.cell? ⟨b, off + 12 + 5, none⟩ = some (.slice (some ⟨b2, o2, none⟩) 1 c2) := n5
  have e0 : W2.cell? ⟨b2, o2, none⟩ = some (.int .i64 2) := e0
  have e1 : W2.cell? ⟨b2, o2 + 1, none⟩ = some (.int .i64 1) := e1
  have k0 : W2.cell? ⟨b, off + 18, none⟩ = some (.int .i64 0) := k0
  clear hcl hcl2 n1
  go_wp2_with fail
  refine (HM.out 2 0 _ (by decide) (by decide) (by decide) (by decide)).mono ?_
  rw [dw_mate0]
  rintro e W3 ⟨rfl, hg3⟩
  have HG3 := Lib.hid (only_trans HG2.out hg3)
  have HT3 : Hid (Tbl W3 (.slice (some ⟨b, off, none⟩) 4 c) dw4) := Lib.hid (HT2.out.keep (.grown hg3))
  clear hg3
  go_wp2_with fail
  refine (HM.out 2 3 _ (by decide) (by decide) (by decide) (by decide)).mono ?_
  rw [dw_mate3]
  rintro e W4 ⟨rfl, hg4⟩
  have HG4 := Lib.hid (only_trans HG3.out hg4)
  have HT4 : Hid (Tbl W4 (.slice (some ⟨b, off, none⟩) 4 c) dw4) := Lib.hid (HT3.out.keep (.grown hg4))
  clear hg4
  go_wp2_with fail
  refine (HS.out dw4 _ (0, 7) (2, 7) _ HT4.out (by decide)).mono ?_
  rw [dw_mates]
  rintro e W5 ⟨rfl, hg5⟩
  have HG5 := Lib.hid (only_trans HG4.out hg5)
  clear hg5
  go_wp2_with fail
  go_ret
  exact ⟨rfl, HG5.out⟩
end Go.Proofs.Ytacjkkhignjmnaa

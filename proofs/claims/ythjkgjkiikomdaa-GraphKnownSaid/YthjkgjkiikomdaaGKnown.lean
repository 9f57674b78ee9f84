/- GraphKnown: the walk. -/
import Derived.Test.YthjkgjkiikomdaaGWrk
import Derived.Test.YthjkgjkiikomdaaGOwn
import Derived.Test.YthjkgjkiikomdaaGKnD
import Derived.Deep.RegionHeld3
import Derived.Deep.CutBlock
import Derived.Deep.CutRange
namespace Go.Proofs.Ythjkgjkiikomdaa
open Go.RowKit

theorem load_ok {W : World} {b : Act} {g : Nat} {x0 x1 x2 x3 x4 x5 : Value} {o : Oper} {t : Tmp} (ho : o.op = .load 35 (.tmp t)) (he : b.eval (.tmp t) = .pointer (some ⟨g, 0, none⟩)) (hb : Blk W g 35 #[x0, x1, x2, x3, x4, x5]) :
    ∃ v, (execOp b.eval o).run Try.prog W = .ok (.value v) W ∧ Reads W (.agg [.v x0, .v x1, .v x2, .v x3, .v x4, .v x5]) v := by
  have c0 := hb.cell 0
  have c1 := hb.cell 1
  have c2 := hb.cell 2
  have c3 := hb.cell 3
  have c4 := hb.cell 4
  have c5 := hb.cell 5
  refine ⟨.agg #[x0, x1, x2, x3, x4, x5], ?_, _, rfl, Cells.of_map [x0, x1, x2, x3, x4, x5]⟩
  obtain ⟨dst, op, type, pos, after, guard⟩ := o
  dsimp only at ho
  subst ho
  simp only [execOp, he]
  go_simp
theorem load6_ok {W : World} {b : Act} {g : Nat} {x0 x1 x2 x3 x4 x5 : Value} {o : Oper} {t : Tmp} (ho : o.op = .load 35 (.tmp t)) (he : b.eval (.tmp t) = .pointer (some ⟨g, 6, none⟩))
    (c0 : W.cell? ⟨g, 6, none⟩ = some x0) (c1 : W.cell? ⟨g, 7, none⟩ = some x1) (c2 : W.cell? ⟨g, 8, none⟩ = some x2) (c3 : W.cell? ⟨g, 9, none⟩ = some x3) (c4 : W.cell? ⟨g, 10, none⟩ = some x4) (c5 : W.cell? ⟨g, 11, none⟩ = some x5) :
    ∃ v, (execOp b.eval o).run Try.prog W = .ok (.value v) W ∧ Reads W (.agg [.v x0, .v x1, .v x2, .v x3, .v x4, .v x5]) v := by
  refine ⟨.agg #[x0, x1, x2, x3, x4, x5], ?_, _, rfl, Cells.of_map [x0, x1, x2, x3, x4, x5]⟩
  obtain ⟨dst, op, type, pos, after, guard⟩ := o
  dsimp only at ho
  subst ho
  simp only [execOp, he]
  go_simp
theorem index_ok {W : World} {b : Act} {g : Nat} {o : Oper} {t : Tmp} (ho : o.op = .indexAddr 22 (.tmp t) (.const (.int .i64 1))) (he : b.eval (.tmp t) = .slice (some ⟨g, 0, none⟩) 2 2) :
    ∃ v, (execOp b.eval o).run Try.prog W = .ok (.value v) W ∧ Reads W (.one (.v (.pointer (some ⟨g, 6, none⟩)))) v := by
  refine ⟨.pointer (some ⟨g, 6, none⟩), ?_, rfl, rfl⟩
  obtain ⟨dst, op, type, pos, after, guard⟩ := o
  dsimp only at ho
  subst ho
  simp only [execOp, he, show b.eval (.const (.int .i64 1)) = .int .i64 1 from rfl]
  go_simp
theorem len_ok {W : World} {b : Act} {x : Option Addr} {o : Oper} {t : Tmp} (ho : o.op = .call { callee := .builtin .len, args := #[.tmp t], argTypes := #[46] }) (he : b.eval (.tmp t) = .slice x 16 16) :
    ∃ v, (execOp b.eval o).run Try.prog W = .ok (.value v) W ∧ Reads W (.one (.v (.int .i64 16))) v := by
  refine ⟨.int .i64 16, ?_, rfl, rfl⟩
  obtain ⟨dst, op, type, pos, after, guard⟩ := o
  dsimp only at ho
  subst ho
  simp only [execOp, resolve, List.map_toArray, List.map_cons, List.map_nil, he]
  go_simp
theorem mem_load {o : Oper} {ty : TypeId} {t : Tmp} (h : o.op = .load ty (.tmp t)) : Operand.tmp t ∈ o.op.operands := by rw [h]; simp [Op.operands]
theorem mem_index {o : Oper} {ty : TypeId} {t : Tmp} {x : Operand} (h : o.op = .indexAddr ty (.tmp t) x) : Operand.tmp t ∈ o.op.operands := by rw [h]; simp [Op.operands]
theorem mem_len {o : Oper} {ty : TypeId} {t : Tmp} (h : o.op = .call { callee := .builtin .len, args := #[.tmp t], argTypes := #[ty] }) : Operand.tmp t ∈ o.op.operands := by rw [h]; simp [Op.operands, Call.operands]
theorem one_of {W : World} {u v : Value} (h : Reads W (.one (.v u)) v) : v = u := h.1

/-- What stands behind the loop. -/
structure SK (g0 g1 g3 g8 R gn : Nat) (w W : World) : Prop where
  step : w.grownBy W none
  kb : KB g1 g3 g8 R W
  e0 : Blk W g0 35 #[.int .i64 0, .int .i64 0, .bool false, .int .i64 0, .int .i64 0, .slice none 0 0]
  n0 : Blk W gn 30 #[.int .i64 (-1), .int .i64 0]
section
variable {g0 g1 g3 g8 R gn : Nat} {w W W' : World}
theorem SK.kept (h : SK g0 g1 g3 g8 R gn w W) (hg : W.grownBy W' none) : SK g0 g1 g3 g8 R gn w W' := ⟨only_trans h.step hg, h.kb.kept hg, h.e0.kept hg, h.n0.kept hg⟩
theorem SK.alloc (h : SK g0 g1 g3 g8 R gn w W) (o : Obj) : SK g0 g1 g3 g8 R gn w (W.alloc o) := h.kept (only_alloc (only_refl _ _) _)
theorem SK.drew (h : SK g0 g1 g3 g8 R gn w W) : SK g0 g1 g3 g8 R gn w W.drew := h.kept (only_drew (only_refl _ _))
theorem SK.cells (h : SK g0 g1 g3 g8 R gn w W) : W.cell? ⟨g0, 0, none⟩ = some (.int .i64 0) ∧ W.cell? ⟨g0, 1, none⟩ = some (.int .i64 0) ∧ W.cell? ⟨g0, 2, none⟩ = some (.bool false) ∧ W.cell? ⟨g0, 3, none⟩ = some (.int .i64 0) ∧ W.cell? ⟨g0, 4, none⟩ = some (.int .i64 0) ∧
    W.cell? ⟨g0, 5, none⟩ = some (.slice none 0 0) ∧ W.cell? ⟨gn, 0, none⟩ = some (.int .i64 (-1)) ∧ W.cell? ⟨gn, 1, none⟩ = some (.int .i64 0) :=
  ⟨h.e0.cell 0, h.e0.cell 1, h.e0.cell 2, h.e0.cell 3, h.e0.cell 4, h.e0.cell 5, h.n0.cell 0, h.n0.cell 1⟩
theorem tbl_new (x : Nd) (h : x.next = []) (W : World) : Tbl (W.alloc (.cells (ndCells x (.slice none 0 0)) 35)) (.slice (some ⟨W.heap.size, 0, none⟩) 1 1) [x] := by
  have hb := Blk.new W 35 (ndCells x (.slice none 0 0))
  refine ⟨_, _, rfl, fun _ => ⟨_, 0, rfl, fun i y hy => ?_⟩⟩
  match i, hy with
  | 0, hy => cases hy; exact ⟨_, by rw [h]; exact Edges.nil_ _, hb.cell 0, hb.cell 1, hb.cell 2, hb.cell 3, hb.cell 4, hb.cell 5⟩
  | i + 1, hy => simp at hy
theorem res_of {xs : List Nd} {t a : Ed} {v : Value} (h : resolveL xs t = a) (hl : xs.length ≤ 100) (hT : Tbl W v xs) :
    Calls Try.prog 11 #[v, edV t] W fun e w' => e = .returned (edV a) ∧ W.grownBy w' none := by
  have := resolve_any xs v t W hT (by omega)
  rwa [h] at this
end

set_option maxRecDepth 100000 in
set_option maxHeartbeats 4000000 in
theorem gknown_any (w : World) :
    Calls Try.prog 7 #[] w fun e w' => e = .returned (.bool true) ∧ w.grownBy w' none := by
  go_enter Try.func7, Try.ntmps7
  go_upto_region 9 with fail
  generalize hW : World.alloc _ _ = W9
  have B0 : Blk W9 w.heap.size 35 #[.int .i64 0, .int .i64 0, .bool false, .int .i64 0, .int .i64 0, .slice none 0 0] := by
    rw [← hW]; repeat (first | (refine blk_at ?_ _ _; simp; done) | refine Blk.alloc ?_ _)
  have B1 : Blk W9 (w.heap.size + 1) 32 (edCells (0, 1000)) := by
    rw [← hW]; repeat (first | (refine blk_at ?_ _ _; simp; done) | refine Blk.alloc ?_ _)
  have B2 : Blk W9 (w.heap.size + 1 + 1) 35 #[.int .i64 1, .int .i64 1000, .bool false, .int .i64 0, .int .i64 0, .slice (some ⟨w.heap.size + 1, 0, none⟩) 1 1] := by
    rw [← hW]; repeat (first | (refine blk_at ?_ _ _; simp; done) | refine Blk.alloc ?_ _)
  have B3 : Blk W9 (w.heap.size + 1 + 1 + 1) 32 (edCells (0, 0)) := by
    rw [← hW]; repeat (first | (refine blk_at ?_ _ _; simp; done) | refine Blk.alloc ?_ _)
  have B4 : Blk W9 (w.heap.size + 1 + 1 + 1 + 1) 35 #[.int .i64 2, .int .i64 0, .bool true, .int .i64 0, .int .i64 1000, .slice (some ⟨w.heap.size + 1 + 1 + 1, 0, none⟩) 1 1] := by
    rw [← hW]; repeat (first | (refine blk_at ?_ _ _; simp; done) | refine Blk.alloc ?_ _)
  have B5 : Blk W9 (w.heap.size + 1 + 1 + 1 + 1 + 1) 35 #[.int .i64 2, .int .i64 0, .bool true, .int .i64 2, .int .i64 1000, .slice (some ⟨w.heap.size + 1 + 1 + 1, 0, none⟩) 1 1] := by
    rw [← hW]; repeat (first | (refine blk_at ?_ _ _; simp; done) | refine Blk.alloc ?_ _)
  have B6 : Blk W9 (w.heap.size + 1 + 1 + 1 + 1 + 1 + 1) 35 #[.int .i64 2, .int .i64 0, .bool true, .int .i64 0, .int .i64 1001, .slice (some ⟨w.heap.size + 1 + 1 + 1, 0, none⟩) 1 1] := by
    rw [← hW]; repeat (first | (refine blk_at ?_ _ _; simp; done) | refine Blk.alloc ?_ _)
  have B7 : Blk W9 (w.heap.size + 1 + 1 + 1 + 1 + 1 + 1 + 1) 32 (edCells (1, 2)) := by
    rw [← hW]; repeat (first | (refine blk_at ?_ _ _; simp; done) | refine Blk.alloc ?_ _)
  have B8 : Blk W9 (w.heap.size + 1 + 1 + 1 + 1 + 1 + 1 + 1 + 1) 32 (edCells (0, 0)) := by
    rw [← hW]; repeat (first | (refine blk_at ?_ _ _; simp; done) | refine Blk.alloc ?_ _)
  have B9 : Blk W9 (w.heap.size + 1 + 1 + 1 + 1 + 1 + 1 + 1 + 1 + 1) 35 #[.int .i64 5, .int .i64 0, .bool false, .int .i64 0, .int .i64 0, .slice (some ⟨w.heap.size + 1 + 1 + 1 + 1 + 1 + 1 + 1, 0, none⟩) 1 1, .int .i64 5, .int .i64 0, .bool false, .int .i64 0, .int .i64 0, .slice (some ⟨w.heap.size + 1 + 1 + 1 + 1 + 1 + 1 + 1 + 1, 0, none⟩) 1 1] := by
    rw [← hW]; repeat (first | (refine blk_at ?_ _ _; simp; done) | refine Blk.alloc ?_ _)
  have hs9 : w.grownBy W9 none := by
    rw [← hW]; repeat (first | exact only_refl _ _ | refine only_alloc ?_ _)
  clear hW
  generalize w.heap.size + 1 + 1 + 1 + 1 + 1 + 1 + 1 + 1 + 1 = R at *
  generalize w.heap.size + 1 + 1 + 1 + 1 + 1 + 1 + 1 + 1 = g8 at *
  generalize w.heap.size + 1 + 1 + 1 + 1 + 1 + 1 + 1 = g7 at *
  generalize w.heap.size + 1 + 1 + 1 + 1 + 1 + 1 = g6 at *
  generalize w.heap.size + 1 + 1 + 1 + 1 + 1 = g5 at *
  generalize w.heap.size + 1 + 1 + 1 + 1 = g4 at *
  generalize w.heap.size + 1 + 1 + 1 = g3 at *
  generalize w.heap.size + 1 + 1 = g2 at *
  generalize w.heap.size + 1 = g1 at *
  generalize w.heap.size = g0 at *
  have HK : Hid (KB g1 g3 g8 R W9) := ⟨B1, B3, B8, ⟨_, _, rfl, fun _ => ⟨R, 0, rfl, fun i x hx => by
    match i, hx with
    | 0, hx => cases hx; exact ⟨_, edges_ptr B7 rfl, B9.cell 0, B9.cell 1, B9.cell 2, B9.cell 3, B9.cell 4, B9.cell 5⟩
    | 1, hx => cases hx; exact ⟨_, edges_ptr B8 rfl, B9.cell 6, B9.cell 7, B9.cell 8, B9.cell 9, B9.cell 10, B9.cell 11⟩
    | i + 2, hx => simp at hx⟩⟩⟩
  have HS := Lib.hid hs9
  clear hs9
  refine region_reads_want (by kernel_rfl) (by kernel_rfl) [33, 34, 35, 36, 37, 38, 39, 40, 41, 42, 43, 44, 45, 46, 47, 48, 49, 50, 51, 52, 53, 54, 55, 56, 57, 58, 59, 60, 61, 62, 63, 64, 65, 66, 67, 68, 69, 70, 71, 72, 73, 74, 75, 76, 77, 78, 79, 80, 81, 82, 83, 84, 85, 86, 87, 88, 89, 90, 91, 92, 93, 94] (by kernel_rfl) (by kernel_rfl)
    [(5, .agg (ndCl endP)), (6, .agg (ndCl (sendP g1))), (9, .agg (ndCl endP)), (10, .agg (ndCl (giveP g3))), (13, .agg (ndCl endP)), (14, .agg (ndCl (farP g3))), (17, .agg (ndCl endP)), (18, .agg (ndCl (wideP g3))), (28, .agg (ndCl endP)),
     (30, .one (.v (.pointer (some ⟨R, 6, none⟩)))), (31, .agg (ndCl (backP g8))), (47, .agg (ndCl (farP g3))), (60, .one (.v (.int .i64 16)))]
    [(1, .one (.v (.pointer (some ⟨g0, 0, none⟩)))), (2, .one (.v (.pointer (some ⟨g2, 0, none⟩)))), (3, .one (.v (.pointer (some ⟨g4, 0, none⟩)))), (4, .one (.v (.pointer (some ⟨g5, 0, none⟩)))), (5, .one (.v (.pointer (some ⟨g6, 0, none⟩)))),
     (6, .one (.v (.slice (some ⟨R, 0, none⟩) 2 2)))]
    [(1, .one (.v (.pointer (some ⟨g0, 0, none⟩)))), (2, .one (.v (.pointer (some ⟨g2, 0, none⟩)))), (3, .one (.v (.pointer (some ⟨g4, 0, none⟩)))), (4, .one (.v (.pointer (some ⟨g5, 0, none⟩)))), (5, .one (.v (.pointer (some ⟨g6, 0, none⟩)))),
     (62, .one (.v (.slice (some ⟨R, 0, none⟩) 2 2))), (63, .one (.v (.pointer (some ⟨R, 6, none⟩)))), (92, .one (.s 45 (rowsL g1 g3 g8 R) 16)), (93, .one (.v (.int .i64 16))), (94, .one (.v (.int .i64 0)))]
    (by kernel_rfl) ?h0 ?hpre ?hQ
  case h0 =>
    intro p hp
    simp only [List.mem_cons, List.not_mem_nil, or_false] at hp
    rcases hp with rfl | rfl | rfl | rfl | rfl | rfl <;> exact ⟨rfl, rfl⟩
  case hpre =>
    intro p hp o ho b W hg hr
    have q1 := hr (1, _) (.head _)
    have q2 := hr (2, _) (.tail _ (.head _))
    have q3 := hr (3, _) (.tail _ (.tail _ (.head _)))
    have q4 := hr (4, _) (.tail _ (.tail _ (.tail _ (.head _))))
    have q5 := hr (5, _) (.tail _ (.tail _ (.tail _ (.tail _ (.head _)))))
    have q62 := hr (62, _) (.tail _ (.tail _ (.tail _ (.tail _ (.tail _ (.head _))))))
    have q63 := hr (63, _) (.tail _ (.tail _ (.tail _ (.tail _ (.tail _ (.tail _ (.head _)))))))
    have q92 := hr (92, _) (.tail _ (.tail _ (.tail _ (.tail _ (.tail _ (.tail _ (.tail _ (.head _))))))))
    clear hr
    simp only [List.mem_cons, List.not_mem_nil, or_false] at hp
    rcases hp with rfl | rfl | rfl | rfl | rfl | rfl | rfl | rfl | rfl | rfl | rfl | rfl | rfl
    · have hop : o.op = .load 35 (.tmp 1) := (congrArg Oper.op (Option.some.inj ho)).symm
      exact load_ok hop (one_of (q1 (mem_load hop))) (B0.kept hg)
    · have hop : o.op = .load 35 (.tmp 2) := (congrArg Oper.op (Option.some.inj ho)).symm
      exact load_ok hop (one_of (q2 (mem_load hop))) (B2.kept hg)
    · have hop : o.op = .load 35 (.tmp 1) := (congrArg Oper.op (Option.some.inj ho)).symm
      exact load_ok hop (one_of (q1 (mem_load hop))) (B0.kept hg)
    · have hop : o.op = .load 35 (.tmp 3) := (congrArg Oper.op (Option.some.inj ho)).symm
      exact load_ok hop (one_of (q3 (mem_load hop))) (B4.kept hg)
    · have hop : o.op = .load 35 (.tmp 1) := (congrArg Oper.op (Option.some.inj ho)).symm
      exact load_ok hop (one_of (q1 (mem_load hop))) (B0.kept hg)
    · have hop : o.op = .load 35 (.tmp 4) := (congrArg Oper.op (Option.some.inj ho)).symm
      exact load_ok hop (one_of (q4 (mem_load hop))) (B5.kept hg)
    · have hop : o.op = .load 35 (.tmp 1) := (congrArg Oper.op (Option.some.inj ho)).symm
      exact load_ok hop (one_of (q1 (mem_load hop))) (B0.kept hg)
    · have hop : o.op = .load 35 (.tmp 5) := (congrArg Oper.op (Option.some.inj ho)).symm
      exact load_ok hop (one_of (q5 (mem_load hop))) (B6.kept hg)
    · have hop : o.op = .load 35 (.tmp 1) := (congrArg Oper.op (Option.some.inj ho)).symm
      exact load_ok hop (one_of (q1 (mem_load hop))) (B0.kept hg)
    · have hop : o.op = .indexAddr 22 (.tmp 62) (.const (.int .i64 1)) := (congrArg Oper.op (Option.some.inj ho)).symm
      exact index_ok hop (one_of (q62 (mem_index hop)))
    · have hop : o.op = .load 35 (.tmp 63) := (congrArg Oper.op (Option.some.inj ho)).symm
      have hb := B9.kept hg
      exact load6_ok hop (one_of (q63 (mem_load hop))) (hb.cell 6) (hb.cell 7) (hb.cell 8) (hb.cell 9) (hb.cell 10) (hb.cell 11)
    · have hop : o.op = .load 35 (.tmp 4) := (congrArg Oper.op (Option.some.inj ho)).symm
      exact load_ok hop (one_of (q4 (mem_load hop))) (B5.kept hg)
    · have hop : o.op = .call { callee := .builtin .len, args := #[.tmp 92], argTypes := #[46] } := (congrArg Oper.op (Option.some.inj ho)).symm
      obtain ⟨⟨b, us, hv, _⟩, _⟩ := q92 (mem_len hop)
      exact len_ok hop hv
  case hQ =>
    intro vs W10 hg hr
    obtain ⟨⟨q, us, h92, hb, hc⟩, _⟩ := hr (92, _) (.tail _ (.tail _ (.tail _ (.tail _ (.tail _ (.tail _ (.tail _ (.head _)))))))) (by dsimp only; decide)
    have h93 := one_of (hr (93, _) (.tail _ (.tail _ (.tail _ (.tail _ (.tail _ (.tail _ (.tail _ (.tail _ (.head _))))))))) (by decide))
    have h94 := one_of (hr (94, _) (.tail _ (.tail _ (.tail _ (.tail _ (.tail _ (.tail _ (.tail _ (.tail _ (.tail _ (.head _)))))))))) (by decide))
    clear hr
    simp only [List.foldl_cons, List.foldl_nil, List.setIfInBounds_toArray, List.set_cons_zero, List.set_cons_succ]
    rw [h92, h93, h94]
    have HK1 := Lib.hid (HK.out.kept hg)
    have HS1 := Lib.hid (only_trans HS.out hg)
    have HB := Lib.hid hb
    have HC := Lib.hid hc
    have HE := Lib.hid (B0.kept hg)
    have hlt := hb.lt
    clear h92 h93 h94 hg hb hc B0 B1 B2 B3 B4 B5 B6 B7 B8 B9 HK HS
    go_wp2_with fail
    go_loopw [94] (fun i wr => ∃ k : Nat, k ≤ 16 ∧ i = .int .i64 (k : Int) ∧ W10.grownBy wr none) (fun i _ => 16 - (intOf i).toNat)
    case atStart => exact ⟨0, by omega, rfl, only_refl _ _⟩
    case round =>
      obtain ⟨k, hk, rfl, hs⟩ := hrel
      by_cases hk16 : k < 16
      · obtain ⟨V, xs, K, E, r0, r1, r2, hck, hxl, hT⟩ := rows_at (g1 := g1) (g3 := g3) (g8 := g8) (R := R) hk16
        have hbk := HB.out.kept hs
        have hcc := Cells.kept hs _ _ HC.out
        obtain ⟨u, c0, hu⟩ := row_cell hbk hcc r0
        have c1 := row_val hbk hcc r1
        have c2 := row_val hbk hcc r2
        have hTu := hT wr u (HK1.out.kept hs) hu
        have hTv := hTu
        obtain ⟨A, n, hu2, _⟩ := hTv
        subst hu2
        have hk1 : (k : Int) < 16 := by omega
        have hk0 : 0 ≤ (k : Int) := by omega
        have HT := Lib.hid (hTu.keep (.alloc wr (.cells #[.slice A xs.length n, .int .i64 K, .int .i64 E] 45)))
        have HX : Hid (xs.length ≤ 140737488351232) := show _ ≤ _ by omega
        have HCK := Lib.hid hck
        have HSX := Lib.hid (only_trans hs (only_alloc (only_refl wr none) (.cells #[.slice A xs.length n, .int .i64 K, .int .i64 E] 45)))
        have HBX := Lib.hid (Blk.new wr 45 #[.slice A xs.length n, .int .i64 K, .int .i64 E])
        clear r0 r1 r2 hck hxl hT hbk hcc hu hTu hs
        go_wp2_with (go_at_call 8; go_must (refine (check_any xs _ _ HT.out HX.out).mono ?_; rw [HCK.out]; rintro e W8 ⟨rfl, hg⟩; have HG8 := Lib.hid hg; have d1 : W8.cell? ⟨wr.heap.size, 1, none⟩ = some (.int .i64 K) := (HBX.out.kept hg).cell 1; have d2 : W8.cell? ⟨wr.heap.size, 2, none⟩ = some (.int .i64 E) := (HBX.out.kept hg).cell 2; clear hg))
        go_roundw
        case rel => exact ⟨k + 1, by omega, by go_num, only_trans HSX.out HG8.out⟩
        case measure => simp [intOf]; omega
      · have hk3 : (16 : Int) ≤ (k : Int) := by omega
        have s0 : SK g0 g1 g3 g8 R wr.heap.size w (wr.alloc (.cells #[.int .i64 (-1), .int .i64 0] 30)).drew :=
          ⟨only_trans HS1.out (only_trans hs (only_drew (only_alloc (only_refl _ _) _))), HK1.out.kept (only_trans hs (only_drew (only_alloc (only_refl _ _) _))), HE.out.kept (only_trans hs (only_drew (only_alloc (only_refl _ _) _))), Blk.drew (Blk.new _ _ _)⟩
        clear hs HB HC HE HK1 HS1
        go_wp2_with fail
        generalize hW : wr.alloc (Obj.cells #[Value.int IntKind.i64 (-1), Value.int IntKind.i64 0] 30) = W7 at *
        clear hW
        have s := s0
        clear s0
        generalize wr.heap.size = gn at *
        go_region_held3 (fun w' => w'.cell? ⟨g0, 0, none⟩ = some (.int .i64 0) ∧ w'.cell? ⟨g0, 1, none⟩ = some (.int .i64 0) ∧ w'.cell? ⟨g0, 2, none⟩ = some (.bool false) ∧ w'.cell? ⟨g0, 3, none⟩ = some (.int .i64 0) ∧ w'.cell? ⟨g0, 4, none⟩ = some (.int .i64 0) ∧ w'.cell? ⟨g0, 5, none⟩ = some (.slice none 0 0) ∧ w'.cell? ⟨gn, 0, none⟩ = some (.int .i64 (-1)) ∧ w'.cell? ⟨gn, 1, none⟩ = some (.int .i64 0)) (first | exact s.cells | exact (s.alloc _).cells) (first
          | (go_at_call 10; ((with_reducible refine (works_any _).mono ?_); rintro e W8 ⟨rfl, hg⟩); replace s := s.kept hg; clear hg)
          | (go_at_call 11; ((with_reducible refine (res_of (xs := roundL) (t := (0, 0)) (a := (-1, 0)) (by kernel_rfl) (by decide) s.kb.rd).mono ?_); rintro e W8 ⟨rfl, hg⟩); replace s := s.kept hg; clear hg)
          | (go_at_call 11; ((with_reducible refine (res_of (xs := []) (t := (0, 5)) (a := (-1, 0)) (by kernel_rfl) (by decide) (Tbl.nil_ _)).mono ?_); rintro e W8 ⟨rfl, hg⟩); replace s := s.kept hg; clear hg)
          | (go_at_call 11; ((with_reducible refine (res_of (xs := [⟨0, 0, false, (0, 0), []⟩]) (t := (1, 0)) (a := (-1, 0)) (by kernel_rfl) (by decide) (tbl_new _ rfl _)).mono ?_); rintro e W8 ⟨rfl, hg⟩); replace s := (s.alloc _).kept hg; clear hg)
          | (go_at_call 11; ((with_reducible refine (res_of (xs := [⟨0, 0, false, (0, 0), []⟩]) (t := (-3, 2)) (a := (-1, 0)) (by kernel_rfl) (by decide) (tbl_new _ rfl _)).mono ?_); rintro e W8 ⟨rfl, hg⟩); replace s := (s.alloc _).kept hg; clear hg)
          | (go_at_call 11; ((with_reducible refine (res_of (xs := [⟨5, 0, false, (0, 0), []⟩]) (t := (0, 0)) (a := (-1, 0)) (by kernel_rfl) (by decide) (tbl_new _ rfl _)).mono ?_); rintro e W8 ⟨rfl, hg⟩); replace s := (s.alloc _).kept hg; clear hg)
          | (go_at_call 11; ((with_reducible refine (res_of (xs := [⟨9, 0, false, (0, 0), []⟩]) (t := (0, 3)) (a := (0, 3)) (by kernel_rfl) (by decide) (tbl_new _ rfl _)).mono ?_); rintro e W8 ⟨rfl, hg⟩); replace s := (s.alloc _).kept hg; clear hg))
        all_goals (try go_wp2)
        all_goals (go_ret; exact ⟨rfl, s.step⟩)
end Go.Proofs.Ythjkgjkiikomdaa

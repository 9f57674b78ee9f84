/- DualKnown: the walk, from the contracts. -/
import Derived.Test.YtacjkkhignjmnaaDTables
import Derived.Test.YtacjkkhignjmnaaGrow
import Derived.Deep.CutBlock
import Derived.Deep.CutRange
namespace Go.Proofs.Ytacjkkhignjmnaa
open Go.RowKit Go.Shelf

abbrev kn0 : List Nd := [⟨1, 3, false, (0, 0), [(1, 2)]⟩, ⟨0, 0, false, (0, 0), []⟩]
abbrev kn4 : List Nd := [⟨1, 3, false, (0, 0), [(1, 2)]⟩, ⟨0, 0, false, (0, 0), []⟩, ⟨2, 3, false, (0, 0), [(3, 2)]⟩, ⟨0, 0, false, (0, 0), []⟩]
abbrev knR : Nd := ⟨5, 0, false, (0, 0), [(0, 0)]⟩
abbrev knM : List Nd := [⟨3, 0, false, (0, 0), [(1, 0), (0, 9)]⟩, ⟨5, 0, false, (0, 0), [(2, 1)]⟩, ⟨0, 0, false, (0, 0), []⟩]
abbrev kn6 : List Nd := [⟨3, 0, false, (0, 0), [(1, 0), (0, 9)]⟩, ⟨5, 0, false, (0, 0), [(2, 1)]⟩, ⟨0, 0, false, (0, 0), []⟩, ⟨4, 0, false, (0, 0), [(4, 0), (3, 9)]⟩, ⟨5, 0, false, (0, 0), [(5, 1)]⟩, ⟨0, 0, false, (0, 0), []⟩]
theorem kn_t0 : tableL kn0 = kn4 := by kernel_rfl
theorem kn_tn : tableL [] = [] := by kernel_rfl
theorem kn_tm : tableL (List.replicate 65 zeroN) = [] := by kernel_rfl
theorem kn_tr : tableL [knR] = [] := by kernel_rfl
theorem kn_t6 : tableL knM = kn6 := by kernel_rfl
theorem kn_m1 : matesB kn6 (1, 2) (5, 3) = true := by kernel_rfl
theorem kn_m2 : matesB kn6 (1, 2) (5, 2) = false := by kernel_rfl
theorem kn_m3 : matesB (kn6.take 5) (0, 0) (3, 0) = false := by kernel_rfl
theorem kn_m4 : matesB kn6 (-1, 0) (1, 2) = false := by kernel_rfl
theorem kn_m5 : matesB kn6 (6, 0) (1, 2) = false := by kernel_rfl

/-! ### What single operations answer -/
section
variable {o : Oper} {b : Act} {W : World} {K : Act → World → Prop} {Q : Exit → Act → World → Prop}
theorem wp_call1 {f : FuncId} {x : Operand} {c : Value} {ts : Array TypeId} {R : Ending → World → Prop} (ho : o.op = .call { callee := .value (.func f), args := #[x], argTypes := ts }) (hx : b.eval x = c) (hrun : ∀ W, (callFunc f #[c]).run Try.prog W = .ok (.enter f #[c]) W)
    (hc : Calls Try.prog f #[c] W R) (hR : ∀ e W', R e W' → ∃ x, e = .returned x ∧ K (b.put o.dst x) W') : o.wp Try.prog b W K Q := by
  obtain ⟨dst, op, type, pos, after, guard⟩ := o
  dsimp only at ho
  subst ho
  have hr : (execOp b.eval ⟨dst, .call { callee := .value (.func f), args := #[x], argTypes := ts }, type, pos, after, guard⟩).run Try.prog W = .ok (.enter f #[c]) W := by
    have he : b.eval (.func f) = .func (.func f) #[] #[] := rfl
    simp [execOp, resolve, Deferred.ofValue, invoke, hx, he, hrun W]
  unfold Oper.wp
  rw [hr, Oper.upon_enter]
  refine hc.mono fun e w'' hh => ?_
  obtain ⟨x, rfl, hk⟩ := hR e w'' hh
  exact hk
theorem wp_assign {t : Tmp} (ho : o.op = .assign (.tmp t)) (hK : K (b.put o.dst (b.eval (.tmp t))) W) : o.wp Try.prog b W K Q := by
  obtain ⟨dst, op, type, pos, after, guard⟩ := o
  dsimp only at ho
  subst ho
  exact hK
theorem wp_edge0 (ho : o.op = .build 26 #[]) (hK : K (b.put o.dst (.agg (edCells (0, 0)))) W) : o.wp Try.prog b W K Q := by
  obtain ⟨dst, op, type, pos, after, guard⟩ := o
  dsimp only at ho
  subst ho
  unfold Oper.wp
  simp only [execOp]
  go_simp
  exact hK
theorem wp_edges1 {t : Tmp} (ho : o.op = .buildSlice 27 1 #[(0, .tmp t)]) (h : b.eval (.tmp t) = .agg (edCells (0, 0)))
    (hK : K (b.put o.dst (.slice (some ⟨W.heap.size, 0, none⟩) 1 1)) (W.alloc (.cells (edCells (0, 0)) 26))) : o.wp Try.prog b W K Q := by
  obtain ⟨dst, op, type, pos, after, guard⟩ := o
  dsimp only at ho
  subst ho
  have h' : b.tmps[t]?.getD undef = .agg #[.int .i64 0, .int .i64 0] := by simpa [Act.eval] using h
  unfold Oper.wp
  simp only [execOp]
  go_simp
  exact hK
theorem wp_node5 {t : Tmp} {g : Nat} (ho : o.op = .build 29 #[(0, .const (.int .i64 5)), (4, .tmp t)]) (h : b.eval (.tmp t) = .slice (some ⟨g, 0, none⟩) 1 1)
    (hK : K (b.put o.dst (ndV knR (.slice (some ⟨g, 0, none⟩) 1 1))) W) : o.wp Try.prog b W K Q := by
  obtain ⟨dst, op, type, pos, after, guard⟩ := o
  dsimp only at ho
  subst ho
  have h' : b.tmps[t]?.getD undef = .slice (some ⟨g, 0, none⟩) 1 1 := by simpa [Act.eval] using h
  unfold Oper.wp
  simp only [execOp]
  go_simp
  exact hK
theorem wp_nodes1 {t : Tmp} {z : Nd} {A : Option Addr} {n c : Nat} (ho : o.op = .buildSlice 22 1 #[(0, .tmp t)]) (h : b.eval (.tmp t) = ndV z (.slice A n c))
    (hK : K (b.put o.dst (.slice (some ⟨W.heap.size, 0, none⟩) 1 1)) (W.alloc (.cells (ndCells z (.slice A n c)) 29))) : o.wp Try.prog b W K Q := by
  obtain ⟨dst, op, type, pos, after, guard⟩ := o
  dsimp only at ho
  subst ho
  have h' : b.tmps[t]?.getD undef = .agg #[.int .i64 z.kind, .int .i64 z.prio, .bool z.chan, .int .i64 z.pay.1, .int .i64 z.pay.2, .slice A n c] := by simpa [Act.eval] using h
  unfold Oper.wp
  simp only [execOp]
  go_simp
  exact hK
theorem wp_make65 (ho : o.op = .makeSlice 22 (.const (.int .i64 65)) (.const (.int .i64 65)))
    (hK : ∀ v W', Tbl W' v (List.replicate 65 zeroN) → W.grownBy W' none → K (b.put o.dst v) W') : o.wp Try.prog b W K Q := by
  obtain ⟨i0, hi, hz0, hz1, hz2⟩ := info_parts node_info
  have hr := run_make (P := Try.prog) W 22 29 i0 _ Try.underlying22 hi hz0 .i64 .i64 (65 : Int) (65 : Int) (by omega) (Int.le_refl _) (by rw [hz2]; decide) (by omega)
  have hot : OT W.heap.size (W.alloc (.cells (madeCells (Value.agg #[.int .i64 0, .int .i64 0, .bool false, .int .i64 0, .int .i64 0, .slice none 0 0]).cells (65 * i0.size)) 29)) (.slice (some ⟨W.heap.size, 0, none⟩) 65 65) (List.replicate 65 (zeroN, .slice none 0 0)) := by
    refine ⟨?_, fun p hp => ?_⟩
    · rw [List.length_replicate, ← zeros_cells, hz1]
      exact World.ownsRow_lit W _ 65 (Nat.le_refl _) (by unfold maxLen; omega) (size_madeCells _ _)
    · obtain ⟨_, rfl⟩ := List.mem_replicate.1 hp
      exact EdgesO.nil_
  have ht := hot.tbl
  rw [List.map_replicate] at ht
  have hl : b.eval (.const (.int .i64 65)) = .int .i64 65 := rfl
  unfold Oper.wp
  simp [execOp, ho, hl, hr, Result.andThen]
  exact hK _ _ ht (World.grownBy_alloc W _ none)
end

/-- What each slot of the region holds. -/
def RK (t : Tmp) (v : Value) (W : World) : Prop :=
  if t = 63 then Tbl W v (List.replicate 65 zeroN) else if t = 65 then v = .agg (edCells (0, 0)) else if t = 66 then ∃ g, v = .slice (some ⟨g, 0, none⟩) 1 1 ∧ Blk W g 26 (edCells (0, 0))
  else if t = 67 then ∃ g, v = ndV knR (.slice (some ⟨g, 0, none⟩) 1 1) ∧ Blk W g 26 (edCells (0, 0)) else if t = 68 then Tbl W v [knR] else if t = 62 ∨ t = 64 ∨ t = 69 ∨ t = 2 ∨ t = 3 ∨ t = 4 then ∃ A c, v = .slice A 0 c else True
theorem rk_keep (t : Tmp) (v : Value) (W W' : World) (h : RK t v W) (hg : W.grownBy W' none) : RK t v W' := by
  unfold RK at h ⊢
  split at h
  · rename_i e; rw [if_pos e]; exact h.keep (.grown hg)
  · rename_i e1
    rw [if_neg e1]
    split at h
    · rename_i e; rw [if_pos e]; exact h
    · rename_i e2
      rw [if_neg e2]
      split at h
      · rename_i e
        rw [if_pos e]
        obtain ⟨g, h1, h2⟩ := h
        exact ⟨g, h1, h2.kept hg⟩
      · rename_i e3
        rw [if_neg e3]
        split at h
        · rename_i e
          rw [if_pos e]
          obtain ⟨g, h1, h2⟩ := h
          exact ⟨g, h1, h2.kept hg⟩
        · rename_i e4
          rw [if_neg e4]
          split at h
          · rename_i e; rw [if_pos e]; exact h.keep (.grown hg)
          · rename_i e5
            rw [if_neg e5]
            exact h
theorem tbl_oneD {W : World} {g : Nat} {x : Nd} {v : Value} {c : Nat} (hb : Blk W g 29 (ndCells x v)) (h1 : Edges W v x.next) : Tbl W (.slice (some ⟨g, 0, none⟩) 1 c) [x] :=
  ⟨_, _, rfl, fun _ => ⟨g, 0, rfl, fun i z hz => by
    match i, hz with
    | 0, hz => cases hz; exact ⟨v, h1, hb.cell 0, hb.cell 1, hb.cell 2, hb.cell 3, hb.cell 4, hb.cell 5⟩
    | i + 1, hz => simp at hz⟩⟩
theorem edges_twoD {W : World} {g : Nat} {t : TypeId} {e f : Ed} {c : Nat} (h : Blk W g t (edCells e ++ edCells f)) : Edges W (.slice (some ⟨g, 0, none⟩) 2 c) [e, f] :=
  ⟨_, _, rfl, by simp, fun _ => ⟨g, 0, rfl, fun i x hx => by
    match i, hx with
    | 0, hx => cases hx; exact ⟨h.cell 0, h.cell 1⟩
    | 1, hx => cases hx; exact ⟨h.cell 2, h.cell 3⟩
    | i + 2, hx => simp at hx⟩⟩
abbrev nd3 (x : Nd) (v1 : Value) (y : Nd) (v2 : Value) (z : Nd) (v3 : Value) : Array Value := #[.int .i64 x.kind, .int .i64 x.prio, .bool x.chan, .int .i64 x.pay.1, .int .i64 x.pay.2, v1, .int .i64 y.kind, .int .i64 y.prio, .bool y.chan, .int .i64 y.pay.1, .int .i64 y.pay.2, v2, .int .i64 z.kind, .int .i64 z.prio, .bool z.chan, .int .i64 z.pay.1, .int .i64 z.pay.2, v3]
theorem tbl_threeD {W : World} {g : Nat} {x y z : Nd} {v1 v2 v3 : Value} (hb : Blk W g 29 (nd3 x v1 y v2 z v3)) (h1 : Edges W v1 x.next) (h2 : Edges W v2 y.next) (h3 : Edges W v3 z.next) : Tbl W (.slice (some ⟨g, 0, none⟩) 3 3) [x, y, z] :=
  ⟨_, _, rfl, fun _ => ⟨g, 0, rfl, fun i u hu => by
    match i, hu with
    | 0, hu => cases hu; exact ⟨v1, h1, hb.cell 0, hb.cell 1, hb.cell 2, hb.cell 3, hb.cell 4, hb.cell 5⟩
    | 1, hu => cases hu; exact ⟨v2, h2, hb.cell 6, hb.cell 7, hb.cell 8, hb.cell 9, hb.cell 10, hb.cell 11⟩
    | 2, hu => cases hu; exact ⟨v3, h3, hb.cell 12, hb.cell 13, hb.cell 14, hb.cell 15, hb.cell 16, hb.cell 17⟩
    | i + 3, hu => simp at hu⟩⟩
theorem made_cap {w W : World} {l : List Nd} {A : Option Addr} {n c : Nat} (h : MadeT w l (.returned (.slice A n c)) W) : n ≤ c := by
  obtain ⟨⟨u, ns, he, hot, _⟩, _⟩ := h
  injection he with he
  subst he
  rcases hot.row.2 with ⟨h1, _⟩ | ⟨g, cap, cur, h1, _, _, h2, _⟩
  · simp only [Value.slice.injEq] at h1
    omega
  · simp only [Value.slice.injEq] at h1
    omega
theorem made_none {w w' : World} {e : Ending} (h : MadeT w [] e w') : ∃ A c, e = .returned (.slice A 0 c) ∧ w.grownBy w' none := by
  obtain ⟨A, c, h1, h2, h3⟩ := madeT_tbl h
  exact ⟨A, c, h1, h3⟩
/-- What stands as the last line is reckoned. -/
structure KW (w : World) (v : Value) (ga : Nat) (W : World) : Prop where
  gr : w.grownBy W none
  tb : Tbl W v kn6
  a : Blk W ga 40 (edCells (1, 2))
  b : Blk W (ga + 1) 40 (edCells (5, 3))
theorem KW.kept {w W W' : World} {v : Value} {ga : Nat} (h : KW w v ga W) (hg : W.grownBy W' none) : KW w v ga W' := ⟨only_trans h.gr hg, h.tb.keep (.grown hg), h.a.kept hg, h.b.kept hg⟩
theorem KW.cells {w W : World} {v : Value} {ga : Nat} (h : KW w v ga W) : W.cell? ⟨ga, 0, none⟩ = some (.int .i64 1) ∧ W.cell? ⟨ga, 1, none⟩ = some (.int .i64 2) := ⟨h.a.cell 0, h.a.cell 1⟩

set_option maxRecDepth 100000 in
set_option maxHeartbeats 4000000 in
theorem dknown_of (hC : TabC) (hM : MateC) (hS : MatesC) (w : World) : Calls Try.prog 6 #[] w fun e w' => e = .returned (.bool true) ∧ w.grownBy w' none := by
  have HC := Lib.hid hC
  have HM := Lib.hid hM
  have HS := Lib.hid hS
  clear hC hM hS
  go_enter Try.func6, Try.ntmps6
  go_wp2_with fail
  generalize hW : World.alloc _ _ = W1
  have e1 : Blk W1 w.heap.size 26 (edCells (1, 2)) := by rw [← hW]; repeat (first | (refine blk_at ?_ _ _; simp; done) | exact Blk.new _ _ _ | refine Blk.alloc ?_ _)
  have b1 : Blk W1 (w.heap.size + 1) 29 (ndCells ⟨1, 3, false, (0, 0), [(1, 2)]⟩ (.slice (some ⟨w.heap.size, 0, none⟩) 1 1) ++ ndCells ⟨0, 0, false, (0, 0), []⟩ (.slice none 0 0)) := by rw [← hW]; repeat (first | (refine blk_at ?_ _ _; simp; done) | refine Blk.alloc ?_ _)
  have hg : w.grownBy W1 none := by rw [← hW]; repeat (first | exact only_refl _ _ | refine only_alloc ?_ _)
  have hT : Tbl W1 (.slice (some ⟨w.heap.size + 1, 0, none⟩) 2 2) kn0 := tbl_twoD b1 (edges_oneD e1) (Edges.nil_ _)
  have HG := Lib.hid hg
  clear e1 b1 hg hW
  refine (HC.out kn0 _ _ hT (by decide)).mono ?_
  rw [kn_t0]
  rintro e W2 hmt
  obtain ⟨A, c, rfl, ht2, hg2⟩ := madeT_tbl hmt
  have HG2 := Lib.hid (only_trans HG.out hg2)
  obtain ⟨A', c', hA, hcl⟩ := ht2
  obtain ⟨b, off, hAb, hcl2⟩ := hcl (by simp)
  obtain ⟨rfl, rfl⟩ : A = A' ∧ c = c' := by simpa using hA
  subst hAb
  obtain ⟨b2, o2, c2, n0, n1, n2, n3, n4, n5, e0, e1⟩ := tbl_node1 (hcl2 2 _ rfl) rfl
  obtain ⟨v3, _, k0, _⟩ := hcl2 3 _ rfl
  have n0 : W2.cell? ⟨b, off + 12, none⟩ = some (.int .i64 2) := n0
  have n1 : W2.cell? ⟨b, off + 12 + 1, none⟩ = some (.int .i64 3) := n1
  have n2 : W2.cell? ⟨b, off + 12 + 2, none⟩ = some (.bool false) := n2
  have n5 : W2.cell? ⟨b, off + 12 + 5, none⟩ = some (.slice (some ⟨b2, o2, none⟩) 1 c2) := n5
  have e0 : W2.cell? ⟨b2, o2, none⟩ = some (.int .i64 3) := e0
  have e1 : W2.cell? ⟨b2, o2 + 1, none⟩ = some (.int .i64 2) := e1
  have k0 : W2.cell? ⟨b, off + 18, none⟩ = some (.int .i64 0) := k0
  clear hcl hcl2 n3 n4 hmt hg2 hA hT
  go_upto_region 4 with fail
  go_cut [2, 3, 4] from 62 to 69 (fun x y z wx => ((∃ A c, x = .slice A 0 c) ∧ (∃ A c, y = .slice A 0 c) ∧ (∃ A c, z = .slice A 0 c)) ∧ W2.grownBy wx none)
  case first =>
    have hrun : ∀ {args : Array Value} W, (callFunc 7 args).run Try.prog W = .ok (.enter 7 args) W := fun W => enters_of Try.func7 (by kernel_rfl) rfl _ W
    clear n0 n1 n2 n5 e0 e1 k0
    refine region_grows (by kernel_rfl) (by kernel_rfl) [62, 63, 64, 65, 66, 67, 68, 69, 2, 3, 4] (by kernel_rfl) (by kernel_rfl) (by decide) RK rk_keep ?h0 ?hops ?hQ
    case h0 =>
      intro t ht
      simp only [List.mem_cons, List.not_mem_nil, or_false, not_or] at ht
      obtain ⟨h1, h2, h3, h4, h5, h6, h7, h8, h9, h10, h11⟩ := ht
      unfold RK
      rw [if_neg h2, if_neg h4, if_neg h5, if_neg h6, if_neg h7, if_neg (by simp only [h1, h3, h8, h9, h10, h11, or_self, not_false_eq_true])]
      trivial
    case hops =>
      refine ⟨⟨62, rfl, fun b W hg he => ?_⟩, ⟨63, rfl, fun b W hg he => ?_⟩, ⟨64, rfl, fun b W hg he => ?_⟩, ⟨65, rfl, fun b W hg he => ?_⟩, ⟨66, rfl, fun b W hg he => ?_⟩, ⟨67, rfl, fun b W hg he => ?_⟩, ⟨68, rfl, fun b W hg he => ?_⟩, ⟨69, rfl, fun b W hg he => ?_⟩, ⟨2, rfl, fun b W hg he => ?_⟩, ⟨3, rfl, fun b W hg he => ?_⟩, ⟨4, rfl, fun b W hg he => ?_⟩, trivial⟩
      · refine wp_call1 rfl rfl (fun W => hrun W) (HC.out [] _ W (Tbl.nil_ W) (by decide)) (fun e W' h => ?_)
        rw [kn_tn] at h
        obtain ⟨A, c, rfl, hg'⟩ := made_none h
        exact ⟨_, rfl, _, rfl, hg', A, c, rfl⟩
      · exact wp_make65 rfl fun v W' ht hg' => ⟨v, rfl, hg', ht⟩
      · have h63 : Tbl W (b.eval (.tmp 63)) (List.replicate 65 zeroN) := he 63 (by simp [Op.operands, Call.operands])
        refine wp_call1 rfl rfl (fun W => hrun W) (HC.out _ _ W h63 (by decide)) (fun e W' h => ?_)
        rw [kn_tm] at h
        obtain ⟨A, c, rfl, hg'⟩ := made_none h
        exact ⟨_, rfl, _, rfl, hg', A, c, rfl⟩
      · exact wp_edge0 rfl ⟨_, rfl, only_refl _ _, rfl⟩
      · have h65 : b.eval (.tmp 65) = .agg (edCells (0, 0)) := he 65 (by simp [Op.operands])
        exact wp_edges1 rfl h65 ⟨_, rfl, only_alloc (only_refl _ _) _, W.heap.size, rfl, Blk.new _ _ _⟩
      · obtain ⟨g, h1, h2⟩ : ∃ g, b.eval (.tmp 66) = .slice (some ⟨g, 0, none⟩) 1 1 ∧ Blk W g 26 (edCells (0, 0)) := he 66 (by simp [Op.operands])
        exact wp_node5 rfl h1 ⟨_, rfl, only_refl _ _, g, rfl, h2⟩
      · obtain ⟨g, h1, h2⟩ : ∃ g, b.eval (.tmp 67) = ndV knR (.slice (some ⟨g, 0, none⟩) 1 1) ∧ Blk W g 26 (edCells (0, 0)) := he 67 (by simp [Op.operands])
        exact wp_nodes1 rfl h1 ⟨_, rfl, only_alloc (only_refl _ _) _, tbl_oneD (Blk.new _ _ _) (edges_oneD (h2.alloc _))⟩
      · have h68 : Tbl W (b.eval (.tmp 68)) [knR] := he 68 (by simp [Op.operands, Call.operands])
        refine wp_call1 rfl rfl (fun W => hrun W) (HC.out _ _ W h68 (by decide)) (fun e W' h => ?_)
        rw [kn_tr] at h
        obtain ⟨A, c, rfl, hg'⟩ := made_none h
        exact ⟨_, rfl, _, rfl, hg', A, c, rfl⟩
      · have h62 : ∃ A c, b.eval (.tmp 62) = .slice A 0 c := he 62 (by simp [Op.operands])
        exact wp_assign rfl ⟨_, rfl, only_refl _ _, h62⟩
      · have h64 : ∃ A c, b.eval (.tmp 64) = .slice A 0 c := he 64 (by simp [Op.operands])
        exact wp_assign rfl ⟨_, rfl, only_refl _ _, h64⟩
      · have h69 : ∃ A c, b.eval (.tmp 69) = .slice A 0 c := he 69 (by simp [Op.operands])
        exact wp_assign rfl ⟨_, rfl, only_refl _ _, h69⟩
    case hQ =>
      intro vs W hg hv
      have HZ : Hid (((∃ A c, vs 2 = .slice A 0 c) ∧ (∃ A c, vs 3 = .slice A 0 c) ∧ (∃ A c, vs 4 = .slice A 0 c)) ∧ W2.grownBy W none) := Lib.hid ⟨⟨hv 2 (by decide), hv 3 (by decide), hv 4 (by decide)⟩, hg⟩
      clear hv hg
      simp only [List.foldl_cons, List.foldl_nil, List.setIfInBounds_toArray, List.set_cons_zero, List.set_cons_succ]
      go_wp2_with fail
      go_meet
      exact HZ.out
  case rest =>
    obtain ⟨⟨⟨A2, c2', rfl⟩, ⟨A3, c3', rfl⟩, ⟨A4, c4', rfl⟩⟩, hg⟩ := hcut
    have HG3 := Lib.hid (only_trans HG2.out hg)
    clear hg n0 n1 n2 n5 e0 e1 k0
    go_wp2_with fail
    generalize hW : World.alloc _ _ = W5
    have f1 : Blk W5 wc.heap.size 26 (edCells (1, 0) ++ edCells (0, 9)) := by rw [← hW]; repeat (first | (refine blk_at ?_ _ _; simp; done) | exact Blk.new _ _ _ | refine Blk.alloc ?_ _)
    have f2 : Blk W5 (wc.heap.size + 1) 26 (edCells (2, 1)) := by rw [← hW]; repeat (first | (refine blk_at ?_ _ _; simp; done) | refine Blk.alloc ?_ _)
    have f3 : Blk W5 (wc.heap.size + 1 + 1) 29 (nd3 ⟨3, 0, false, (0, 0), [(1, 0), (0, 9)]⟩ (.slice (some ⟨wc.heap.size, 0, none⟩) 2 2) ⟨5, 0, false, (0, 0), [(2, 1)]⟩ (.slice (some ⟨wc.heap.size + 1, 0, none⟩) 1 1) ⟨0, 0, false, (0, 0), []⟩ (.slice none 0 0)) := by rw [← hW]; repeat (first | (refine blk_at ?_ _ _; simp; done) | refine Blk.alloc ?_ _)
    have hg5 : wc.grownBy W5 none := by rw [← hW]; repeat (first | exact only_refl _ _ | refine only_alloc ?_ _)
    have hT5 : Tbl W5 (.slice (some ⟨wc.heap.size + 1 + 1, 0, none⟩) 3 3) knM := tbl_threeD f3 (edges_twoD f1) (edges_oneD f2) (Edges.nil_ _)
    have HG5 := Lib.hid (only_trans HG3.out hg5)
    clear f1 f2 f3 hg5 hW
    refine (HC.out knM _ _ hT5 (by decide)).mono ?_
    rw [kn_t6]
    rintro e W6 hmt
    obtain ⟨A, c6, rfl, ht6, hg6⟩ := madeT_tbl hmt
    have hc6 : 6 ≤ c6 := made_cap hmt
    have hc5 : (5 : Int) ≤ (c6 : Int) := by omega
    have HGc := Lib.hid (only_trans HG5.out hg6)
    have HT6 := Lib.hid ht6
    obtain ⟨A', c', hA, hcl⟩ := ht6
    obtain ⟨b6, off6, hAb, hcl2⟩ := hcl (by simp)
    obtain ⟨rfl, rfl⟩ : A = A' ∧ c6 = c' := by simpa using hA
    subst hAb
    obtain ⟨v3, ⟨A9, c9, rfl, _, hcl9⟩, p0, _, _, _, _, p5⟩ := hcl2 3 _ rfl
    obtain ⟨b9, o9, rfl, hc9⟩ := hcl9 (by simp)
    obtain ⟨_, _⟩ := hc9 0 _ rfl
    obtain ⟨g0, g1⟩ := hc9 1 _ rfl
    obtain ⟨b2, o2, c2, n0, _, _, _, _, n5, e0, e1⟩ := tbl_node1 (hcl2 4 _ rfl) rfl
    have p0 : W6.cell? ⟨b6, off6 + 18, none⟩ = some (.int .i64 4) := p0
    have p5 : W6.cell? ⟨b6, off6 + 18 + 5, none⟩ = some (.slice (some ⟨b9, o9, none⟩) 2 c9) := p5
    have g0 : W6.cell? ⟨b9, o9 + 2, none⟩ = some (.int .i64 3) := g0
    have g1 : W6.cell? ⟨b9, o9 + 2 + 1, none⟩ = some (.int .i64 9) := g1
    have n0 : W6.cell? ⟨b6, off6 + 24, none⟩ = some (.int .i64 5) := n0
    have n5 : W6.cell? ⟨b6, off6 + 24 + 5, none⟩ = some (.slice (some ⟨b2, o2, none⟩) 1 c2) := n5
    have e0 : W6.cell? ⟨b2, o2, none⟩ = some (.int .i64 5) := e0
    have e1 : W6.cell? ⟨b2, o2 + 1, none⟩ = some (.int .i64 1) := e1
    clear hcl hcl2 hcl9 hc9 hmt hg6 hA hT5
    go_upto_region 8 with fail
    clear p0 p5 g0 g1 n0 n5 e0 e1
    go_wp2_with fail
    generalize hW : World.alloc _ _ = W7
    have a1 : Blk W7 W6.heap.size 40 (edCells (1, 2)) := by rw [← hW]; repeat (first | (refine blk_at ?_ _ _; simp; done) | exact Blk.new _ _ _ | refine Blk.alloc ?_ _)
    have a2 : Blk W7 (W6.heap.size + 1) 40 (edCells (5, 3)) := by rw [← hW]; repeat (first | (refine blk_at ?_ _ _; simp; done) | refine Blk.alloc ?_ _)
    have hg7 : W6.grownBy W7 none := by rw [← hW]; repeat (first | exact only_refl _ _ | refine only_alloc ?_ _)
    have HK7 : Hid (KW w (.slice (some ⟨b6, off6, none⟩) 6 c6) W6.heap.size W7) := Lib.hid ⟨only_trans HGc.out hg7, HT6.out.keep (.grown hg7), a1, a2⟩
    clear a1 a2 hg7 hW HT6
    generalize W6.heap.size = ga at *
    refine (HS.out kn6 _ (1, 2) (5, 3) _ HK7.out.tb (by decide)).mono ?_
    rw [kn_m1]
    rintro e W8 ⟨rfl, hg8⟩
    have HK8 := Lib.hid (HK7.out.kept hg8)
    obtain ⟨x0, x1⟩ := HK8.out.cells
    clear hg8
    go_wp2_with fail
    refine (HS.out kn6 _ (1, 2) (5, 2) _ HK8.out.tb (by decide)).mono ?_
    rw [kn_m2]
    rintro e W9 ⟨rfl, hg9⟩
    have HK9 := Lib.hid (HK8.out.kept hg9)
    clear hg9 x0 x1
    obtain ⟨x0, x1⟩ := HK9.out.cells
    go_wp2_with fail
    refine (HS.out (kn6.take 5) _ (0, 0) (3, 0) _ (HK9.out.tb.take (m := 5) (by decide)) (by decide)).mono ?_
    rw [kn_m3]
    rintro e W10 ⟨rfl, hg10⟩
    have HK10 := Lib.hid (HK9.out.kept hg10)
    clear hg10 x0 x1
    obtain ⟨x0, x1⟩ := HK10.out.cells
    go_wp2_with fail
    refine (HS.out kn6 _ (-1, 0) (1, 2) _ HK10.out.tb (by decide)).mono ?_
    rw [kn_m4]
    rintro e W11 ⟨rfl, hg11⟩
    have HK11 := Lib.hid (HK10.out.kept hg11)
    clear hg11 x0 x1
    obtain ⟨x0, x1⟩ := HK11.out.cells
    go_wp2_with fail
    refine (HS.out kn6 _ (6, 0) (1, 2) _ HK11.out.tb (by decide)).mono ?_
    rw [kn_m5]
    rintro e W12 ⟨rfl, hg12⟩
    have HK12 := Lib.hid (HK11.out.kept hg12)
    clear hg12 x0 x1
    obtain ⟨x0, x1⟩ := HK12.out.cells
    go_wp2_with fail
    refine (HM.out 0 0 _ (by decide) (by decide) (by decide) (by decide)).mono ?_
    rw [show mateA 0 0 = -1 by decide]
    rintro e W13 ⟨rfl, hg13⟩
    have HK13 := Lib.hid (HK12.out.kept hg13)
    clear hg13
    go_wp2_with fail
    refine (HM.out 3 6 _ (by decide) (by decide) (by decide) (by decide)).mono ?_
    rw [show mateA 3 6 = -1 by decide]
    rintro e W14 ⟨rfl, hg14⟩
    have HK14 := Lib.hid (HK13.out.kept hg14)
    clear hg14
    go_wp2_with fail
    refine (HM.out 3 (-1) _ (by decide) (by decide) (by decide) (by decide)).mono ?_
    rw [show mateA 3 (-1) = -1 by decide]
    rintro e W15 ⟨rfl, hg15⟩
    have HK15 := Lib.hid (HK14.out.kept hg15)
    clear hg15
    go_wp2_with fail
    refine (HM.out 3 5 _ (by decide) (by decide) (by decide) (by decide)).mono ?_
    rw [show mateA 3 5 = 2 by decide]
    rintro e W16 ⟨rfl, hg16⟩
    have HK16 := Lib.hid (HK15.out.kept hg16)
    clear hg16
    go_wp2_with fail
    refine (HM.out (-2) 0 _ (by decide) (by decide) (by decide) (by decide)).mono ?_
    rw [show mateA (-2) 0 = -1 by decide]
    rintro e W17 ⟨rfl, hg17⟩
    have HK17 := Lib.hid (HK16.out.kept hg17)
    clear hg17
    go_wp2_with fail
    refine (dworks_of HC.out HM.out HS.out _).mono ?_
    rintro e W18 ⟨rfl, hg18⟩
    have HK18 := Lib.hid (HK17.out.kept hg18)
    clear hg18
    go_wp2_with fail
    go_ret
    exact ⟨rfl, HK18.out.gr⟩
end Go.Proofs.Ytacjkkhignjmnaa

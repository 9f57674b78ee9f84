/- Rows of zeros, in a region that draws its order: what stage 8's list of 129 nodes, and its node of nine edges, need. No walk. -/
import Derived.Test.YtoklaajiajilhaaDoorGrow
import Derived.Test.YtoklaajiajilhaaDoorUApp
import Derived.Test.YtoklaajiajilhaaDoorUKnF
import Derived.Test.YtoklaajiajilhaaDoorRws
namespace Go.Proofs.YtoklaajiajilhaaDoor
open Go.RowKit

section
variable {o : Oper} {b : Act} {W : World} {K : Act → World → Prop} {Q : Exit → Act → World → Prop}
theorem wpU_assign {t : Tmp} (ho : o.op = .assign (.tmp t)) (hK : K (b.put o.dst (b.eval (.tmp t))) W) : o.wp Tryd.prog b W K Q := by
  obtain ⟨dst, op, type, pos, after, guard⟩ := o
  dsimp only at ho
  subst ho
  exact hK
theorem wpU_nodes {n : Nat} (hn : n ≤ 1000) (ho : o.op = .makeSlice 22 (.const (.int .i64 (n : Int))) (.const (.int .i64 (n : Int))))
    (hK : ∀ v W', Tbl W' v (kBig n) → W.grownBy W' none → K (b.put o.dst v) W') : o.wp Tryd.prog b W K Q := by
  obtain ⟨i0, hi, hz0, hz1, hz2⟩ := info_parts node_info
  have hr := run_make (P := Tryd.prog) W 22 39 i0 _ Tryd.underlying22 hi hz0 .i64 .i64 (n : Int) (n : Int) (by omega) (Int.le_refl _) (by rw [hz2]; omega) (by omega)
  simp only [Int.toNat_natCast] at hr
  have hot : OT W.heap.size (W.alloc (.cells (madeCells (Value.agg #[.int .i64 0, .int .i64 0, .bool false, .int .i64 0, .int .i64 0, .slice none 0 0]).cells (n * i0.size)) 39)) (.slice (some ⟨W.heap.size, 0, none⟩) n n) (List.replicate n (kEnd, .slice none 0 0)) := by
    refine ⟨?_, fun p hp => ?_⟩
    · have := zeros_cells n
      rw [List.length_replicate, ← zeros_cells, hz1]
      exact World.ownsRow_lit W _ n (Nat.le_refl _) (by unfold maxLen; omega) (size_madeCells _ _)
    · obtain ⟨_, rfl⟩ := List.mem_replicate.1 hp
      exact EdgesO.nil_
  have ht := hot.tbl
  rw [List.map_replicate] at ht
  have hl : b.eval (.const (.int .i64 (n : Int))) = .int .i64 (n : Int) := rfl
  unfold Oper.wp
  simp [execOp, ho, hl, hr, Result.andThen]
  exact hK _ _ ht (World.grownBy_alloc W _ none)
theorem edge_infoU : (Tryd.prog.info? 36).map (fun i => (i.zero, i.size, i.bytes)) = some (some (.agg #[.int .i64 0, .int .i64 0]), 2, 16) := by kernel_rfl
theorem wpU_edges (ho : o.op = .makeSlice 37 (.const (.int .i64 9)) (.const (.int .i64 9)))
    (hK : ∀ g W', Edges W' (.slice (some ⟨g, 0, none⟩) 9 9) (List.replicate 9 (0, 0)) → W.grownBy W' none → K (b.put o.dst (.slice (some ⟨g, 0, none⟩) 9 9)) W') : o.wp Tryd.prog b W K Q := by
  obtain ⟨i0, hi, hz0, hz1, hz2⟩ := info_parts edge_infoU
  have hr := run_make (P := Tryd.prog) W 37 36 i0 _ Tryd.underlying37 hi hz0 .i64 .i64 (9 : Int) (9 : Int) (by omega) (Int.le_refl _) (by rw [hz2]; decide) (by omega)
  have hc : madeCells (Value.agg #[.int .i64 0, .int .i64 0]).cells (9 * 2) = (List.replicate 18 (Value.int .i64 0)).toArray := by kernel_rfl
  have he : Edges (W.alloc (.cells (madeCells (Value.agg #[.int .i64 0, .int .i64 0]).cells (9 * i0.size)) 36)) (.slice (some ⟨W.heap.size, 0, none⟩) 9 9) (List.replicate 9 (0, 0)) := by
    rw [hz1, hc]
    have hb := Blk.new W 36 (List.replicate 18 (Value.int .i64 0)).toArray
    refine ⟨_, 9, rfl, by simp, fun _ => ⟨W.heap.size, 0, rfl, fun i x hx => ?_⟩⟩
    have hi9 : i < 9 := by have := (List.getElem?_eq_some_iff.1 hx).1; simpa using this
    obtain rfl : x = (0, 0) := (List.mem_replicate.1 (List.mem_of_getElem? hx)).2
    rw [hb.cell, hb.cell, List.getElem?_toArray, List.getElem?_toArray, List.getElem?_replicate, List.getElem?_replicate, if_pos (by omega), if_pos (by omega)]
    exact ⟨rfl, rfl⟩
  have hl : b.eval (.const (.int .i64 9)) = .int .i64 9 := rfl
  unfold Oper.wp
  simp [execOp, ho, hl, hr, Result.andThen]
  exact hK _ _ he (World.grownBy_alloc W _ none)
theorem make_128 : ∃ mc : Array Value, (∀ W : World, (Instr.makeSlice 22 (.int .i64 128) (.int .i64 128)).run Tryd.prog W = .ok (.slice (some ⟨W.heap.size, 0, none⟩) 128 128) (W.alloc (.cells mc 39))) ∧ ∀ W : World, Tbl (W.alloc (.cells mc 39)) (.slice (some ⟨W.heap.size, 0, none⟩) 128 128) (kBig 128) := by
  obtain ⟨i0, hi, hz0, hz1, hz2⟩ := info_parts node_info
  refine ⟨madeCells (Value.agg #[.int .i64 0, .int .i64 0, .bool false, .int .i64 0, .int .i64 0, .slice none 0 0]).cells (128 * i0.size), fun W => run_make (P := Tryd.prog) W 22 39 i0 _ Tryd.underlying22 hi hz0 .i64 .i64 (128 : Int) (128 : Int) (by omega) (Int.le_refl _) (by rw [hz2]; omega) (by omega), fun W => ?_⟩
  have hot : OT W.heap.size (W.alloc (.cells (madeCells (Value.agg #[.int .i64 0, .int .i64 0, .bool false, .int .i64 0, .int .i64 0, .slice none 0 0]).cells (128 * i0.size)) 39)) (.slice (some ⟨W.heap.size, 0, none⟩) 128 128) (List.replicate 128 (kEnd, .slice none 0 0)) := by
    refine ⟨?_, fun p hp => ?_⟩
    · rw [List.length_replicate, ← zeros_cells, hz1]
      exact World.ownsRow_lit W _ 128 (Nat.le_refl _) (by unfold maxLen; omega) (size_madeCells _ _)
    · obtain ⟨_, rfl⟩ := List.mem_replicate.1 hp
      exact EdgesO.nil_
  have ht := hot.tbl
  rw [List.map_replicate] at ht
  exact ht
abbrev kW0 : Nd := ⟨4, 0, false, (0, 0), List.replicate 9 (0, 0)⟩
theorem wpU_node4 {t : Tmp} {g : Nat} (ho : o.op = .build 39 #[(0, .const (.int .i64 4)), (4, .tmp t)]) (h : b.eval (.tmp t) = .slice (some ⟨g, 0, none⟩) 9 9)
    (hK : K (b.put o.dst (ndV kW0 (.slice (some ⟨g, 0, none⟩) 9 9))) W) : o.wp Tryd.prog b W K Q := by
  obtain ⟨dst, op, type, pos, after, guard⟩ := o
  dsimp only at ho
  subst ho
  have h' : b.tmps[t]?.getD undef = .slice (some ⟨g, 0, none⟩) 9 9 := by simpa [Act.eval] using h
  unfold Oper.wp
  simp only [execOp]
  go_simp
  exact hK
theorem wpU_nodes1 {t : Tmp} {z : Nd} {A : Option Addr} {n c : Nat} (ho : o.op = .buildSlice 22 1 #[(0, .tmp t)]) (h : b.eval (.tmp t) = ndV z (.slice A n c))
    (hK : K (b.put o.dst (.slice (some ⟨W.heap.size, 0, none⟩) 1 1)) (W.alloc (.cells (ndCells z (.slice A n c)) 39))) : o.wp Tryd.prog b W K Q := by
  obtain ⟨dst, op, type, pos, after, guard⟩ := o
  dsimp only at ho
  subst ho
  have h' : b.tmps[t]?.getD undef = .agg #[.int .i64 z.kind, .int .i64 z.prio, .bool z.chan, .int .i64 z.pay.1, .int .i64 z.pay.2, .slice A n c] := by simpa [Act.eval] using h
  unfold Oper.wp
  simp only [execOp]
  go_simp
  exact hK
end
/-- What each slot of the region holds. -/
def RU (t : Tmp) (v : Value) (W : World) : Prop :=
  if t = 130 ∨ t = 5 then Tbl W v (kBig 129) else if t = 131 then ∃ g, v = .slice (some ⟨g, 0, none⟩) 9 9 ∧ Edges W (.slice (some ⟨g, 0, none⟩) 9 9) (List.replicate 9 (0, 0))
  else if t = 132 then ∃ g, v = ndV kW0 (.slice (some ⟨g, 0, none⟩) 9 9) ∧ Edges W (.slice (some ⟨g, 0, none⟩) 9 9) (List.replicate 9 (0, 0)) else if t = 133 ∨ t = 6 then Tbl W v kWide else True
theorem ru_keep (t : Tmp) (v : Value) (W W' : World) (h : RU t v W) (hg : W.grownBy W' none) : RU t v W' := by
  unfold RU at h ⊢
  split at h
  · rename_i e; rw [if_pos e]; exact h.keep (.grown hg)
  · rename_i e1
    rw [if_neg e1]
    split at h
    · rename_i e; rw [if_pos e]; obtain ⟨g, h1, h2⟩ := h; exact ⟨g, h1, h2.keep (.grown hg)⟩
    · rename_i e2
      rw [if_neg e2]
      split at h
      · rename_i e; rw [if_pos e]; obtain ⟨g, h1, h2⟩ := h; exact ⟨g, h1, h2.keep (.grown hg)⟩
      · rename_i e3
        rw [if_neg e3]
        split at h
        · rename_i e; rw [if_pos e]; exact h.keep (.grown hg)
        · rename_i e4; rw [if_neg e4]; trivial
theorem wide_tbl {W : World} {g : Nat} {v : Value} (hb : Blk W g 39 (ndCells kW0 v)) (h1 : Edges W v (List.replicate 9 (0, 0))) : Tbl W (.slice (some ⟨g, 0, none⟩) 1 1) kWide :=
  rows_tbl (ns := [(kW0, v)]) hb (fun p hp => by obtain rfl := List.mem_singleton.1 hp; exact h1)
end Go.Proofs.YtoklaajiajilhaaDoor

/- BlocksKnown: what single operations answer, in the region that lays its rows. No walk. -/
import Derived.Test.YtnejikkibneegaaReg
import Derived.Test.YtnejikkibneegaaBKnL
import Derived.Test.YtnejikkibneegaaBJmp
namespace Go.Proofs.Ytnejikkibneegaa
open Go.RowKit Rg

def IntP (zs : List Int) : VP := fun v W => IntsA (fun k => k < W.heap.size) W v zs
def InsP (op : Int) (l : List Int) : VP := fun v W => ∃ A c, v = .agg #[.int .i64 op, .int .i64 0, .int .i64 0, .int .i64 0, .int .i64 0, .slice A l.length c] ∧ IntsA (fun k => k < W.heap.size) W (.slice A l.length c) l
def CodP (cs : List Bi) : VP := fun v W => ∃ A c, v = .slice A cs.length c ∧ CodeA W v cs
def RowP (p : List Bi × Int × Int) : VP := fun v W => ∃ A c, v = .agg #[.slice A p.1.length c, .int .i64 p.2.1, .int .i64 p.2.2] ∧ CodeA W (.slice A p.1.length c) p.1
theorem intP_keeps {t : Tmp} {zs : List Int} : KeepsV t (IntP zs) := fun _ _ _ h hg => IntsA.up h hg
theorem insP_keeps {t : Tmp} {op : Int} {l : List Int} : KeepsV t (InsP op l) := fun v W W' h hg => by
  obtain ⟨A, c, e, h⟩ := h
  exact ⟨A, c, e, h.up hg⟩
theorem codP_keeps {t : Tmp} {cs : List Bi} : KeepsV t (CodP cs) := fun v W W' h hg => by
  obtain ⟨A, c, e, h⟩ := h
  exact ⟨A, c, e, h.kept hg⟩
theorem rowP_keeps {t : Tmp} {p : List Bi × Int × Int} : KeepsV t (RowP p) := fun v W W' h hg => by
  obtain ⟨A, c, e, h⟩ := h
  exact ⟨A, c, e, h.kept hg⟩
section
variable {vals : List (Tmp × Value)} {ex : List (Tmp × VP)} {w : World} {o : Oper}
theorem ox_i1 {z : Int} (ho : o.op = .buildSlice 24 1 #[(0, .const (.int .i64 z))]) : OpP Try.prog o vals ex w (IntP [z]) := fun b W hg hr hx => by
  obtain ⟨dst, op, type, pos, after, guard⟩ := o
  dsimp only at ho
  subst ho
  refine .inl ⟨.slice (some ⟨W.heap.size, 0, none⟩) 1 1, W.alloc (.cells #[.int .i64 z] 3), ?_, only_alloc (only_refl _ _) _, ints_blk (Blk.new _ _ _) rfl rfl⟩
  simp only [execOp]
  go_simp
theorem ox_i2 {y z : Int} (ho : o.op = .buildSlice 24 2 #[(0, .const (.int .i64 y)), (1, .const (.int .i64 z))]) : OpP Try.prog o vals ex w (IntP [y, z]) := fun b W hg hr hx => by
  obtain ⟨dst, op, type, pos, after, guard⟩ := o
  dsimp only at ho
  subst ho
  refine .inl ⟨.slice (some ⟨W.heap.size, 0, none⟩) 2 2, W.alloc (.cells #[.int .i64 y, .int .i64 z] 3), ?_, only_alloc (only_refl _ _) _, ints_blk (Blk.new _ _ _) rfl rfl⟩
  simp only [execOp]
  go_simp
theorem ox_ld {t : Tmp} {g : Nat} {op : Int} (ho : o.op = .load 40 (.tmp t)) (h0 : vals.lookup t = some (.pointer (some ⟨g, 0, none⟩))) (hb : Blk w g 40 (insC op)) : OpP Try.prog o vals ex w (InsP op []) := fun b W hg hr hx => by
  have he := hr t _ (by rw [ho]; simp [Op.operands]) h0
  obtain ⟨n0, n1, n2, n3, n4, n5⟩ := cells6 (hb.kept hg)
  obtain ⟨dst, op, type, pos, after, guard⟩ := o
  dsimp only at ho
  subst ho
  refine .inl ⟨_, W, ?_, only_refl _ _, none, 0, rfl, ints_none _ _⟩
  simp only [execOp, he]
  go_simp
theorem ox_b0 {z : Int} (ho : o.op = .build 40 #[(0, .const (.int .i64 z))]) : OpP Try.prog o vals ex w (InsP z []) := fun b W hg hr hx => by
  obtain ⟨dst, op, type, pos, after, guard⟩ := o
  dsimp only at ho
  subst ho
  have hq : (Instr.build 40 #[(0, .int .i64 z)]).run Try.prog W = .ok (.agg #[.int .i64 z, .int .i64 0, .int .i64 0, .int .i64 0, .int .i64 0, .slice none 0 0]) W := run_build W _ _ _ (by kernel_rfl)
  refine .inl ⟨_, W, ?_, only_refl _ _, none, 0, rfl, ints_none _ _⟩
  have hc : b.eval (.const (.int .i64 z)) = .int .i64 z := rfl
  generalize b.eval = ev at hc ⊢
  simp [execOp, hc, hq]
theorem ox_b5 {s : Tmp} {z : Int} {l : List Int} (ho : o.op = .build 40 #[(0, .const (.int .i64 z)), (5, .tmp s)]) (h2 : ex.lookup s = some (IntP l)) : OpP Try.prog o vals ex w (InsP z l) := fun b W hg hr hx => by
  have hI : IntsA (fun k => k < W.heap.size) W (b.eval (.tmp s)) l := hx s _ (by rw [ho]; simp [Op.operands]) h2
  obtain ⟨A, c, hf, _⟩ := id hI
  rw [hf] at hI
  obtain ⟨dst, op, type, pos, after, guard⟩ := o
  dsimp only at ho
  subst ho
  have hq : (Instr.build 40 #[(0, .int .i64 z), (5, .slice A l.length c)]).run Try.prog W = .ok (.agg #[.int .i64 z, .int .i64 0, .int .i64 0, .int .i64 0, .int .i64 0, .slice A l.length c]) W := run_build W _ _ _ (by kernel_rfl)
  refine .inl ⟨_, W, ?_, only_refl _ _, A, c, rfl, hI⟩
  have hc : b.eval (.const (.int .i64 z)) = .int .i64 z := rfl
  generalize b.eval = ev at hf hc ⊢
  simp [execOp, hf, hc, hq]
theorem ox_c1 {s0 : Tmp} {p0 : Int} {l0 : List Int} (ho : o.op = .buildSlice 22 1 #[(0, .tmp s0)]) (h0 : ex.lookup s0 = some (InsP p0 l0)) : OpP Try.prog o vals ex w (CodP [(p0, l0)]) := fun b W hg hr hx => by
  obtain ⟨A0, c0, e0, i0⟩ := hx s0 _ (by rw [ho]; simp [Op.operands]) h0
  obtain ⟨dst, op, type, pos, after, guard⟩ := o
  dsimp only at ho
  subst ho
  refine .inl ⟨.slice (some ⟨W.heap.size, 0, none⟩) 1 1, aX W [(p0, ⟨0, 0, 0, 0, .slice A0 l0.length c0, l0⟩)], ?_, only_alloc (only_refl _ _) _, _, _, rfl, ?_⟩
  · generalize b.eval = ev at e0 ⊢
    simp only [execOp]
    go_simp
    rfl
  · exact codeA_blk (xs := [(p0, ⟨0, 0, 0, 0, .slice A0 l0.length c0, l0⟩)]) (Blk.new _ _ _) rfl rfl (by simp) (by
      intro y hy
      simp only [List.mem_cons, List.not_mem_nil, or_false] at hy
      rcases hy with rfl
      all_goals first | exact i0.up (only_alloc (only_refl _ _) _))
theorem ox_c2 {s0 : Tmp} {s1 : Tmp} {p0 : Int} {l0 : List Int} {p1 : Int} {l1 : List Int} (ho : o.op = .buildSlice 22 2 #[(0, .tmp s0), (1, .tmp s1)]) (h0 : ex.lookup s0 = some (InsP p0 l0)) (h1 : ex.lookup s1 = some (InsP p1 l1)) : OpP Try.prog o vals ex w (CodP [(p0, l0), (p1, l1)]) := fun b W hg hr hx => by
  obtain ⟨A0, c0, e0, i0⟩ := hx s0 _ (by rw [ho]; simp [Op.operands]) h0
  obtain ⟨A1, c1, e1, i1⟩ := hx s1 _ (by rw [ho]; simp [Op.operands]) h1
  obtain ⟨dst, op, type, pos, after, guard⟩ := o
  dsimp only at ho
  subst ho
  refine .inl ⟨.slice (some ⟨W.heap.size, 0, none⟩) 2 2, aX W [(p0, ⟨0, 0, 0, 0, .slice A0 l0.length c0, l0⟩), (p1, ⟨0, 0, 0, 0, .slice A1 l1.length c1, l1⟩)], ?_, only_alloc (only_refl _ _) _, _, _, rfl, ?_⟩
  · generalize b.eval = ev at e0 e1 ⊢
    simp only [execOp]
    go_simp
    rfl
  · exact codeA_blk (xs := [(p0, ⟨0, 0, 0, 0, .slice A0 l0.length c0, l0⟩), (p1, ⟨0, 0, 0, 0, .slice A1 l1.length c1, l1⟩)]) (Blk.new _ _ _) rfl rfl (by simp) (by
      intro y hy
      simp only [List.mem_cons, List.not_mem_nil, or_false] at hy
      rcases hy with rfl | rfl
      all_goals first | exact i0.up (only_alloc (only_refl _ _) _) | exact i1.up (only_alloc (only_refl _ _) _))
theorem ox_c3 {s0 : Tmp} {s1 : Tmp} {s2 : Tmp} {p0 : Int} {l0 : List Int} {p1 : Int} {l1 : List Int} {p2 : Int} {l2 : List Int} (ho : o.op = .buildSlice 22 3 #[(0, .tmp s0), (1, .tmp s1), (2, .tmp s2)]) (h0 : ex.lookup s0 = some (InsP p0 l0)) (h1 : ex.lookup s1 = some (InsP p1 l1)) (h2 : ex.lookup s2 = some (InsP p2 l2)) : OpP Try.prog o vals ex w (CodP [(p0, l0), (p1, l1), (p2, l2)]) := fun b W hg hr hx => by
  obtain ⟨A0, c0, e0, i0⟩ := hx s0 _ (by rw [ho]; simp [Op.operands]) h0
  obtain ⟨A1, c1, e1, i1⟩ := hx s1 _ (by rw [ho]; simp [Op.operands]) h1
  obtain ⟨A2, c2, e2, i2⟩ := hx s2 _ (by rw [ho]; simp [Op.operands]) h2
  obtain ⟨dst, op, type, pos, after, guard⟩ := o
  dsimp only at ho
  subst ho
  refine .inl ⟨.slice (some ⟨W.heap.size, 0, none⟩) 3 3, aX W [(p0, ⟨0, 0, 0, 0, .slice A0 l0.length c0, l0⟩), (p1, ⟨0, 0, 0, 0, .slice A1 l1.length c1, l1⟩), (p2, ⟨0, 0, 0, 0, .slice A2 l2.length c2, l2⟩)], ?_, only_alloc (only_refl _ _) _, _, _, rfl, ?_⟩
  · generalize b.eval = ev at e0 e1 e2 ⊢
    simp only [execOp]
    go_simp
    rfl
  · exact codeA_blk (xs := [(p0, ⟨0, 0, 0, 0, .slice A0 l0.length c0, l0⟩), (p1, ⟨0, 0, 0, 0, .slice A1 l1.length c1, l1⟩), (p2, ⟨0, 0, 0, 0, .slice A2 l2.length c2, l2⟩)]) (Blk.new _ _ _) rfl rfl (by simp) (by
      intro y hy
      simp only [List.mem_cons, List.not_mem_nil, or_false] at hy
      rcases hy with rfl | rfl | rfl
      all_goals first | exact i0.up (only_alloc (only_refl _ _) _) | exact i1.up (only_alloc (only_refl _ _) _) | exact i2.up (only_alloc (only_refl _ _) _))
theorem ox_r {s : Tmp} {cs : List Bi} {y z : Int} (ho : o.op = .build 48 #[(0, .tmp s), (1, .const (.int .i64 y)), (2, .const (.int .i64 z))]) (h2 : ex.lookup s = some (CodP cs)) : OpP Try.prog o vals ex w (RowP (cs, y, z)) := fun b W hg hr hx => by
  obtain ⟨A, c, hf, hC⟩ := hx s _ (by rw [ho]; simp [Op.operands]) h2
  rw [hf] at hC
  obtain ⟨dst, op, type, pos, after, guard⟩ := o
  dsimp only at ho
  subst ho
  have hq : (Instr.build 48 #[(0, .slice A cs.length c), (1, .int .i64 y), (2, .int .i64 z)]).run Try.prog W = .ok (.agg #[.slice A cs.length c, .int .i64 y, .int .i64 z]) W := run_build W _ _ _ (by kernel_rfl)
  refine .inl ⟨_, W, ?_, only_refl _ _, A, c, rfl, hC⟩
  have hy : b.eval (.const (.int .i64 y)) = .int .i64 y := rfl
  have hz : b.eval (.const (.int .i64 z)) = .int .i64 z := rfl
  generalize b.eval = ev at hf hy hz ⊢
  simp [execOp, hf, hy, hz, hq]
theorem ox_r0 {y z : Int} (ho : o.op = .build 48 #[(0, .const (.slice none 0 0)), (1, .const (.int .i64 y)), (2, .const (.int .i64 z))]) : OpP Try.prog o vals ex w (RowP ([], y, z)) := fun b W hg hr hx => by
  obtain ⟨dst, op, type, pos, after, guard⟩ := o
  dsimp only at ho
  subst ho
  have hq : (Instr.build 48 #[(0, .slice none 0 0), (1, .int .i64 y), (2, .int .i64 z)]).run Try.prog W = .ok (.agg #[.slice none 0 0, .int .i64 y, .int .i64 z]) W := run_build W _ _ _ (by kernel_rfl)
  refine .inl ⟨_, W, ?_, only_refl _ _, none, 0, rfl, ⟨none, 0, rfl, by simp, fun h => absurd rfl h⟩⟩
  have hx : b.eval (.const (.slice none 0 0)) = .slice none 0 0 := rfl
  have hy : b.eval (.const (.int .i64 y)) = .int .i64 y := rfl
  have hz : b.eval (.const (.int .i64 z)) = .int .i64 z := rfl
  generalize b.eval = ev at hx hy hz ⊢
  simp [execOp, hx, hy, hz, hq]
theorem ox_mv {s : Tmp} {L : Nat} (ho : o.op = .move (.tmp s)) (h : vals.lookup s = some (.slice (some ⟨L, 0, none⟩) 129 129)) (hY : Blk w L 40 longY) : OpP Try.prog o vals ex w (CodP (nopsL 128)) := fun b W hg hr hx => by
  have he := hr s _ (by rw [ho]; simp [Op.operands]) h
  obtain ⟨dst, op, type, pos, after, guard⟩ := o
  dsimp only at ho
  subst ho
  refine .inl ⟨.slice (some ⟨L, 0, none⟩) 129 129, W, ?_, only_refl _ _, some ⟨L, 0, none⟩, 129, by rw [nops_len], long_code (hY.kept hg) 0 128 rfl⟩
  simp only [execOp, he]
  rfl
theorem ox_sl {s : Tmp} {L : Nat} (ho : o.op = .slice 22 (.tmp s) (some (.const (.int .i64 1))) none none) (h : vals.lookup s = some (.slice (some ⟨L, 0, none⟩) 129 129)) (hY : Blk w L 40 longY) : OpP Try.prog o vals ex w (CodP (nopsL 127)) := fun b W hg hr hx => by
  have he := hr s _ (by rw [ho]; simp [Op.operands]) h
  obtain ⟨dst, op, type, pos, after, guard⟩ := o
  dsimp only at ho
  subst ho
  refine .inl ⟨.slice (some ⟨L, 6, none⟩) 128 128, W, ?_, only_refl _ _, some ⟨L, 6, none⟩, 128, by rw [nops_len], long_code (hY.kept hg) 1 127 rfl⟩
  have hc : b.eval (.const (.int .i64 1)) = .int .i64 1 := rfl
  generalize b.eval = ev at he hc ⊢
  simp only [execOp]
  go_simp
/-- The rows as they lie. -/
def TabP : VP := fun v W => ∃ b, v = .slice (some ⟨b, 0, none⟩) 16 16 ∧ ∀ k p, kR[k]? = some p → ∃ A c, W.cell? ⟨b, k * 3, none⟩ = some (.slice A p.1.length c) ∧ W.cell? ⟨b, k * 3 + 1, none⟩ = some (.int .i64 p.2.1) ∧ W.cell? ⟨b, k * 3 + 2, none⟩ = some (.int .i64 p.2.2) ∧ CodeA W (.slice A p.1.length c) p.1
theorem tabP_keeps {t : Tmp} : KeepsV t TabP := fun v W W' h hg => by
  obtain ⟨b, e, h⟩ := h
  refine ⟨b, e, fun k p hp => ?_⟩
  obtain ⟨A, c, h1, h2, h3, h4⟩ := h k p hp
  exact ⟨A, c, cell_row h1 hg (fun e => by cases e), cell_row h2 hg (fun e => by cases e), cell_row h3 hg (fun e => by cases e), h4.kept hg⟩
theorem ox_tab (ho : o.op = .buildSlice 49 16 #[(0, .tmp 113), (1, .tmp 115), (2, .tmp 118), (3, .tmp 121), (4, .tmp 126), (5, .tmp 132), (6, .tmp 137), (7, .tmp 141), (8, .tmp 145), (9, .tmp 151), (10, .tmp 156), (11, .tmp 160), (12, .tmp 165), (13, .tmp 169), (14, .tmp 174), (15, .tmp 178)])
    (h0 : ex.lookup 113 = some (RowP ([], -1, 2))) (h1 : ex.lookup 115 = some (RowP (nopsL 128, -1, 2))) (h2 : ex.lookup 118 = some (RowP (nopsL 127, -1, 0))) (h3 : ex.lookup 121 = some (RowP ([(0, [])], 0, 12))) (h4 : ex.lookup 126 = some (RowP ([(0, []), (11, [0])], 0, 14))) (h5 : ex.lookup 132 = some (RowP ([(11, [2]), (0, []), (24, [])], 1, 13))) (h6 : ex.lookup 137 = some (RowP ([(11, [1, 1]), (24, [])], 0, 12))) (h7 : ex.lookup 141 = some (RowP ([(11, []), (24, [])], 0, 12))) (h8 : ex.lookup 145 = some (RowP ([(19, []), (24, [])], 0, 12))) (h9 : ex.lookup 151 = some (RowP ([(0, []), (12, [3]), (24, [])], 1, 12))) (h10 : ex.lookup 156 = some (RowP ([(0, []), (12, [0])], 1, 12))) (h11 : ex.lookup 160 = some (RowP ([(24, []), (24, [])], 1, 13))) (h12 : ex.lookup 165 = some (RowP ([(15, []), (11, [1])], 1, 14))) (h13 : ex.lookup 169 = some (RowP ([(19, [0])], -1, 0))) (h14 : ex.lookup 174 = some (RowP ([(14, [9]), (24, [])], -1, 0))) (h15 : ex.lookup 178 = some (RowP ([(99, []), (24, [])], -1, 0))) : OpP Try.prog o vals ex w TabP := fun b W hg hr hx => by
  obtain ⟨A0, c0, e0, i0⟩ := hx 113 _ (by rw [ho]; simp [Op.operands]) h0
  obtain ⟨A1, c1, e1, i1⟩ := hx 115 _ (by rw [ho]; simp [Op.operands]) h1
  obtain ⟨A2, c2, e2, i2⟩ := hx 118 _ (by rw [ho]; simp [Op.operands]) h2
  obtain ⟨A3, c3, e3, i3⟩ := hx 121 _ (by rw [ho]; simp [Op.operands]) h3
  obtain ⟨A4, c4, e4, i4⟩ := hx 126 _ (by rw [ho]; simp [Op.operands]) h4
  obtain ⟨A5, c5, e5, i5⟩ := hx 132 _ (by rw [ho]; simp [Op.operands]) h5
  obtain ⟨A6, c6, e6, i6⟩ := hx 137 _ (by rw [ho]; simp [Op.operands]) h6
  obtain ⟨A7, c7, e7, i7⟩ := hx 141 _ (by rw [ho]; simp [Op.operands]) h7
  obtain ⟨A8, c8, e8, i8⟩ := hx 145 _ (by rw [ho]; simp [Op.operands]) h8
  obtain ⟨A9, c9, e9, i9⟩ := hx 151 _ (by rw [ho]; simp [Op.operands]) h9
  obtain ⟨A10, c10, e10, i10⟩ := hx 156 _ (by rw [ho]; simp [Op.operands]) h10
  obtain ⟨A11, c11, e11, i11⟩ := hx 160 _ (by rw [ho]; simp [Op.operands]) h11
  obtain ⟨A12, c12, e12, i12⟩ := hx 165 _ (by rw [ho]; simp [Op.operands]) h12
  obtain ⟨A13, c13, e13, i13⟩ := hx 169 _ (by rw [ho]; simp [Op.operands]) h13
  obtain ⟨A14, c14, e14, i14⟩ := hx 174 _ (by rw [ho]; simp [Op.operands]) h14
  obtain ⟨A15, c15, e15, i15⟩ := hx 178 _ (by rw [ho]; simp [Op.operands]) h15
  obtain ⟨dst, op, type, pos, after, guard⟩ := o
  dsimp only at ho
  subst ho
  refine .inl ⟨.slice (some ⟨W.heap.size, 0, none⟩) 16 16, W.alloc (.cells #[.slice A0 (kR.getD 0 default).1.length c0, .int .i64 (kR.getD 0 default).2.1, .int .i64 (kR.getD 0 default).2.2, .slice A1 (kR.getD 1 default).1.length c1, .int .i64 (kR.getD 1 default).2.1, .int .i64 (kR.getD 1 default).2.2, .slice A2 (kR.getD 2 default).1.length c2, .int .i64 (kR.getD 2 default).2.1, .int .i64 (kR.getD 2 default).2.2, .slice A3 (kR.getD 3 default).1.length c3, .int .i64 (kR.getD 3 default).2.1, .int .i64 (kR.getD 3 default).2.2, .slice A4 (kR.getD 4 default).1.length c4, .int .i64 (kR.getD 4 default).2.1, .int .i64 (kR.getD 4 default).2.2, .slice A5 (kR.getD 5 default).1.length c5, .int .i64 (kR.getD 5 default).2.1, .int .i64 (kR.getD 5 default).2.2, .slice A6 (kR.getD 6 default).1.length c6, .int .i64 (kR.getD 6 default).2.1, .int .i64 (kR.getD 6 default).2.2, .slice A7 (kR.getD 7 default).1.length c7, .int .i64 (kR.getD 7 default).2.1, .int .i64 (kR.getD 7 default).2.2, .slice A8 (kR.getD 8 default).1.length c8, .int .i64 (kR.getD 8 default).2.1, .int .i64 (kR.getD 8 default).2.2, .slice A9 (kR.getD 9 default).1.length c9, .int .i64 (kR.getD 9 default).2.1, .int .i64 (kR.getD 9 default).2.2, .slice A10 (kR.getD 10 default).1.length c10, .int .i64 (kR.getD 10 default).2.1, .int .i64 (kR.getD 10 default).2.2, .slice A11 (kR.getD 11 default).1.length c11, .int .i64 (kR.getD 11 default).2.1, .int .i64 (kR.getD 11 default).2.2, .slice A12 (kR.getD 12 default).1.length c12, .int .i64 (kR.getD 12 default).2.1, .int .i64 (kR.getD 12 default).2.2, .slice A13 (kR.getD 13 default).1.length c13, .int .i64 (kR.getD 13 default).2.1, .int .i64 (kR.getD 13 default).2.2, .slice A14 (kR.getD 14 default).1.length c14, .int .i64 (kR.getD 14 default).2.1, .int .i64 (kR.getD 14 default).2.2, .slice A15 (kR.getD 15 default).1.length c15, .int .i64 (kR.getD 15 default).2.1, .int .i64 (kR.getD 15 default).2.2] 48), ?_, only_alloc (only_refl _ _) _, W.heap.size, rfl, fun k p hp => ?_⟩
  · generalize b.eval = ev at e0 e1 e2 e3 e4 e5 e6 e7 e8 e9 e10 e11 e12 e13 e14 e15 ⊢
    simp only [execOp]
    go_simp
    rfl
  · have hg2 := fun o => only_alloc (only_refl W none) o
    have hk : k < 16 := (List.getElem?_eq_some_iff.1 hp).1
    rcases (by omega : k = 0 ∨ k = 1 ∨ k = 2 ∨ k = 3 ∨ k = 4 ∨ k = 5 ∨ k = 6 ∨ k = 7 ∨ k = 8 ∨ k = 9 ∨ k = 10 ∨ k = 11 ∨ k = 12 ∨ k = 13 ∨ k = 14 ∨ k = 15) with rfl | rfl | rfl | rfl | rfl | rfl | rfl | rfl | rfl | rfl | rfl | rfl | rfl | rfl | rfl | rfl
    · injection hp with hp; subst hp; exact ⟨A0, c0, (Blk.new W _ _).cell 0, (Blk.new W _ _).cell 1, (Blk.new W _ _).cell 2, i0.kept (hg2 _)⟩
    · injection hp with hp; subst hp; exact ⟨A1, c1, (Blk.new W _ _).cell 3, (Blk.new W _ _).cell 4, (Blk.new W _ _).cell 5, i1.kept (hg2 _)⟩
    · injection hp with hp; subst hp; exact ⟨A2, c2, (Blk.new W _ _).cell 6, (Blk.new W _ _).cell 7, (Blk.new W _ _).cell 8, i2.kept (hg2 _)⟩
    · injection hp with hp; subst hp; exact ⟨A3, c3, (Blk.new W _ _).cell 9, (Blk.new W _ _).cell 10, (Blk.new W _ _).cell 11, i3.kept (hg2 _)⟩
    · injection hp with hp; subst hp; exact ⟨A4, c4, (Blk.new W _ _).cell 12, (Blk.new W _ _).cell 13, (Blk.new W _ _).cell 14, i4.kept (hg2 _)⟩
    · injection hp with hp; subst hp; exact ⟨A5, c5, (Blk.new W _ _).cell 15, (Blk.new W _ _).cell 16, (Blk.new W _ _).cell 17, i5.kept (hg2 _)⟩
    · injection hp with hp; subst hp; exact ⟨A6, c6, (Blk.new W _ _).cell 18, (Blk.new W _ _).cell 19, (Blk.new W _ _).cell 20, i6.kept (hg2 _)⟩
    · injection hp with hp; subst hp; exact ⟨A7, c7, (Blk.new W _ _).cell 21, (Blk.new W _ _).cell 22, (Blk.new W _ _).cell 23, i7.kept (hg2 _)⟩
    · injection hp with hp; subst hp; exact ⟨A8, c8, (Blk.new W _ _).cell 24, (Blk.new W _ _).cell 25, (Blk.new W _ _).cell 26, i8.kept (hg2 _)⟩
    · injection hp with hp; subst hp; exact ⟨A9, c9, (Blk.new W _ _).cell 27, (Blk.new W _ _).cell 28, (Blk.new W _ _).cell 29, i9.kept (hg2 _)⟩
    · injection hp with hp; subst hp; exact ⟨A10, c10, (Blk.new W _ _).cell 30, (Blk.new W _ _).cell 31, (Blk.new W _ _).cell 32, i10.kept (hg2 _)⟩
    · injection hp with hp; subst hp; exact ⟨A11, c11, (Blk.new W _ _).cell 33, (Blk.new W _ _).cell 34, (Blk.new W _ _).cell 35, i11.kept (hg2 _)⟩
    · injection hp with hp; subst hp; exact ⟨A12, c12, (Blk.new W _ _).cell 36, (Blk.new W _ _).cell 37, (Blk.new W _ _).cell 38, i12.kept (hg2 _)⟩
    · injection hp with hp; subst hp; exact ⟨A13, c13, (Blk.new W _ _).cell 39, (Blk.new W _ _).cell 40, (Blk.new W _ _).cell 41, i13.kept (hg2 _)⟩
    · injection hp with hp; subst hp; exact ⟨A14, c14, (Blk.new W _ _).cell 42, (Blk.new W _ _).cell 43, (Blk.new W _ _).cell 44, i14.kept (hg2 _)⟩
    · injection hp with hp; subst hp; exact ⟨A15, c15, (Blk.new W _ _).cell 45, (Blk.new W _ _).cell 46, (Blk.new W _ _).cell 47, i15.kept (hg2 _)⟩
theorem op_len {s : Tmp} (ho : o.op = .call { callee := .builtin .len, args := #[.tmp s], argTypes := #[49] }) (h : ex.lookup s = some TabP) : OpP Try.prog o vals ex w (fun v _ => v = .int .i64 16) := fun b W hg hr hx => by
  obtain ⟨g, he, _⟩ := hx s _ (by rw [ho]; simp [Op.operands, Call.operands]) h
  obtain ⟨dst, op, type, pos, after, guard⟩ := o
  dsimp only at ho
  subst ho
  refine .inl ⟨_, W, ?_, only_refl _ _, rfl⟩
  generalize b.eval = ev at he ⊢
  simp only [execOp]
  go_simp
theorem ow_move {s : Tmp} {c : Value} (ho : o.op = .move (.tmp s)) (h : vals.lookup s = some c) : OpVal Try.prog o vals w c := fun b W _ hr => by
  have he := hr s _ (by rw [ho]; simp [Op.operands]) h
  obtain ⟨dst, op, type, pos, after, guard⟩ := o
  dsimp only at ho
  subst ho
  refine .inl ?_
  simp only [execOp, he]
  rfl
theorem ow_move_c {c : Value} (ho : o.op = .move (.const c)) : OpVal Try.prog o vals w c := fun b W _ hr => by
  obtain ⟨dst, op, type, pos, after, guard⟩ := o
  dsimp only at ho
  subst ho
  exact .inl rfl
end
end Go.Proofs.Ytnejikkibneegaa

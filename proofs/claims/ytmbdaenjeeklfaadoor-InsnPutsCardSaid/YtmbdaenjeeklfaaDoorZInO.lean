/- Texts joined for the claim's sake: IOv, IBkA. -/
import Derived.Test.YtmbdaenjeeklfaaDoorZInL
import Derived.Test.YtmbdaenjeeklfaaDoorZInJ
import Derived.Laws.AppendOwn
import Derived.Maps.AppendAt
/- What single operations on instructions answer, in a region that draws its order. No walk. -/
namespace Go.Proofs.YtmbdaenjeeklfaaDoor
open Go.RowKit

section
variable {vals : List (Tmp × Value)} {w : World} {o : Oper}
theorem ov_ld_insn {t : Tmp} {b0 off : Nat} {s : Sg} {op : Int} {A : Option Addr} {n c : Nat} (ho : o.op = .load 24 (.tmp t)) (h0 : vals.lookup t = some (.pointer (some ⟨b0, off, none⟩))) (hlv : s.lv = .slice A n c) (hm : ∀ (j : Nat) (u : Value), (s.cells op)[j]? = some u → w.cell? ⟨b0, off + j, none⟩ = some u) : OpVal Tryd.prog o vals w (.agg (s.cells op)) := fun b' W hg hr => by
  have e0 := hr t _ (by rw [ho]; simp [Op.operands]) h0
  have n0 : W.cell? ⟨b0, off, none⟩ = some (.int .i64 op) := Keeps.grown hg _ _ (hm 0 _ rfl)
  have n1 : W.cell? ⟨b0, off + 1, none⟩ = some (.int .i64 s.a) := Keeps.grown hg _ _ (hm 1 _ rfl)
  have n2 : W.cell? ⟨b0, off + 2, none⟩ = some (.int .i64 s.b) := Keeps.grown hg _ _ (hm 2 _ rfl)
  have n3 : W.cell? ⟨b0, off + 3, none⟩ = some (.int .i64 s.c) := Keeps.grown hg _ _ (hm 3 _ rfl)
  have n4 : W.cell? ⟨b0, off + 4, none⟩ = some (.int .i64 s.d) := Keeps.grown hg _ _ (hm 4 _ rfl)
  have n5 : W.cell? ⟨b0, off + 5, none⟩ = some s.lv := Keeps.grown hg _ _ (hm 5 _ rfl)
  unfold Sg.cells
  obtain ⟨dst, op, type, pos, after, guard⟩ := o
  dsimp only at ho
  subst ho
  refine .inl ?_
  simp only [execOp, e0]
  go_simp
theorem ov_ix_insns {s i : Tmp} {b0 off n c : Nat} {z : Int} (k : Nat) (ho : o.op = .indexAddr 55 (.tmp s) (.tmp i)) (h0 : vals.lookup s = some (.slice (some ⟨b0, off, none⟩) n c)) (h1 : vals.lookup i = some (.int .i64 z)) (hz : z = (k : Int)) (hk : k < n) : OpVal Tryd.prog o vals w (.pointer (some ⟨b0, off + k * 6, none⟩)) := fun b' W hg hr => by
  have e0 := hr s _ (by rw [ho]; simp [Op.operands]) h0
  have e1 := hr i _ (by rw [ho]; simp [Op.operands]) h1
  subst hz
  have hk0 : (0 : Int) ≤ (k : Int) := by omega
  have hk1 : (k : Int) < (n : Int) := by omega
  obtain ⟨dst, op, type, pos, after, guard⟩ := o
  dsimp only at ho
  subst ho
  refine .inl ?_
  simp only [execOp, e0, e1]
  go_simp
theorem ov_neq_nil {s : Tmp} {ty : TypeId} (ho : o.op = .binOp .neq 44 (.tmp s) (.const .nilIface) ty) (h0 : vals.lookup s = some .nilIface) : OpVal Tryd.prog o vals w (.bool false) := fun b' W hg hr => by
  have e0 := hr s _ (by rw [ho]; simp [Op.operands]) h0
  obtain ⟨dst, op, type, pos, after, guard⟩ := o
  dsimp only at ho
  subst ho
  refine .inl ?_
  simp only [execOp, e0]
  go_simp
end
end Go.Proofs.YtmbdaenjeeklfaaDoor

/- InsnBack: a row of instructions that a call makes by append; what stands as they are laid, and as they are read. -/
namespace Go.Proofs.YtmbdaenjeeklfaaDoor
open Go.RowKit

theorem addr_plainI (b o j : Nat) : (⟨b, o, none⟩ : Addr).add j = ⟨b, o + j, none⟩ := by unfold Addr.add; split <;> simp_all
theorem insn_info : (Tryd.prog.info? 24).map (fun i => (i.zero, i.size, i.bytes)) = some (some (.agg #[.int .i64 0, .int .i64 0, .int .i64 0, .int .i64 0, .int .i64 0, .slice none 0 0]), 6, 64) := by kernel_rfl
def inAll (ys : List (Int × Sg)) : List Value := ys.flatMap fun y => (y.2.cells y.1).toList
theorem inAll_len (ys : List (Int × Sg)) : (inAll ys).length = ys.length * 6 := by
  induction ys with
  | nil => rfl
  | cons p ys ih => simp only [inAll, List.flatMap_cons, List.length_append] at ih ⊢; rw [ih]; simp [Sg.cells]; omega
theorem inAll_snoc (ys : List (Int × Sg)) (y : Int × Sg) : inAll (ys ++ [y]) = inAll ys ++ (y.2.cells y.1).toList := by simp [inAll]
theorem inAll_at {ys : List (Int × Sg)} {i : Nat} {y : Int × Sg} (h : ys[i]? = some y) (j : Nat) (hj : j < 6) : (inAll ys)[i * 6 + j]? = (y.2.cells y.1).toList[j]? := by
  induction ys generalizing i with
  | nil => simp at h
  | cons q ys ih =>
    have hq : (q.2.cells q.1).toList.length = 6 := rfl
    cases i with
    | zero =>
      simp only [List.getElem?_cons_zero, Option.some.injEq] at h
      subst h
      simp only [inAll, List.flatMap_cons]
      rw [List.getElem?_append_left (by rw [hq]; omega), Nat.zero_mul, Nat.zero_add]
    | succ i =>
      rw [List.getElem?_cons_succ] at h
      simp only [inAll, List.flatMap_cons]
      rw [List.getElem?_append_right (by rw [hq]; omega), hq, show (i + 1) * 6 + j - 6 = i * 6 + j by omega]
      exact ih h
/-- One instruction more, appended. -/
theorem wpList_append_insn {ops : Array Oper} {rest : List Oper} {o : Oper} {a : Act} {W : World} {Q : Exit → Act → World → Prop} (hgd : o.guard = none) (s x : Operand)
    (ho : o.op = .call { callee := .builtin .append, args := #[s, x], argTypes := #[55, 55] })
    {base : Nat} {v : Value} {ys : List (Int × Sg)} {op : Int} {y : Sg} {g : Nat} (hs : a.eval s = v) (hx : a.eval x = .slice (some ⟨g, 0, none⟩) 1 1)
    (hot : W.ownsRow base 24 6 v ys.length (inAll ys)) (hb : Blk W g 24 (y.cells op)) (hlv : ∃ A n c, y.lv = .slice A n c) (hn : ys.length ≤ 1000) (hbase : base ≤ W.heap.size)
    (h : ∀ v' W', W'.ownsRow base 24 6 v' (ys ++ [(op, y)]).length (inAll (ys ++ [(op, y)])) → W.grownBy W' v.ownBlock → wpList Tryd.prog ops Q rest (a.put o.dst v') W') : wpList Tryd.prog ops Q (o :: rest) a W := by
  obtain ⟨i0, hi, hz0, hz1, hz2⟩ := info_parts insn_info
  obtain ⟨A2, n2, c2, he⟩ := hlv
  refine wpList_append_own W hgd s x 55 ho base 24 i0 _ 6 64 Tryd.underlying55 hi hz0 hz1 hz2 rfl (by decide) v ys.length (inAll ys) hs hot
    ⟨g, 0, none⟩ 1 1 (y.cells op).toList hx rfl (fun j u hu => ?_) (fun u hu => ?_) (by unfold maxLen; omega) (by omega) hbase (fun v' W' hr hg _ => h v' W' ?_ hg)
  · rw [addr_plainI, Nat.zero_add, hb.cell j, ← hu]; simp
  · unfold Sg.cells at hu
    rw [he] at hu
    simp only [List.mem_cons, List.not_mem_nil, or_false] at hu
    rcases hu with rfl | rfl | rfl | rfl | rfl | rfl <;> rfl
  · rw [List.length_append, inAll_snoc]; exact hr
/-- An instruction with a list cut to twelve. -/
def fewS (y : Int × Sg) (A : Option Addr) (cp : Nat) : Int × Sg := (y.1, ⟨y.2.a, y.2.b, y.2.c, y.2.d, .slice A (min y.2.l.length 12) cp, y.2.l.take (min y.2.l.length 12)⟩)
def byB (ys : List (Int × Sg)) : List UInt8 := ys.flatMap fun y => bytesI (y.2.ins y.1)
/-- Instructions that may be, whose lists lie in what was there. -/
def OkL (w0 : World) (ys : List (Int × Sg)) : Prop := ∀ y ∈ ys, chkI (y.2.ins y.1) = 0 ∧ Whole y.2.a ∧ IntsA (fun b => b < w0.heap.size) w0 y.2.lv y.2.l
theorem OkL.snoc {w0 : World} {ys : List (Int × Sg)} {y : Int × Sg} (h : OkL w0 ys) (h1 : chkI (y.2.ins y.1) = 0) (h2 : Whole y.2.a) (h3 : IntsA (fun b => b < w0.heap.size) w0 y.2.lv y.2.l) : OkL w0 (ys ++ [y]) := fun z hz => by
  rcases List.mem_append.1 hz with hz | hz
  · exact h z hz
  · obtain rfl := List.mem_singleton.1 hz
    exact ⟨h1, h2, h3⟩
theorem byB_snoc (ys : List (Int × Sg)) (y : Int × Sg) : byB (ys ++ [y]) = byB ys ++ bytesI (y.2.ins y.1) := by simp [byB]
theorem byB_le {w0 : World} {ys : List (Int × Sg)} (h : OkL w0 ys) : (byB ys).length ≤ 1000 * ys.length := by
  induction ys with
  | nil => simp [byB]
  | cons y ys ih =>
    have h1 := ih (fun z hz => h z (List.mem_cons_of_mem _ hz))
    obtain ⟨h2, h3, _⟩ := h y (List.mem_cons_self)
    have := bytes_le h2 h3
    simp only [byB, List.flatMap_cons, List.length_append, List.length_cons] at h1 ⊢
    omega
theorem bytesI_pos (x : Ins) : 0 < (bytesI x).length := by unfold bytesI; simp
theorem byB_cut (ys : List (Int × Sg)) (j : Nat) : byB ys = byB (ys.take j) ++ byB (ys.drop j) := by
  have h : byB (ys.take j ++ ys.drop j) = byB (ys.take j) ++ byB (ys.drop j) := List.flatMap_append
  rwa [List.take_append_drop] at h
theorem byB_drop {ys : List (Int × Sg)} {j : Nat} {y : Int × Sg} (h : ys[j]? = some y) : (byB ys).drop (byB (ys.take j)).length = bytesI (y.2.ins y.1) ++ byB (ys.drop (j + 1)) := by
  obtain ⟨hj, rfl⟩ := List.getElem?_eq_some_iff.1 h
  rw [byB_cut ys j, List.drop_left, List.drop_eq_getElem_cons hj]
  simp only [byB, List.flatMap_cons]
theorem byB_next {ys : List (Int × Sg)} {j : Nat} {y : Int × Sg} (h : ys[j]? = some y) : (byB (ys.take j)).length + (bytesI (y.2.ins y.1)).length = (byB (ys.take (j + 1))).length := by
  rw [List.take_add_one, h]
  simp [byB]
/-- The writer holds bs, the row of instructions is the call's own, and nothing that was there has turned. -/
structure IW (w0 w : World) (g : Nat) (bs : List UInt8) (vp : Value) (ys : List (Int × Sg)) : Prop where
  err : ErrType w0
  st : w0.grownBy w none
  wt : Wtr w0.heap.size w g bs
  own : w.ownsRow w0.heap.size 24 6 vp ys.length (inAll ys)
section
variable {w0 w w' : World} {g a a' : Nat} {bs bs' : List UInt8} {vp : Value} {ys : List (Int × Sg)}
theorem IW.none_ (h : IW w0 w g bs vp ys) (hg : w.grownBy w' none) : IW w0 w' g bs vp ys := ⟨h.err, only_trans h.st hg, h.wt.kept hg, h.own.kept hg (by cases hv : vp.ownBlock <;> simp)⟩
theorem IW.wrote (h : IW w0 w g bs vp ys) (hw : Wtr w0.heap.size w' g bs') (ht : Turn (WS w0.heap.size w g) w w') : IW w0 w' g bs' vp ys := by
  have hge : w0.heap.size ≤ g := h.wt.1
  refine ⟨h.err, Turn.only h.st ht (fun i hi => WS.le hge hi), hw, own_turn h.own ht (fun k hk hs => ?_)⟩
  rcases hs with rfl | ⟨_, h8⟩
  · obtain ⟨_, v, hb2, _⟩ := h.wt
    exact own_ne h.own hb2 (by decide) hk
  · exact own_not_u8 h.own (by decide) hk h8
/-- Behind an append to the row. -/
theorem IW.appended {w1 : World} {vp' : Value} {y : Int × Sg} (h : IW w0 w g bs vp ys) (hg : w.grownBy w1 vp.ownBlock) (ho : w1.ownsRow w0.heap.size 24 6 vp' (ys ++ [y]).length (inAll (ys ++ [y]))) : IW w0 w1 g bs vp' (ys ++ [y]) := by
  have hst : w0.grownBy w1 none := by
    refine ⟨hg.os.trans h.st.os, hg.tape.trans h.st.tape, hg.output.trans h.st.output, Nat.le_trans h.st.size hg.size, fun i hi _ => ?_⟩
    refine (hg.block i (Nat.lt_of_lt_of_le hi h.st.size) (fun e => ?_)).trans (h.st.block i hi (fun e => by cases e))
    have := (h.own.lt i e.symm).1
    omega
  refine ⟨h.err, hst, ?_, ho⟩
  refine h.wt.grown hg (fun e => ?_) (fun k e => own_not_u8 h.own (by decide) e)
  obtain ⟨_, v, hb2, _⟩ := h.wt
  exact own_ne h.own hb2 (by decide) e.symm
/-- The reader is at a, the row of instructions is the call's own, and nothing that was there has turned. -/
structure IR (w0 w : World) (g : Nat) (bs : List UInt8) (a : Nat) (vp : Value) (ys : List (Int × Sg)) : Prop where
  err : ErrType w0
  st : w0.grownBy w none
  ge : w0.heap.size ≤ g
  rd : Rdr w g bs a 0
  own : w.ownsRow w0.heap.size 24 6 vp ys.length (inAll ys)
theorem IR.none_ (h : IR w0 w g bs a vp ys) (hg : w.grownBy w' none) : IR w0 w' g bs a vp ys := ⟨h.err, only_trans h.st hg, h.ge, h.rd.kept hg, h.own.kept hg (by cases hv : vp.ownBlock <;> simp)⟩
theorem IR.move (h : IR w0 w g bs a vp ys) (hg : w.grownBy w' (some g)) (hr : Rdr w' g bs a' 0) : IR w0 w' g bs a' vp ys := by
  obtain ⟨cs, hb⟩ := h.rd.blk
  exact ⟨h.err, only_new h.st hg h.ge, h.ge, hr, h.own.kept hg (.inr (own_ne h.own hb (by decide)))⟩
/-- The row's slice, and its cells. -/
theorem row_cells (h : w.ownsRow w0.heap.size 24 6 vp ys.length (inAll ys)) (hn : ys ≠ []) : ∃ g cap, vp = .slice (some ⟨g, 0, none⟩) ys.length cap ∧ ∀ (i : Nat) (y : Int × Sg), ys[i]? = some y → ∀ (j : Nat) (u : Value), (y.2.cells y.1)[j]? = some u → w.cell? ⟨g, i * 6 + j, none⟩ = some u := by
  rcases h.2 with ⟨rfl, he⟩ | ⟨g, cap, cur, rfl, hb, hh, _⟩
  · have := inAll_len ys
    rw [he] at this
    exact absurd (List.eq_nil_of_length_eq_zero (by simp at this; omega)) hn
  · refine ⟨g, cap, rfl, fun i y hy j u hu => ?_⟩
    have hj : j < 6 := by have := (Array.getElem?_eq_some_iff.1 hu).1; exact this
    have := h.cells (g := g) rfl (i * 6 + j) u ((inAll_at hy j hj).trans (by rw [Array.getElem?_toList]; exact hu))
    rwa [addr_plainI, Nat.zero_add] at this
end
end Go.Proofs.YtmbdaenjeeklfaaDoor

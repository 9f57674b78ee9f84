/- Texts joined for the claim's sake: ICom, IKnR, IKnB. -/
import Derived.Test.YtmbdaenjeeklfaaDoorZInF
import Derived.Test.YtmbdaenjeeklfaaDoorZInK
import Derived.Test.YtmbdaenjeeklfaaDoorZInI
/- insn: Comm, Ends: what is told of a number. -/
namespace Go.Proofs.YtmbdaenjeeklfaaDoor
open Go.RowKit

def commB (op : Int) : Bool := decide (op = 14 ∨ op = 15 ∨ op = 16 ∨ op = 17 ∨ op = 18 ∨ op = 19)
def endsB (op : Int) : Bool := decide (op = 11 ∨ op = 19 ∨ op = 24)
set_option maxRecDepth 100000 in
set_option maxHeartbeats 2000000 in
theorem comm_any (op : Int) (w : World) : Calls Tryd.prog 15 #[.int .i64 op] w fun e w' => e = .returned (.bool (commB op)) ∧ w.grownBy w' none := by
  by_cases h14 : op = 14
  · subst h14; go_enter Tryd.func15, Tryd.ntmps15; go_wp2_with fail; go_ret; exact ⟨rfl, only_refl _ _⟩
  by_cases h15 : op = 15
  · subst h15; go_enter Tryd.func15, Tryd.ntmps15; go_wp2_with fail; go_ret; exact ⟨rfl, only_refl _ _⟩
  by_cases h16 : op = 16
  · subst h16; go_enter Tryd.func15, Tryd.ntmps15; go_wp2_with fail; go_ret; exact ⟨rfl, only_refl _ _⟩
  by_cases h17 : op = 17
  · subst h17; go_enter Tryd.func15, Tryd.ntmps15; go_wp2_with fail; go_ret; exact ⟨rfl, only_refl _ _⟩
  by_cases h18 : op = 18
  · subst h18; go_enter Tryd.func15, Tryd.ntmps15; go_wp2_with fail; go_ret; exact ⟨rfl, only_refl _ _⟩
  by_cases h19 : op = 19
  · subst h19; go_enter Tryd.func15, Tryd.ntmps15; go_wp2_with fail; go_ret; exact ⟨rfl, only_refl _ _⟩
  have hb : commB op = false := by unfold commB; simp [*]
  rw [hb]
  clear hb
  go_enter Tryd.func15, Tryd.ntmps15; go_wp2_with fail; go_ret; exact ⟨rfl, only_refl _ _⟩
set_option maxRecDepth 100000 in
set_option maxHeartbeats 2000000 in
theorem ends_any (op : Int) (w : World) : Calls Tryd.prog 17 #[.int .i64 op] w fun e w' => e = .returned (.bool (endsB op)) ∧ w.grownBy w' none := by
  by_cases h14 : op = 11
  · subst h14; go_enter Tryd.func17, Tryd.ntmps17; go_wp2_with fail; go_ret; exact ⟨rfl, only_refl _ _⟩
  by_cases h15 : op = 19
  · subst h15; go_enter Tryd.func17, Tryd.ntmps17; go_wp2_with fail; go_ret; exact ⟨rfl, only_refl _ _⟩
  by_cases h16 : op = 24
  · subst h16; go_enter Tryd.func17, Tryd.ntmps17; go_wp2_with fail; go_ret; exact ⟨rfl, only_refl _ _⟩
  have hb : endsB op = false := by unfold endsB; simp [*]
  rw [hb]
  clear hb
  go_enter Tryd.func17, Tryd.ntmps17; go_wp2_with fail; go_ret; exact ⟨rfl, only_refl _ _⟩
end Go.Proofs.YtmbdaenjeeklfaaDoor

/- What single operations of the statements of stage 9 answer, in a region that draws its order. No walk. -/
namespace Go.Proofs.YtmbdaenjeeklfaaDoor
open Go.RowKit

section
variable {vals : List (Tmp × Value)} {ex : List (Tmp × VP)} {w : World} {o : Oper}
theorem ov_ix10 {s i : Tmp} {q k : Nat} (ho : o.op = .indexAddr 61 (.tmp s) (.tmp i)) (hs : vals.lookup s = some (.pointer (some ⟨q, 0, none⟩))) (hi : vals.lookup i = some (.int .i64 (k : Int))) (hk : k < 10) : OpVal Tryd.prog o vals w (.pointer (some ⟨q, k, none⟩)) := fun b W hg hr => by
  have he := hr s _ (by rw [ho]; simp [Op.operands]) hs
  have hf := hr i _ (by rw [ho]; simp [Op.operands]) hi
  have hk0 : (0 : Int) ≤ (k : Int) := by omega
  have hk1 : (k : Int) < 10 := by omega
  obtain ⟨dst, op, type, pos, after, guard⟩ := o
  dsimp only at ho
  subst ho
  refine .inl ?_
  simp only [execOp, he, hf]
  go_simp
theorem ov_conv8 {t : Tmp} {p : Int} (ho : o.op = .convert 3 5 (.tmp t)) (h : vals.lookup t = some (.int .i64 p)) (hp : IntKind.u8.wrap p = p) : OpVal Tryd.prog o vals w (.int .u8 p) := fun b W hg hr => by
  have he := hr t _ (by rw [ho]; simp [Op.operands]) h
  obtain ⟨dst, op, type, pos, after, guard⟩ := o
  dsimp only at ho
  subst ho
  refine .inl ?_
  simp only [execOp, he]
  go_simp
theorem ov_ins0 {t : Tmp} {p : Int} (ho : o.op = .build 24 #[(0, .tmp t)]) (h : vals.lookup t = some (.int .i64 p)) : OpVal Tryd.prog o vals w (.agg (Sg.cells ⟨0, 0, 0, 0, .slice none 0 0, []⟩ p)) := fun b W hg hr => by
  have he := hr t _ (by rw [ho]; simp [Op.operands]) h
  obtain ⟨dst, op, type, pos, after, guard⟩ := o
  dsimp only at ho
  subst ho
  refine .inl ?_
  have hb : (Instr.build 24 #[(0, .int .i64 p)]).run Tryd.prog W = .ok (.agg #[.int .i64 p, .int .i64 0, .int .i64 0, .int .i64 0, .int .i64 0, .slice none 0 0]) W := run_build W _ _ _ (by kernel_rfl)
  generalize b.eval = ev at he ⊢
  simp [execOp, he, hb, Sg.cells]
theorem ov_ins02 {t : Tmp} {p : Int} (ho : o.op = .build 24 #[(0, .tmp t), (2, .const (.int .i64 1))]) (h : vals.lookup t = some (.int .i64 p)) : OpVal Tryd.prog o vals w (.agg (Sg.cells ⟨0, 1, 0, 0, .slice none 0 0, []⟩ p)) := fun b W hg hr => by
  have he := hr t _ (by rw [ho]; simp [Op.operands]) h
  obtain ⟨dst, op, type, pos, after, guard⟩ := o
  dsimp only at ho
  subst ho
  refine .inl ?_
  have hb : (Instr.build 24 #[(0, .int .i64 p), (2, .int .i64 1)]).run Tryd.prog W = .ok (.agg #[.int .i64 p, .int .i64 0, .int .i64 1, .int .i64 0, .int .i64 0, .slice none 0 0]) W := run_build W _ _ _ (by kernel_rfl)
  have hc : b.eval (.const (.int .i64 1)) = .int .i64 1 := rfl
  generalize b.eval = ev at he hc ⊢
  simp [execOp, he, hc, hb, Sg.cells]
theorem ov_call1 {f : FuncId} {t1 : Tmp} {c1 r : Value} {ts : Array TypeId} (ho : o.op = .call { callee := .value (.func f), args := #[.tmp t1], argTypes := ts }) (h1 : vals.lookup t1 = some c1) (hrun : ∀ W, (callFunc f #[c1]).run Tryd.prog W = .ok (.enter f #[c1]) W)
    (hc : ∀ W, w.grownBy W none → Calls Tryd.prog f #[c1] W fun e w'' => e = .returned r ∧ W.grownBy w'' none) : OpVal Tryd.prog o vals w r := fun b W hg hr => by
  have e1 := hr t1 _ (by rw [ho]; simp [Op.operands, Call.operands]) h1
  obtain ⟨dst, op, type, pos, after, guard⟩ := o
  dsimp only at ho
  subst ho
  refine .inr ⟨f, #[c1], ?_, hc W hg⟩
  have e1' : b.tmps[t1]?.getD undef = c1 := by simpa [Act.eval] using e1
  simp [execOp, resolve, Deferred.ofValue, invoke, Act.eval, e1', hrun W]
/-- A row of one that was made. -/
def Row1 (ty : TypeId) (c : Value) : VP := fun v W => ∃ b, v = .slice (some ⟨b, 0, none⟩) 1 1 ∧ Blk W b ty #[c]
theorem row1_keeps {t : Tmp} {ty : TypeId} {c : Value} : KeepsV t (Row1 ty c) := fun v W W' h hg => by
  obtain ⟨b, h1, h2⟩ := h
  exact ⟨b, h1, h2.kept hg⟩
theorem ox_bytes1 {t : Tmp} {p : Int} (ho : o.op = .buildSlice 63 1 #[(0, .tmp t)]) (h : vals.lookup t = some (.int .u8 p)) : OpP Tryd.prog o vals ex w (Row1 5 (.int .u8 p)) := fun b W hg hr hx => by
  have he := hr t _ (by rw [ho]; simp [Op.operands]) h
  obtain ⟨dst, op, type, pos, after, guard⟩ := o
  dsimp only at ho
  subst ho
  have h' : b.tmps[t]?.getD undef = .int .u8 p := by simpa [Act.eval] using he
  refine .inl ⟨_, W.alloc (.cells #[.int .u8 p] 5), ?_, only_alloc (only_refl _ _) _, W.heap.size, rfl, Blk.new _ _ _⟩
  simp only [execOp]
  go_simp
theorem ox_ints1 (ho : o.op = .buildSlice 22 1 #[(0, .const (.int .i64 0))]) : OpP Tryd.prog o vals ex w (Row1 3 (.int .i64 0)) := fun b W hg hr hx => by
  obtain ⟨dst, op, type, pos, after, guard⟩ := o
  dsimp only at ho
  subst ho
  refine .inl ⟨_, W.alloc (.cells #[.int .i64 0] 3), ?_, only_alloc (only_refl _ _) _, W.heap.size, rfl, Blk.new _ _ _⟩
  simp only [execOp]
  go_simp
theorem op_str {t : Tmp} {p : Int} {u : UInt8} (ho : o.op = .convert 63 9 (.tmp t)) (h : ex.lookup t = some (Row1 5 (.int .u8 p))) (hp : p = (u.toNat : Int)) : OpP Tryd.prog o vals ex w (fun v _ => v = .string ⟨#[u]⟩) := fun b W hg hr hx => by
  obtain ⟨g, he, hb⟩ := hx t _ (by rw [ho]; simp [Op.operands]) h
  obtain ⟨dst, op, type, pos, after, guard⟩ := o
  dsimp only at ho
  subst ho
  have hc : (convert 63 9 (.slice (some ⟨g, 0, none⟩) 1 1)).run Tryd.prog W = .ok (.string ⟨#[u]⟩) W := by
    subst hp
    refine run_convert_bytes_back W _ _ _ ⟨g, 0, none⟩ 1 [u] Tryd.underlying63 Tryd.underlying5 Tryd.underlying9 fun j hj => ?_
    simp at hj
    subst hj
    exact hb.cell 0
  refine .inl ⟨_, W, ?_, only_refl _ _, rfl⟩
  generalize b.eval = ev at he ⊢
  simp [execOp, he, hc]
/-- An instruction whose list is a row of one. -/
def Ins1 (p z : Int) : VP := fun v W => ∃ b, v = .agg #[.int .i64 p, .int .i64 0, .int .i64 0, .int .i64 0, .int .i64 0, .slice (some ⟨b, 0, none⟩) 1 1] ∧ Blk W b 3 #[.int .i64 z]
theorem ins1_keeps {t : Tmp} {p z : Int} : KeepsV t (Ins1 p z) := fun v W W' h hg => by
  obtain ⟨b, h1, h2⟩ := h
  exact ⟨b, h1, h2.kept hg⟩
theorem ox_ins5 {t s : Tmp} {p z : Int} (ho : o.op = .build 24 #[(0, .tmp t), (5, .tmp s)]) (h : vals.lookup t = some (.int .i64 p)) (h2 : ex.lookup s = some (Row1 3 (.int .i64 z))) : OpP Tryd.prog o vals ex w (Ins1 p z) := fun b W hg hr hx => by
  have he := hr t _ (by rw [ho]; simp [Op.operands]) h
  obtain ⟨g, hf, hb⟩ := hx s _ (by rw [ho]; simp [Op.operands]) h2
  obtain ⟨dst, op, type, pos, after, guard⟩ := o
  dsimp only at ho
  subst ho
  have hq : (Instr.build 24 #[(0, .int .i64 p), (5, .slice (some ⟨g, 0, none⟩) 1 1)]).run Tryd.prog W = .ok (.agg #[.int .i64 p, .int .i64 0, .int .i64 0, .int .i64 0, .int .i64 0, .slice (some ⟨g, 0, none⟩) 1 1]) W := run_build W _ _ _ (by kernel_rfl)
  refine .inl ⟨_, W, ?_, only_refl _ _, g, rfl, hb⟩
  generalize b.eval = ev at he hf ⊢
  simp [execOp, he, hf, hq]
/-- A call of one argument, of which a predicate is told. -/
theorem op_call1 {f : FuncId} {t1 : Tmp} {q : VP} {r : Value} {ts : Array TypeId} (ho : o.op = .call { callee := .value (.func f), args := #[.tmp t1], argTypes := ts }) (h1 : ex.lookup t1 = some q) (hrun : ∀ c W, (callFunc f #[c]).run Tryd.prog W = .ok (.enter f #[c]) W)
    (hc : ∀ c W, w.grownBy W none → q c W → Calls Tryd.prog f #[c] W fun e w'' => e = .returned r ∧ W.grownBy w'' none) : OpP Tryd.prog o vals ex w (fun v _ => v = r) := fun b W hg hr hx => by
  have e1 := hx t1 _ (by rw [ho]; simp [Op.operands, Call.operands]) h1
  obtain ⟨dst, op, type, pos, after, guard⟩ := o
  dsimp only at ho
  subst ho
  obtain ⟨c, hcv⟩ : ∃ c, b.eval (.tmp t1) = c := ⟨_, rfl⟩
  rw [hcv] at e1
  refine .inr ⟨f, #[c], ?_, (hc c W hg e1).mono ?_⟩
  · have e1' : b.tmps[t1]?.getD undef = c := by simpa [Act.eval] using hcv
    simp [execOp, resolve, Deferred.ofValue, invoke, Act.eval, e1', hrun c W]
  · rintro e w'' ⟨rfl, hg'⟩
    exact ⟨r, rfl, hg', rfl⟩
end
end Go.Proofs.YtmbdaenjeeklfaaDoor

/- InsnKnown: the instructions that may not be, as they lie in memory; how many ops talk. -/
namespace Go.Proofs.YtmbdaenjeeklfaaDoor
open Go.RowKit

abbrev noL : Value := .slice none 0 0
abbrev atL (B n : Nat) : Value := .slice (some ⟨B, 0, none⟩) n n
def badL (B : Nat) : List (Int × Sg) := [(0, ⟨1, 0, 0, 0, noL, []⟩), (9, ⟨0, 16, 0, 0, noL, []⟩), (10, ⟨0, -1, 0, 0, noL, []⟩), (14, ⟨0, 0, 1, 0, noL, []⟩), (17, ⟨0, 4, 4, 0, noL, []⟩), (23, ⟨0, 0, 16, 0, noL, []⟩), (11, ⟨0, 0, 0, 0, noL, []⟩),
  (11, ⟨0, 0, 0, 0, atL B 2, [1, 2]⟩), (12, ⟨0, 0, 0, 0, atL (B + 1) 1, [128]⟩), (18, ⟨0, 0, 8, 0, noL, []⟩), (19, ⟨0, 0, 0, 0, noL, []⟩), (19, ⟨0, 0, 0, 0, atL (B + 1 + 1) 9, [0, 0, 0, 0, 0, 0, 0, 0, 0]⟩), (20, ⟨0, 0, 0, 0, atL (B + 1 + 1 + 1) 2, [1, 1]⟩), (20, ⟨0, 0, 0, 0, atL (B + 1 + 1 + 1 + 1) 1, [1]⟩), (20, ⟨0, 0, 0, 1001, atL (B + 1 + 1 + 1 + 1 + 1) 2, [0, 1]⟩), (20, ⟨0, 64, 0, 0, atL (B + 1 + 1 + 1 + 1 + 1 + 1) 2, [0, 1]⟩),
  (21, ⟨0, 16, 0, 0, noL, []⟩), (21, ⟨0, 0, 0, 0, atL (B + 1 + 1 + 1 + 1 + 1 + 1 + 1) 2, [3, 3]⟩), (21, ⟨0, 0, 0, 0, atL (B + 1 + 1 + 1 + 1 + 1 + 1 + 1 + 1) 9, [0, 1, 2, 3, 4, 5, 6, 7, 8]⟩), (22, ⟨0, 0, 0, 1, noL, []⟩), (1, ⟨0, 1, 0, 0, noL, []⟩)]
def badC (B : Nat) : Array Value := ((badL B).flatMap fun y => (y.2.cells y.1).toList).toArray
theorem bad_chk {B : Nat} : ∀ y ∈ badL B, chkI (y.2.ins y.1) = 2 := by
  intro y hy
  simp only [badL, List.mem_cons, List.not_mem_nil, or_false] at hy
  rcases hy with rfl | rfl | rfl | rfl | rfl | rfl | rfl | rfl | rfl | rfl | rfl | rfl | rfl | rfl | rfl | rfl | rfl | rfl | rfl | rfl | rfl <;> kernel_rfl
theorem bad_whole {B : Nat} : ∀ y ∈ badL B, Whole y.2.a := by
  intro y hy
  simp only [badL, List.mem_cons, List.not_mem_nil, or_false] at hy
  rcases hy with rfl | rfl | rfl | rfl | rfl | rfl | rfl | rfl | rfl | rfl | rfl | rfl | rfl | rfl | rfl | rfl | rfl | rfl | rfl | rfl | rfl <;> exact ⟨by dsimp only; omega, by dsimp only; omega⟩
theorem bad_len {B : Nat} : (badL B).length = 21 := rfl
theorem bad_at {B i j : Nat} {y : Int × Sg} {u : Value} (h : (badL B)[i]? = some y) (hu : (y.2.cells y.1)[j]? = some u) : (badC B)[i * 6 + j]? = some u := by
  have hi : i < 21 := by have := (List.getElem?_eq_some_iff.1 h).1; rw [bad_len] at this; exact this
  have hj : j < 6 := by have := (Array.getElem?_eq_some_iff.1 hu).1; exact this
  have key : ∀ i, i < 21 → ∀ j, j < 6 → ((badL B)[i]?).bind (fun y => (y.2.cells y.1)[j]?) = (badC B)[i * 6 + j]? := by
    intro i hi j hj
    rcases (by omega : i = 0 ∨ i = 1 ∨ i = 2 ∨ i = 3 ∨ i = 4 ∨ i = 5 ∨ i = 6 ∨ i = 7 ∨ i = 8 ∨ i = 9 ∨ i = 10 ∨ i = 11 ∨ i = 12 ∨ i = 13 ∨ i = 14 ∨ i = 15 ∨ i = 16 ∨ i = 17 ∨ i = 18 ∨ i = 19 ∨ i = 20) with rfl | rfl | rfl | rfl | rfl | rfl | rfl | rfl | rfl | rfl | rfl | rfl | rfl | rfl | rfl | rfl | rfl | rfl | rfl | rfl | rfl <;>
    rcases (by omega : j = 0 ∨ j = 1 ∨ j = 2 ∨ j = 3 ∨ j = 4 ∨ j = 5) with rfl | rfl | rfl | rfl | rfl | rfl <;> rfl
  rw [← key i hi j hj, h]
  exact hu
/-- The rows of the lists. -/
structure BadR (B : Nat) (W : World) : Prop where
  r0 : Blk W B 3 #[.int .i64 1, .int .i64 2]
  r1 : Blk W (B + 1) 3 #[.int .i64 128]
  r2 : Blk W (B + 1 + 1) 3 #[.int .i64 0, .int .i64 0, .int .i64 0, .int .i64 0, .int .i64 0, .int .i64 0, .int .i64 0, .int .i64 0, .int .i64 0]
  r3 : Blk W (B + 1 + 1 + 1) 3 #[.int .i64 1, .int .i64 1]
  r4 : Blk W (B + 1 + 1 + 1 + 1) 3 #[.int .i64 1]
  r5 : Blk W (B + 1 + 1 + 1 + 1 + 1) 3 #[.int .i64 0, .int .i64 1]
  r6 : Blk W (B + 1 + 1 + 1 + 1 + 1 + 1) 3 #[.int .i64 0, .int .i64 1]
  r7 : Blk W (B + 1 + 1 + 1 + 1 + 1 + 1 + 1) 3 #[.int .i64 3, .int .i64 3]
  r8 : Blk W (B + 1 + 1 + 1 + 1 + 1 + 1 + 1 + 1) 3 #[.int .i64 0, .int .i64 1, .int .i64 2, .int .i64 3, .int .i64 4, .int .i64 5, .int .i64 6, .int .i64 7, .int .i64 8]
  r9 : Blk W (B + 1 + 1 + 1 + 1 + 1 + 1 + 1 + 1 + 1) 24 (badC B)
theorem BadR.kept {B : Nat} {W W' : World} (h : BadR B W) (hg : W.grownBy W' none) : BadR B W' :=
  ⟨h.r0.kept hg, h.r1.kept hg, h.r2.kept hg, h.r3.kept hg, h.r4.kept hg, h.r5.kept hg, h.r6.kept hg, h.r7.kept hg, h.r8.kept hg, h.r9.kept hg⟩
theorem ints_blk {W : World} {b : Nat} {l : List Int} {n : Nat} (hb : Blk W b 3 (l.map zV).toArray) (hn : l.length = n) : IntsA (fun b => b < W.heap.size) W (atL b n) l := by
  subst hn
  refine ⟨_, _, rfl, fun _ => ⟨b, 0, rfl, hb.lt, fun i z hz => ?_⟩⟩
  rw [Nat.zero_add, hb.cell i]
  simp only [List.getElem?_toArray, List.getElem?_map, hz]
  rfl
theorem bad_ints {B : Nat} {W : World} (h : BadR B W) : ∀ y ∈ badL B, IntsA (fun b => b < W.heap.size) W y.2.lv y.2.l := by
  intro y hy
  simp only [badL, List.mem_cons, List.not_mem_nil, or_false] at hy
  rcases hy with rfl | rfl | rfl | rfl | rfl | rfl | rfl | rfl | rfl | rfl | rfl | rfl | rfl | rfl | rfl | rfl | rfl | rfl | rfl | rfl | rfl
  all_goals first
    | exact ints_none _
    | exact ints_blk h.r0 rfl
    | exact ints_blk h.r1 rfl
    | exact ints_blk h.r2 rfl
    | exact ints_blk h.r3 rfl
    | exact ints_blk h.r4 rfl
    | exact ints_blk h.r5 rfl
    | exact ints_blk h.r6 rfl
    | exact ints_blk h.r7 rfl
    | exact ints_blk h.r8 rfl
def cntC (z : Int) : Nat := ((List.range (z + 1).toNat).filter fun (n : Nat) => commB ((n : Int) - 1)).length
theorem cntC_step {z : Int} (h : -1 ≤ z) : cntC (z + 1) = if commB z = true then cntC z + 1 else cntC z := by
  unfold cntC
  rw [show (z + 1 + 1).toNat = (z + 1).toNat + 1 by omega, List.range_succ, List.filter_append, List.length_append]
  have : (((z + 1).toNat : Nat) : Int) - 1 = z := by omega
  simp only [List.filter_cons, List.filter_nil, this]
  split <;> rfl
theorem cntC_le (z : Int) : cntC z ≤ (z + 1).toNat := by
  unfold cntC
  have := List.length_filter_le (fun n : Nat => commB ((n : Int) - 1)) (List.range (z + 1).toNat)
  rwa [List.length_range] at this
theorem int_infoK : (Tryd.prog.info? 3).map (fun i => (i.zero, i.size, i.bytes)) = some (some (.int .i64 0), 1, 8) := by kernel_rfl
theorem make_9 (W : World) : (Instr.makeSlice 22 (.int .i64 9) (.int .i64 9)).run Tryd.prog W = .ok (.slice (some ⟨W.heap.size, 0, none⟩) 9 9) (W.alloc (.cells #[.int .i64 0, .int .i64 0, .int .i64 0, .int .i64 0, .int .i64 0, .int .i64 0, .int .i64 0, .int .i64 0, .int .i64 0] 3)) := by
  obtain ⟨i0, hi, hz0, hz1, hz2⟩ := info_parts int_infoK
  have hr := run_make (P := Tryd.prog) W 22 3 i0 _ Tryd.underlying22 hi hz0 .i64 .i64 (9 : Int) (9 : Int) (by omega) (Int.le_refl _) (by rw [hz2]; decide) (by omega)
  have hc : madeCells (Value.int .i64 0).cells (Int.toNat 9 * 1) = #[.int .i64 0, .int .i64 0, .int .i64 0, .int .i64 0, .int .i64 0, .int .i64 0, .int .i64 0, .int .i64 0, .int .i64 0] := by kernel_rfl
  rw [hz1, hc] at hr
  exact hr
end Go.Proofs.YtmbdaenjeeklfaaDoor

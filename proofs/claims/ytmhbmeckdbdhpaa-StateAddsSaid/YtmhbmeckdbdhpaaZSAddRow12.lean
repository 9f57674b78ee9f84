/- Texts joined for the claim's sake: SDoc, SVal. -/
import Derived.Test.YtmhbmeckdbdhpaaZSAddRow11
import Derived.Test.YtmhbmeckdbdhpaaZSAddRow9
import Derived.ProofKit
import Derived.DeepKeys
import Derived.ChangeKeysEq
import Derived.Laws.StructEq
import Derived.Laws.Rows
import Derived.Laws.Tables
import Derived.Deep.MidRow
namespace Go.Proofs.Ytmhbmeckdbdhpaa
open Go.RowKit

structure Slt where
  kind : Int
  cls : Int
  prio : Int
deriving DecidableEq
structure StT where
  lv : Int
  dp : Int
  regs : List Slt
deriving DecidableEq
abbrev zeroS : Slt := ⟨0, 0, 0⟩
abbrev zeroT : StT := ⟨0, 0, List.replicate 16 zeroS⟩
/-- A slot that is busy, by a list of classes. -/
def busyB (xs : List Nd) (x : Slt) : Bool := decide (x.kind = 2) && (match nodeAt xs x.cls with | some n => decide (n.kind ≠ 0) | none => false)
/-- The least priority, so far. -/
def lessO (o : Option Int) (x : Slt) : Option Int := match o with | none => some x.prio | some m => if x.prio < m then some x.prio else some m
def leastO (l : List Slt) : Option Int := l.foldl lessO none
def leastA (xs : List Nd) (s : StT) : Option Int := leastO (s.regs.filter (busyB xs))
def raiseA (xs : List Nd) (s : StT) : StT := match leastA xs s with | some m => { s with lv := m } | none => s
def pad16 (l : List Slt) : List Slt := l.take 16 ++ List.replicate (16 - l.length) zeroS
def entryA (xs : List Nd) (ps : List (List Slt)) (t : Int) : StT := if t < 0 ∨ (ps.length : Int) ≤ t then zeroT else raiseA xs ⟨0, 0, pad16 (ps.getD t.toNat [])⟩
def movS (xs : List Nd) (t : Int) (x : Slt) : Slt := if busyB xs x then { x with prio := wrap64 (x.prio + t) } else x
def shiftA (xs : List Nd) (a b : StT) : Int × Bool := if a.dp = b.dp ∧ a.regs.map (movS xs (wrap64 (b.lv - a.lv))) = b.regs then (wrap64 (b.lv - a.lv), true) else (0, false)
/-- What is made further by t. -/
def farA (xs : List Nd) (s : StT) (t : Int) : StT := ⟨wrap64 (s.lv + t), s.dp, s.regs.map (movS xs t)⟩

/-! ### Facts -/
structure Prm where
  chan : Bool
  ty : Ed
def slotA (T : ClsT) (p : Prm) : Slt := if p.chan then ⟨2, (typeA T p.ty).1, (typeA T p.ty).2⟩ else ⟨1, 0, 0⟩
def prmB (n : Nat) (p : Prm) : Bool := !p.chan || (decide (0 ≤ p.ty.1) && decide (p.ty.1 < (n : Int)))
def tplB (n : Nat) (ps : List Prm) : Bool := ps.all (prmB n) && decide (ps.length ≤ 8)
abbrev emptyC : ClsT := ⟨[], [], []⟩
/-- The error, the table of classes, the parameters' slots. -/
def factsA (xs : List Nd) (ts : List (List Prm)) : Int × ClsT × List (List Slt) :=
  if (orderL xs).2 = 0 then (if ts.all (tplB xs.length) then (0, clsT xs, ts.map (·.map (slotA (clsT xs)))) else (2, emptyC, [])) else ((orderL xs).2, emptyC, [])

theorem busy_kind {xs : List Nd} {x : Slt} (h : busyB xs x = true) : x.kind = 2 ∧ ∃ n, nodeAt xs x.cls = some n ∧ n.kind ≠ 0 := by
  unfold busyB at h
  rw [Bool.and_eq_true, decide_eq_true_eq] at h
  refine ⟨h.1, ?_⟩
  have h2 := h.2
  cases hn : nodeAt xs x.cls with
  | none => rw [hn] at h2; cases h2
  | some n => rw [hn] at h2; exact ⟨n, rfl, of_decide_eq_true h2⟩
theorem busy_mov {xs : List Nd} {t : Int} {x : Slt} : busyB xs (movS xs t x) = busyB xs x := by
  unfold movS
  split
  · rfl
  · rfl
theorem pad_len (l : List Slt) : (pad16 l).length = 16 := by
  unfold pad16
  rw [List.length_append, List.length_take, List.length_replicate]
  omega
theorem raise_regs (xs : List Nd) (s : StT) : (raiseA xs s).regs = s.regs ∧ (raiseA xs s).dp = s.dp := by
  unfold raiseA
  cases leastA xs s <;> exact ⟨rfl, rfl⟩
end Go.Proofs.Ytmhbmeckdbdhpaa

namespace Go.Proofs.Ytmhbmeckdbdhpaa
open Go.RowKit Go.Shelf

abbrev slL (x : Slt) : List Value := [.int .i64 x.kind, .int .i64 x.cls, .int .i64 x.prio]
abbrev slC (x : Slt) : Array Value := #[.int .i64 x.kind, .int .i64 x.cls, .int .i64 x.prio]
abbrev slV (x : Slt) : Value := .agg (slC x)
def rgL (l : List Slt) : List Value := l.flatMap slL
def stL (s : StT) : List Value := .int .i64 s.lv :: .int .i64 s.dp :: rgL s.regs
def stC (s : StT) : Array Value := (stL s).toArray
abbrev stV (s : StT) : Value := .agg (stC s)
def rgC (l : List Slt) : Array Value := (rgL l).toArray
abbrev rgV (l : List Slt) : Value := .agg (rgC l)

theorem rgL_len : ∀ l : List Slt, (rgL l).length = 3 * l.length
  | [] => rfl
  | x :: l => by
    have := rgL_len l
    have e : rgL (x :: l) = slL x ++ rgL l := rfl
    rw [e, List.length_append, this]
    show 3 + 3 * l.length = 3 * (l.length + 1)
    omega
theorem rgL_at : ∀ {l : List Slt} {i : Nat} {x : Slt}, l[i]? = some x → ∀ j u, (slL x)[j]? = some u → (rgL l)[i * 3 + j]? = some u
  | [], i, x, h, _, _, _ => by simp at h
  | y :: l, 0, x, h, j, u, hu => by
    simp only [List.getElem?_cons_zero, Option.some.injEq] at h
    subst h
    have hj : j < 3 := (List.getElem?_eq_some_iff.1 hu).1
    unfold rgL
    rw [List.flatMap_cons, List.getElem?_append_left (by show _ < 3; omega), Nat.zero_mul, Nat.zero_add]
    exact hu
  | y :: l, i + 1, x, h, j, u, hu => by
    rw [List.getElem?_cons_succ] at h
    have := rgL_at h j u hu
    unfold rgL at this ⊢
    rw [List.flatMap_cons, List.getElem?_append_right (by show 3 ≤ _; omega)]
    show _[(i + 1) * 3 + j - 3]? = _
    rw [show (i + 1) * 3 + j - 3 = i * 3 + j by omega]
    exact this
theorem st_size {s : StT} (h : s.regs.length = 16) : (stC s).size = 50 := by
  unfold stC stL
  simp [rgL_len, h]
theorem stL_at {s : StT} {i : Nat} {x : Slt} (h : s.regs[i]? = some x) (j : Nat) (u : Value) (hu : (slL x)[j]? = some u) : (stC s)[2 + i * 3 + j]? = some u := by
  unfold stC stL
  rw [List.getElem?_toArray, show 2 + i * 3 + j = (i * 3 + j) + 1 + 1 by omega, List.getElem?_cons_succ, List.getElem?_cons_succ]
  exact rgL_at h j u hu
/-- A state that lies in a block. -/
abbrev StB (W : World) (g : Nat) (s : StT) : Prop := Blk W g 45 (stC s)
theorem StB.lv {W : World} {g : Nat} {s : StT} (h : StB W g s) : W.cell? ⟨g, 0, none⟩ = some (.int .i64 s.lv) := h.cell 0
theorem StB.dp {W : World} {g : Nat} {s : StT} (h : StB W g s) : W.cell? ⟨g, 1, none⟩ = some (.int .i64 s.dp) := h.cell 1
theorem StB.reg {W : World} {g : Nat} {s : StT} (h : StB W g s) {i : Nat} {x : Slt} (hx : s.regs[i]? = some x) : W.cell? ⟨g, 2 + i * 3, none⟩ = some (.int .i64 x.kind) ∧ W.cell? ⟨g, 2 + i * 3 + 1, none⟩ = some (.int .i64 x.cls) ∧ W.cell? ⟨g, 2 + i * 3 + 2, none⟩ = some (.int .i64 x.prio) :=
  ⟨(h.cell _).trans (stL_at hx 0 _ rfl), (h.cell _).trans (stL_at hx 1 _ rfl), (h.cell _).trans (stL_at hx 2 _ rfl)⟩
theorem reg_some {s : StT} (h : s.regs.length = 16) {i : Nat} (hi : i < 16) : ∃ x, s.regs[i]? = some x := ⟨_, List.getElem?_eq_getElem (by omega)⟩
theorem one_st (s : StT) : (stC s).all (·.oneCell') = true := by
  refine all_oneCell_toArray fun v hv => ?_
  unfold stL rgL at hv
  simp only [List.mem_cons, List.mem_flatMap] at hv
  rcases hv with rfl | rfl | ⟨x, _, hx⟩
  · rfl
  · rfl
  · rcases hx with rfl | rfl | rfl | hx
    · rfl
    · rfl
    · rfl
    · cases hx
theorem info_st : (Try.prog.info? 45).map (·.size) = some 50 := by kernel_rfl
theorem info_rg : (Try.prog.info? 43).map (·.size) = some 48 := by kernel_rfl
section
variable {ops : Array Oper} {rest : List Oper} {o : Oper} {a : Act} {w : World} {Q : Exit → Act → World → Prop}
theorem wpList_load_st (hgd : o.guard = none) (x : Operand) (ho : o.op = .load 45 x) {g : Nat} (hx : a.eval x = .pointer (some ⟨g, 0, none⟩)) {s : StT} (hs : s.regs.length = 16) (hb : StB w g s)
    (h : wpList Try.prog ops Q rest (a.put o.dst (stV s)) w) : wpList Try.prog ops Q (o :: rest) a w :=
  wpList_load_row hgd 45 x ho g hx 45 (stC s) _ _ hb Try.underlying45 rfl (by rw [info_st, st_size hs]) h
theorem wpList_store_st (hgd : o.guard = none) (x y : Operand) (ho : o.op = .store 45 x y) {g : Nat} (hx : a.eval x = .pointer (some ⟨g, 0, none⟩)) {s s0 : StT} (hy : a.eval y = stV s) (hs : s.regs.length = 16) (hs0 : s0.regs.length = 16) (hb : StB w g s0)
    (h : wpList Try.prog ops Q rest (a.put o.dst undef) (w.setRow g (stC s))) : wpList Try.prog ops Q (o :: rest) a w :=
  wpList_store_row hgd 45 x y ho g (stC s) hx hy 45 (stC s0) hb (by rw [info_st, st_size hs]) (by rw [st_size hs, st_size hs0]) (one_st s) h
theorem rg_range {W : World} {g : Nat} {s : StT} (h : StB W g s) : W.rangeAt g 2 (rgL s.regs) := by
  intro i u hi
  have : (stC s)[2 + i]? = (rgL s.regs)[i]? := by
    unfold stC stL
    rw [List.getElem?_toArray, show 2 + i = i + 1 + 1 by omega, List.getElem?_cons_succ, List.getElem?_cons_succ]
  exact (h.cell _).trans (this.trans hi)
end
theorem info_some_slot : ∃ i, Try.prog.info? 42 = some i := Option.isSome_iff_exists.1 (by kernel_rfl)
theorem cells_slot : Try.prog.cellsOf 42 = 3 := by kernel_rfl
theorem part_slot {xs : Array Value} {off : Nat} {x : Slt} (h : ∀ j u, (slL x)[j]? = some u → xs[off + j]? = some u) (w : World) : (part 42 xs off).run Try.prog w = .ok (slV x) w := by
  have e : xs.extract off (off + 3) = slC x := by
    apply Array.ext'
    have h0 := h 0 _ rfl
    have h1 := h 1 _ rfl
    have h2 := h 2 _ rfl
    have hz : off + 2 < xs.size := (Array.getElem?_eq_some_iff.1 h2).1
    refine List.ext_getElem? fun i => ?_
    rw [Array.getElem?_toList, Array.getElem?_extract]
    match i with
    | 0 => rw [if_pos (by omega)]; exact h0
    | 1 => rw [if_pos (by omega)]; exact h1
    | 2 => rw [if_pos (by omega)]; exact h2
    | i + 3 => rw [if_neg (by omega)]; rfl
  simp [part, isAgg, run_underlying Try.underlying42, e]
theorem eq_slot (d : Nat) (x y : Slt) (w : World) : (Op.equalIn (d + 2) 42 (slV x) (slV y)).run Try.prog w = .ok (decide (x = y)) w := by
  obtain ⟨k, c, p⟩ := x
  obtain ⟨k', c', p'⟩ := y
  go_simp
  by_cases h1 : k = k' <;> by_cases h2 : c = c' <;> by_cases h3 : p = p' <;> simp [h1, h2, h3]
theorem eq_items (d : Nat) {a b : List Slt} {xs ys : Array Value} (hx : ∀ i x, a[i]? = some x → ∀ j u, (slL x)[j]? = some u → xs[i * 3 + j]? = some u) (hy : ∀ i x, b[i]? = some x → ∀ j u, (slL x)[j]? = some u → ys[i * 3 + j]? = some u) (w : World) :
    ∀ is : List Nat, (∀ i ∈ is, i < a.length ∧ i < b.length) → (Op.eqItems (d + 2) 42 3 xs ys is).run Try.prog w = .ok (is.all fun i => decide (a[i]? = b[i]?)) w
  | [], _ => by simp [Op.eqItems]
  | i :: is, h => by
    obtain ⟨h1, h2⟩ := h i List.mem_cons_self
    have e1 := List.getElem?_eq_getElem h1
    have e2 := List.getElem?_eq_getElem h2
    have ih := eq_items d hx hy w is (fun j hj => h j (List.mem_cons_of_mem _ hj))
    simp only [Op.eqItems, Sem.run_bind, part_slot (hx i _ e1) w, part_slot (hy i _ e2) w, eq_slot, Result.andThen_ok, List.all_cons, e1, e2, Option.some.injEq]
    by_cases hd : a[i] = b[i]
    · simp [hd, ih]
    · simp [hd]
theorem eq_sixteen {a b : List Slt} (ha : a.length = 16) (hb : b.length = 16) : ((List.range 16).all fun i => decide (a[i]? = b[i]?)) = decide (a = b) := by
  rw [Bool.eq_iff_iff, List.all_eq_true, decide_eq_true_eq]
  refine ⟨fun h => List.ext_getElem? fun i => ?_, fun h i _ => by rw [h]; simp⟩
  rcases Nat.lt_or_ge i 16 with hi | hi
  · exact of_decide_eq_true (h i (List.mem_range.2 hi))
  · rw [List.getElem?_eq_none (by omega), List.getElem?_eq_none (by omega)]
theorem eq_rgs (d : Nat) {a b : List Slt} (ha : a.length = 16) (hb : b.length = 16) (w : World) : (Op.equalIn (d + 3) 43 (rgV a) (rgV b)).run Try.prog w = .ok (decide (a = b)) w := by
  obtain ⟨i, hi⟩ := info_some_slot
  have h1 := run_equalIn_array (P := Try.prog) w (d + 2) (rgC a) (rgC b) Try.underlying43 hi
  have h2 := eq_items d (a := a) (b := b) (xs := rgC a) (ys := rgC b) (fun i x h j u hu => by unfold rgC; rw [List.getElem?_toArray]; exact rgL_at h j u hu) (fun i x h j u hu => by unfold rgC; rw [List.getElem?_toArray]; exact rgL_at h j u hu) w (List.range 16) (fun i hi => by
    have := List.mem_range.1 hi
    omega)
  rw [cells_slot, h2] at h1
  rw [show d + 3 = d + 2 + 1 from rfl, h1]
  have key : ((List.range 16).all fun i => decide (a[i]? = b[i]?)) = decide (a = b) := eq_sixteen ha hb
  rw [key]
theorem st_extract {s : StT} (hs : s.regs.length = 16) : (stC s).extract 2 50 = rgC s.regs := by
  apply Array.ext'
  unfold stC stL rgC
  rw [List.extract_toArray]
  simp only [List.extract_eq_take_drop, List.drop_succ_cons, List.drop_zero, Nat.reduceSub]
  exact List.take_of_length_le (by rw [rgL_len, hs]; omega)
theorem eq_st (d : Nat) {a b : StT} (ha : a.regs.length = 16) (hb : b.regs.length = 16) (w : World) : (Op.equalIn (d + 4) 45 (stV a) (stV b)).run Try.prog w = .ok (decide (a = b)) w := by
  obtain ⟨k, c, p⟩ := a
  obtain ⟨k', c', p'⟩ := b
  have e := eq_rgs d (a := p) (b := p') ha hb w
  have e1 := st_extract ha
  have e2 := st_extract hb
  have f0 : (stC ⟨k, c, p⟩)[0]? = some (.int .i64 k) := rfl
  have f1 : (stC ⟨k, c, p⟩)[1]? = some (.int .i64 c) := rfl
  have g0 : (stC ⟨k', c', p'⟩)[0]? = some (.int .i64 k') := rfl
  have g1 : (stC ⟨k', c', p'⟩)[1]? = some (.int .i64 c') := rfl
  dsimp only at e1 e2
  go_simp
  by_cases h1 : k = k' <;> by_cases h2 : c = c' <;> by_cases h3 : p = p' <;> simp [h1, h2, h3]
theorem run_index_rg {l : List Slt} {k : Nat} {x : Slt} (hx : l[k]? = some x) (hk : k < 16) (w : World) : (Instr.index 43 (rgV l) (.int .i64 (k : Int))).run Try.prog w = .ok (slV x) w := by
  have h0 : (0 : Int) ≤ (k : Int) := by omega
  have h1 : (k : Int) < 16 := by omega
  have hp := part_slot (xs := rgC l) (off := k * 3) (x := x) (fun j u hu => by unfold rgC; rw [List.getElem?_toArray]; exact rgL_at hx j u hu) w
  obtain ⟨i, hi⟩ := info_some_slot
  have hz := run_sizeOf (P := Try.prog) w hi
  rw [cells_slot] at hz
  unfold Instr.index
  simp only [asIntOf, Sem.run_bind, Sem.run_pure, Result.andThen_ok, run_underlying Try.underlying43]
  simp [h1, hz, hp]
theorem guard_st : Try.prog.eqGuardType Try.prog.depth 45 = false := by kernel_rfl
theorem guard_rg : Try.prog.eqGuardType Try.prog.depth 43 = false := by kernel_rfl
section
variable {ops : Array Oper} {rest : List Oper} {o : Oper} {a : Act} {w : World} {Q : Exit → Act → World → Prop}
theorem wpList_eq_st (hgd : o.guard = none) (x y : Operand) (t : TypeId) (ho : o.op = .binOp .eql 45 x y t) {s u : StT} (hx : a.eval x = stV s) (hy : a.eval y = stV u) (hs : s.regs.length = 16) (hu : u.regs.length = 16)
    (h : wpList Try.prog ops Q rest (a.put o.dst (.bool (decide (s = u)))) w) : wpList Try.prog ops Q (o :: rest) a w := by
  refine wpList_plain hgd fun K hK => ?_
  unfold Oper.wp execOp
  simp only [ho, hx, hy, Sem.run_bind, run_eqGuard_agg _ _ _ _ _ _ _ guard_st, run_eql_struct, eq_st 9996 hs hu w, Result.andThen_ok]
  exact hK _ _ h
end
end Go.Proofs.Ytmhbmeckdbdhpaa

/- Texts joined for the claim's sake: MPuA, MSmO, MSmI. -/
import Derived.Test.YtohhojbeclbedaaGreatDoorZMKnwRow24
import Derived.Test.YtohhojbeclbedaaGreatDoorZMKnwRow13
import Derived.Test.YtohhojbeclbedaaGreatDoorZMKnwRow21
import Derived.Test.YtohhojbeclbedaaGreatDoorZMKnwRow22
import Derived.LoopTactic
namespace Go.Proofs.YtohhojbeclbedaaGreatDoor
open Go.RowKit

set_option maxHeartbeats 400000 in
theorem mrefuse_no (w : World) : Calls Tryz.prog 74 #[.bool false] w fun e w' => e = .returned (.tuple #[]) ∧ w = w' := by
  go_enter Tryz.func74, Tryz.ntmps74
  go_wp2
  go_end0
  exact ⟨rfl, rfl⟩
set_option maxHeartbeats 400000 in
theorem mrefuse_yes (w : World) : Calls Tryz.prog 74 #[.bool true] w fun e w' => e = gaveArg ∧ w.grownBy w' none := by
  go_enter Tryz.func74, Tryz.ntmps74
  go_wp2
  exact ⟨rfl, rfl, only_refl _ _⟩
set_option maxRecDepth 100000 in
set_option maxHeartbeats 1000000 in
theorem mnum_any {B g : Nat} {w : World} {bs : List UInt8} (h : Wtr B w g bs) (hB : B ≤ w.heap.size) (n most : Int) (hm : most ≤ 1000) (hl : bs.length + 10 ≤ 1099511627776) :
    Calls Tryz.prog 81 #[.pointer (some ⟨g, 0, none⟩), .int .i64 n, .int .i64 most] w (LaidR B g w bs (numO n most)) := by
  have H := Lib.hid h
  have HB := Lib.hid hB
  have HL := Lib.hid hl
  clear h hB hl
  unfold numO
  by_cases h0 : n < 0
  · rw [if_neg (by omega)]
    go_enter Tryz.func81, Tryz.ntmps81
    go_wp2_with fail
    refine (mrefuse_yes _).mono ?_
    rintro e w1 ⟨rfl, g1⟩
    go_wp2_with fail
    exact ⟨rfl, LaidR.out (Turn.none_ g1)⟩
  · by_cases h1 : most < n
    · rw [if_neg (by omega)]
      go_enter Tryz.func81, Tryz.ntmps81
      go_wp2_with fail
      refine (mrefuse_yes _).mono ?_
      rintro e w1 ⟨rfl, g1⟩
      go_wp2_with fail
      exact ⟨rfl, LaidR.out (Turn.none_ g1)⟩
    · rw [if_pos (by omega)]
      obtain ⟨k, rfl⟩ : ∃ k : Nat, n = (k : Int) := ⟨n.toNat, by omega⟩
      have hk : (k : Int) ≤ 1000 := by omega
      go_enter Tryz.func81, Tryz.ntmps81
      go_wp2_with fail
      refine (mrefuse_no _).mono ?_
      rintro e w1 ⟨rfl, rfl⟩
      go_wp2_with fail
      refine (putU_eq H.out HB.out k _ (by go_num) (by omega) HL.out).mono ?_
      rintro e w1 ⟨rfl, hw1, ht1⟩
      have HW := Lib.hid hw1
      have HT := Lib.hid ht1
      clear hw1 ht1
      go_wp2_with fail
      go_end0
      exact LaidR.ret HT.out HW.out
end Go.Proofs.YtohhojbeclbedaaGreatDoor

namespace Go.Proofs.YtohhojbeclbedaaGreatDoor
open Go.RowKit

section
variable {vals : List (Tmp × Value)} {w : World} {o : Oper}
theorem ov_fm0 {t : Tmp} {g : Nat} (ho : o.op = .fieldAddr 28 (.tmp t) 0) (hv : vals.lookup t = some (.pointer (some ⟨g, 0, none⟩))) : OpVal Tryz.prog o vals w (.pointer (some ⟨g, 0, none⟩)) := fun b W hg hr => by
  have he := hr t _ (by rw [ho]; simp [Op.operands]) hv
  obtain ⟨dst, op, type, pos, after, guard⟩ := o
  dsimp only at ho
  subst ho
  refine .inl ?_
  simp only [execOp, he]
  go_simp
theorem ov_fm1 {t : Tmp} {g : Nat} (ho : o.op = .fieldAddr 28 (.tmp t) 1) (hv : vals.lookup t = some (.pointer (some ⟨g, 0, none⟩))) : OpVal Tryz.prog o vals w (.pointer (some ⟨g, 1, none⟩)) := fun b W hg hr => by
  have he := hr t _ (by rw [ho]; simp [Op.operands]) hv
  obtain ⟨dst, op, type, pos, after, guard⟩ := o
  dsimp only at ho
  subst ho
  refine .inl ?_
  simp only [execOp, he]
  go_simp
theorem ov_fm3 {t : Tmp} {g : Nat} (ho : o.op = .fieldAddr 28 (.tmp t) 3) (hv : vals.lookup t = some (.pointer (some ⟨g, 0, none⟩))) : OpVal Tryz.prog o vals w (.pointer (some ⟨g, 3, none⟩)) := fun b W hg hr => by
  have he := hr t _ (by rw [ho]; simp [Op.operands]) hv
  obtain ⟨dst, op, type, pos, after, guard⟩ := o
  dsimp only at ho
  subst ho
  refine .inl ?_
  simp only [execOp, he]
  go_simp
theorem ov_lsNode {t : Tmp} {p : Addr} {A : Option Addr} {n c : Nat} (ho : o.op = .load 22 (.tmp t)) (hv : vals.lookup t = some (.pointer (some p))) (hc : w.cell? p = some (.slice A n c)) : OpVal Tryz.prog o vals w (.slice A n c) := fun b W hg hr => by
  have he := hr t _ (by rw [ho]; simp [Op.operands]) hv
  have c0 := cell_row hc hg (fun e => by cases e)
  obtain ⟨dst, op, type, pos, after, guard⟩ := o
  dsimp only at ho
  subst ho
  refine .inl ?_
  simp only [execOp, he]
  go_simp
theorem ov_ixNode {s i : Tmp} {b0 off n c k : Nat} (ho : o.op = .indexAddr 22 (.tmp s) (.tmp i)) (hs : vals.lookup s = some (.slice (some ⟨b0, off, none⟩) n c)) (hi : vals.lookup i = some (.int .i64 (k : Int))) (hk : k < n) : OpVal Tryz.prog o vals w (.pointer (some ⟨b0, off + k * 6, none⟩)) := fun b W hg hr => by
  have he := hr s _ (by rw [ho]; simp [Op.operands]) hs
  have hf := hr i _ (by rw [ho]; simp [Op.operands]) hi
  have hk0 : (0 : Int) ≤ (k : Int) := by omega
  have hk1 : (k : Int) < (n : Int) := by omega
  obtain ⟨dst, op, type, pos, after, guard⟩ := o
  dsimp only at ho
  subst ho
  refine .inl ?_
  simp only [execOp, he, hf]
  go_simp
theorem ov_ldNode {t : Tmp} {b0 off : Nat} {a0 a1 a3 a4 : Int} {a2 : Bool} {a5 : Option Addr} {n c : Nat} (ho : o.op = .load 65 (.tmp t)) (hv : vals.lookup t = some (.pointer (some ⟨b0, off, none⟩))) (m0 : w.cell? ⟨b0, off, none⟩ = some (.int .i64 a0)) (m1 : w.cell? ⟨b0, off + 1, none⟩ = some (.int .i64 a1)) (m2 : w.cell? ⟨b0, off + 2, none⟩ = some (.bool a2)) (m3 : w.cell? ⟨b0, off + 3, none⟩ = some (.int .i64 a3)) (m4 : w.cell? ⟨b0, off + 4, none⟩ = some (.int .i64 a4)) (m5 : w.cell? ⟨b0, off + 5, none⟩ = some (.slice a5 n c)) : OpVal Tryz.prog o vals w (.agg #[.int .i64 a0, .int .i64 a1, .bool a2, .int .i64 a3, .int .i64 a4, .slice a5 n c]) := fun b W hg hr => by
  have he := hr t _ (by rw [ho]; simp [Op.operands]) hv
  have n10 := cell_row m0 hg (fun e => by cases e)
  have n11 := cell_row m1 hg (fun e => by cases e)
  have n12 := cell_row m2 hg (fun e => by cases e)
  have n13 := cell_row m3 hg (fun e => by cases e)
  have n14 := cell_row m4 hg (fun e => by cases e)
  have n15 := cell_row m5 hg (fun e => by cases e)
  obtain ⟨dst, op, type, pos, after, guard⟩ := o
  dsimp only at ho
  subst ho
  refine .inl ?_
  simp only [execOp, he]
  go_simp
theorem ov_lsTemplate {t : Tmp} {p : Addr} {A : Option Addr} {n c : Nat} (ho : o.op = .load 23 (.tmp t)) (hv : vals.lookup t = some (.pointer (some p))) (hc : w.cell? p = some (.slice A n c)) : OpVal Tryz.prog o vals w (.slice A n c) := fun b W hg hr => by
  have he := hr t _ (by rw [ho]; simp [Op.operands]) hv
  have c0 := cell_row hc hg (fun e => by cases e)
  obtain ⟨dst, op, type, pos, after, guard⟩ := o
  dsimp only at ho
  subst ho
  refine .inl ?_
  simp only [execOp, he]
  go_simp
theorem ov_ixTemplate {s i : Tmp} {b0 off n c k : Nat} (ho : o.op = .indexAddr 23 (.tmp s) (.tmp i)) (hs : vals.lookup s = some (.slice (some ⟨b0, off, none⟩) n c)) (hi : vals.lookup i = some (.int .i64 (k : Int))) (hk : k < n) : OpVal Tryz.prog o vals w (.pointer (some ⟨b0, off + k * 3, none⟩)) := fun b W hg hr => by
  have he := hr s _ (by rw [ho]; simp [Op.operands]) hs
  have hf := hr i _ (by rw [ho]; simp [Op.operands]) hi
  have hk0 : (0 : Int) ≤ (k : Int) := by omega
  have hk1 : (k : Int) < (n : Int) := by omega
  obtain ⟨dst, op, type, pos, after, guard⟩ := o
  dsimp only at ho
  subst ho
  refine .inl ?_
  simp only [execOp, he, hf]
  go_simp
theorem ov_ldTemplate {t : Tmp} {b0 off : Nat} {a0 a1 a2 : Option Addr} {n0 n1 n2 c0 c1 c2 : Nat} (ho : o.op = .load 50 (.tmp t)) (hv : vals.lookup t = some (.pointer (some ⟨b0, off, none⟩))) (m0 : w.cell? ⟨b0, off, none⟩ = some (.slice a0 n0 c0)) (m1 : w.cell? ⟨b0, off + 1, none⟩ = some (.slice a1 n1 c1)) (m2 : w.cell? ⟨b0, off + 2, none⟩ = some (.slice a2 n2 c2)) : OpVal Tryz.prog o vals w (.agg #[.slice a0 n0 c0, .slice a1 n1 c1, .slice a2 n2 c2]) := fun b W hg hr => by
  have he := hr t _ (by rw [ho]; simp [Op.operands]) hv
  have n10 := cell_row m0 hg (fun e => by cases e)
  have n11 := cell_row m1 hg (fun e => by cases e)
  have n12 := cell_row m2 hg (fun e => by cases e)
  obtain ⟨dst, op, type, pos, after, guard⟩ := o
  dsimp only at ho
  subst ho
  refine .inl ?_
  simp only [execOp, he]
  go_simp
theorem ov_lsStart {t : Tmp} {p : Addr} {A : Option Addr} {n c : Nat} (ho : o.op = .load 25 (.tmp t)) (hv : vals.lookup t = some (.pointer (some p))) (hc : w.cell? p = some (.slice A n c)) : OpVal Tryz.prog o vals w (.slice A n c) := fun b W hg hr => by
  have he := hr t _ (by rw [ho]; simp [Op.operands]) hv
  have c0 := cell_row hc hg (fun e => by cases e)
  obtain ⟨dst, op, type, pos, after, guard⟩ := o
  dsimp only at ho
  subst ho
  refine .inl ?_
  simp only [execOp, he]
  go_simp
theorem ov_ixStart {s i : Tmp} {b0 off n c k : Nat} (ho : o.op = .indexAddr 25 (.tmp s) (.tmp i)) (hs : vals.lookup s = some (.slice (some ⟨b0, off, none⟩) n c)) (hi : vals.lookup i = some (.int .i64 (k : Int))) (hk : k < n) : OpVal Tryz.prog o vals w (.pointer (some ⟨b0, off + k * 2, none⟩)) := fun b W hg hr => by
  have he := hr s _ (by rw [ho]; simp [Op.operands]) hs
  have hf := hr i _ (by rw [ho]; simp [Op.operands]) hi
  have hk0 : (0 : Int) ≤ (k : Int) := by omega
  have hk1 : (k : Int) < (n : Int) := by omega
  obtain ⟨dst, op, type, pos, after, guard⟩ := o
  dsimp only at ho
  subst ho
  refine .inl ?_
  simp only [execOp, he, hf]
  go_simp
theorem ov_ldStart {t : Tmp} {b0 off : Nat} {a0 : Int} {a1 : Option Addr} {n c : Nat} (ho : o.op = .load 74 (.tmp t)) (hv : vals.lookup t = some (.pointer (some ⟨b0, off, none⟩))) (m0 : w.cell? ⟨b0, off, none⟩ = some (.int .i64 a0)) (m1 : w.cell? ⟨b0, off + 1, none⟩ = some (.slice a1 n c)) : OpVal Tryz.prog o vals w (.agg #[.int .i64 a0, .slice a1 n c]) := fun b W hg hr => by
  have he := hr t _ (by rw [ho]; simp [Op.operands]) hv
  have n10 := cell_row m0 hg (fun e => by cases e)
  have n11 := cell_row m1 hg (fun e => by cases e)
  obtain ⟨dst, op, type, pos, after, guard⟩ := o
  dsimp only at ho
  subst ho
  refine .inl ?_
  simp only [execOp, he]
  go_simp
end
theorem boxed_mnode {a0 a1 a3 a4 : Int} {a2 : Bool} {a5 : Option Addr} {n c : Nat} (al st : Nat) (slot src : Tmp) : Boxed Tryz.prog ⟨slot, 65, #[.int .i64 0, .int .i64 0, .bool false, .int .i64 0, .int .i64 0, .slice none 0 0], #[.int .i64 a0, .int .i64 a1, .bool a2, .int .i64 a3, .int .i64 a4, .slice a5 n c], src, al, st⟩ := ⟨fun W => by kernel_rfl, by kernel_rfl, rfl, by simp [Value.oneCell']⟩
theorem boxed_mtemplate {a0 a1 a2 : Option Addr} {n0 n1 n2 c0 c1 c2 : Nat} (al st : Nat) (slot src : Tmp) : Boxed Tryz.prog ⟨slot, 50, #[.slice none 0 0, .slice none 0 0, .slice none 0 0], #[.slice a0 n0 c0, .slice a1 n1 c1, .slice a2 n2 c2], src, al, st⟩ := ⟨fun W => by kernel_rfl, by kernel_rfl, rfl, by simp [Value.oneCell']⟩
theorem boxed_mstart {a0 : Int} {a1 : Option Addr} {n c : Nat} (al st : Nat) (slot src : Tmp) : Boxed Tryz.prog ⟨slot, 74, #[.int .i64 0, .slice none 0 0], #[.int .i64 a0, .slice a1 n c], src, al, st⟩ := ⟨fun W => by kernel_rfl, by kernel_rfl, rfl, by simp [Value.oneCell']⟩
end Go.Proofs.YtohhojbeclbedaaGreatDoor

namespace Go.Proofs.YtohhojbeclbedaaGreatDoor
open Go.RowKit

set_option maxRecDepth 100000 in
set_option maxHeartbeats 4000000 in
theorem msami_any {S1 S2 : Nat → Prop} (s : Sg) (op : Int) (lv2 : Value) (w : World) (h1 : IntsA S1 w s.lv s.l) (h2 : IntsA S2 w lv2 s.l) (h12 : s.l.length ≤ 1000) :
    Calls Tryz.prog 48 #[.agg (s.cells op), .agg (Sg.cells { s with lv := lv2 } op)] w fun e w' => e = .returned (.bool true) ∧ w.grownBy w' none := by
  obtain ⟨a, b, c, d, lv, l⟩ := s
  obtain ⟨A1, c1, e1, k1⟩ := h1
  obtain ⟨A2, c2, e2, k2⟩ := h2
  dsimp only at e1 k1 e2 k2 h12
  subst e1 e2
  have h0 : w.grownBy ((w.alloc (.cells #[.int .i64 op, .int .i64 a, .int .i64 b, .int .i64 c, .int .i64 d, .slice A1 l.length c1] 52)).alloc (.cells #[.int .i64 op, .int .i64 a, .int .i64 b, .int .i64 c, .int .i64 d, .slice A2 l.length c2] 52)) none := only_alloc (only_alloc (only_refl _ _) _) _
  have b1 := (Blk.new w 52 #[.int .i64 op, .int .i64 a, .int .i64 b, .int .i64 c, .int .i64 d, .slice A1 l.length c1]).alloc (.cells #[.int .i64 op, .int .i64 a, .int .i64 b, .int .i64 c, .int .i64 d, .slice A2 l.length c2] 52)
  have b2 : Blk ((w.alloc (.cells #[.int .i64 op, .int .i64 a, .int .i64 b, .int .i64 c, .int .i64 d, .slice A1 l.length c1] 52)).alloc (.cells #[.int .i64 op, .int .i64 a, .int .i64 b, .int .i64 c, .int .i64 d, .slice A2 l.length c2] 52)) (w.heap.size + 1) 52 #[.int .i64 op, .int .i64 a, .int .i64 b, .int .i64 c, .int .i64 d, .slice A2 l.length c2] := blk_new_at (by simp) _ _
  have x0 := b1.cell 0
  have x1 := b1.cell 1
  have x2 := b1.cell 2
  have x3 := b1.cell 3
  have x4 := b1.cell 4
  have x5 := b1.cell 5
  have y0 := b2.cell 0
  have y1 := b2.cell 1
  have y2 := b2.cell 2
  have y3 := b2.cell 3
  have y4 := b2.cell 4
  have y5 := b2.cell 5
  have H0 := Lib.hid h0
  have B1 := Lib.hid b1
  have B2 := Lib.hid b2
  have K1 := Lib.hid k1
  have K2 := Lib.hid k2
  clear h0 b1 b2 k1 k2
  unfold Sg.cells
  dsimp only
  go_enter Tryz.func48, Tryz.ntmps48
  go_wp2_with fail
  generalize ((w.alloc (.cells #[.int .i64 op, .int .i64 a, .int .i64 b, .int .i64 c, .int .i64 d, .slice A1 l.length c1] 52)).alloc (.cells #[.int .i64 op, .int .i64 a, .int .i64 b, .int .i64 c, .int .i64 d, .slice A2 l.length c2] 52)) = W2 at *
  clear x0 x1 x2 x3 x4 x5 y0 y1 y2 y3 y4 y5
  go_loopw [5] (fun v wr => ∃ j : Nat, v = .int .i64 (j : Int) ∧ j ≤ l.length ∧ W2.grownBy wr none) (fun v _ => l.length - (intOf v).toNat)
  case atStart => exact ⟨0, rfl, by omega, only_refl _ _⟩
  case round =>
    obtain ⟨j, rfl, hj, hg⟩ := hrel
    have x5 := (B1.out.kept hg).cell 5
    have y5 := (B2.out.kept hg).cell 5
    by_cases hlt : j < l.length
    · have hne : l ≠ [] := by intro e; rw [e] at hlt; simp at hlt
      obtain ⟨g1, o1, rfl, _, q1⟩ := K1.out hne
      obtain ⟨g2, o2, rfl, _, q2⟩ := K2.out hne
      have r1 := cell_row (cell_row (q1 j _ (List.getElem?_eq_getElem hlt)) H0.out (fun e => by cases e)) hg (fun e => by cases e)
      have r2 := cell_row (cell_row (q2 j _ (List.getElem?_eq_getElem hlt)) H0.out (fun e => by cases e)) hg (fun e => by cases e)
      generalize l[j] = z at r1 r2
      have i0 : (0 : Int) ≤ (j : Int) := by omega
      have i1 : (j : Int) < (l.length : Int) := by omega
      have HG := Lib.hid hg
      clear q1 q2 hg
      go_wp2_with fail
      go_quiet (fail)
      go_wp2_with fail
      go_roundw
      case rel => exact ⟨j + 1, by go_num, by omega, only_drewN HG.out _⟩
      case measure => simp [intOf]; omega
    · have i1 : (l.length : Int) ≤ (j : Int) := by omega
      have HG := Lib.hid hg
      clear hg
      go_wp2_with fail
      go_ret
      exact ⟨rfl, only_trans H0.out HG.out⟩

end Go.Proofs.YtohhojbeclbedaaGreatDoor

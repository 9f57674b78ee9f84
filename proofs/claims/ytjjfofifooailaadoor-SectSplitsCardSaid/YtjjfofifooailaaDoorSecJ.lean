/- sect: Join. -/
import Derived.Test.YtjjfofifooailaaDoorLebV
import Derived.Test.YtjjfofifooailaaDoorSec
namespace Go.Proofs.YtjjfofifooailaaDoor
open Go.RowKit

theorem putU_eq {B g : Nat} {w : World} {bs : List UInt8} (h : Wtr B w g bs) (hB : B ≤ w.heap.size) (n : Nat) (v : Int) (hv : v = (n : Int)) (hn : n < 18446744073709551616) (hl : bs.length + 10 ≤ 1099511627776) :
    Calls Tryd.prog 24 #[.pointer (some ⟨g, 0, none⟩), .int .u64 v] w fun e w' => e = .returned (.tuple #[]) ∧ Wtr B w' g (bs ++ sev n) ∧ Turn (WS B w g) w w' := by subst hv; exact putU_any h hB n hn hl
theorem sev_short {n : Nat} (h : n ≤ 65536) : (sev n).length ≤ 10 := sev_len10 (by omega)

theorem at3_0 (t1 t2 t3 : ByteArray) (w : World) : (Instr.index 22 (.agg #[.string t1, .string t2, .string t3]) (.int .i64 0)).run Tryd.prog w = .ok (.string t1) w := by kernel_rfl
theorem at3_1 (t1 t2 t3 : ByteArray) (w : World) : (Instr.index 22 (.agg #[.string t1, .string t2, .string t3]) (.int .i64 1)).run Tryd.prog w = .ok (.string t2) w := by kernel_rfl
theorem at3_2 (t1 t2 t3 : ByteArray) (w : World) : (Instr.index 22 (.agg #[.string t1, .string t2, .string t3]) (.int .i64 2)).run Tryd.prog w = .ok (.string t3) w := by kernel_rfl

set_option maxRecDepth 100000 in
set_option maxHeartbeats 4000000 in
theorem join_ok (t1 t2 t3 : ByteArray) (h1 : t1.size ≤ 65536) (h2 : t2.size ≤ 65536) (h3 : t3.size ≤ 65536) (w : World) :
    Calls Tryd.prog 13 #[.agg #[.string t1, .string t2, .string t3]] w fun e w' => e = .returned (.tuple #[.string ⟨(joined t1.data.toList t2.data.toList t3.data.toList).toArray⟩, .int .i64 0]) ∧ w.grownBy w' none := by
  have l1 := Lib.hid (bytes_len t1)
  have l2 := Lib.hid (bytes_len t2)
  have l3 := Lib.hid (bytes_len t3)
  have k1 := Lib.hid h1
  have k2 := Lib.hid h2
  have k3 := Lib.hid h3
  have b1 : (t1.size : Int) ≤ 65536 := by omega
  have b2 : (t2.size : Int) ≤ 65536 := by omega
  have b3 : (t3.size : Int) ≤ 65536 := by omega
  have a1 : (0 : Int) ≤ (t1.size : Int) := by omega
  have a2 : (0 : Int) ≤ (t2.size : Int) := by omega
  have a3 : (0 : Int) ≤ (t3.size : Int) := by omega
  obtain ⟨z1, e1⟩ : ∃ z : Int, (t1.size : Int) = z := ⟨_, rfl⟩
  obtain ⟨z2, e2⟩ : ∃ z : Int, (t2.size : Int) = z := ⟨_, rfl⟩
  obtain ⟨z3, e3⟩ : ∃ z : Int, (t3.size : Int) = z := ⟨_, rfl⟩
  rw [e1] at b1 a1
  rw [e2] at b2 a2
  rw [e3] at b3 a3
  have E1 := Lib.hid e1.symm
  have E2 := Lib.hid e2.symm
  have E3 := Lib.hid e3.symm
  clear h1 h2 h3
  have i0 := at3_0 t1 t2 t3
  have i1 := at3_1 t1 t2 t3
  have i2 := at3_2 t1 t2 t3
  go_enter Tryd.func13, Tryd.ntmps13
  go_wp2_with fail
  refine wp_loop_rounds 4 ?_
  rw [rounds_succ]
  go_wp2_with fail
  rw [rounds_succ]
  go_wp2_with fail
  rw [rounds_succ]
  go_wp2_with fail
  rw [rounds_succ]
  go_wp2_with fail
  have w0b := Blk.new w 22 #[.string t1, .string t2, .string t3]
  have hg0 : w.grownBy (w.alloc (.cells #[.string t1, .string t2, .string t3] 22)) none := only_alloc (only_refl _ _) _
  have hz : (w.alloc (.cells #[.string t1, .string t2, .string t3] 22)).heap.size = w.heap.size + 1 := by simp
  generalize w.alloc (.cells #[.string t1, .string t2, .string t3] 22) = v at *
  refine (newWriter_any v.heap.size v (Nat.le_refl _)).mono ?_
  rintro e w1 ⟨g, rfl, hgs, hgn, W0⟩
  have B1 := w0b.kept hgn
  have hb1 : v.heap.size ≤ w1.heap.size := hgn.size
  have T0 : Turn (WS v.heap.size w1 g) w1 w1 := Turn.refl _ _
  have HG := Lib.hid (only_trans hg0 hgn)
  have HS := Lib.hid hgs
  have HZ := Lib.hid hz
  clear w0b hg0 hgn hgs hz
  go_wp2_with fail
  have HL : Hid ((hd5).length = 5) := rfl
  refine (wput_any W0 hb1 ⟨#[67, 76, 81, 89, 1]⟩ (by decide)).mono ?_
  rintro e w2 ⟨rfl, W1, T1⟩
  have B2 : Blk w2 w.heap.size 22 #[.string t1, .string t2, .string t3] := B1.turn T1 (by
    rintro (h | ⟨h, _⟩)
    · have := HS.out
      have := HZ.out
      omega
    · have := HZ.out
      omega)
  have hb2 : v.heap.size ≤ w2.heap.size := Nat.le_trans hb1 T1.size
  have e0 : [] ++ (⟨#[67, 76, 81, 89, 1]⟩ : ByteArray).data.toList = hd5 := rfl
  rw [e0] at W1
  clear W0 B1 hb1 T0 e0
  have c0 := B2.cell 0
  have c1 := B2.cell 1
  have c2 := B2.cell 2
  clear B2
  go_wp2_with fail
  refine wp_loop_rounds 4 ?_
  rw [rounds_succ]
  go_wp2_with fail
  refine (wbyte_eq W1 hb2 1 1 rfl (by have := HL.out; (try simp only [List.length_append, List.length_cons, List.length_nil]); have := l1.out; have := l2.out; have := l3.out; have := k1.out; have := k2.out; have := k3.out; have := sev_short k1.out; have := sev_short k2.out; have := sev_short k3.out; omega)).mono ?_
  rintro e w3 ⟨rfl, W2, S2⟩
  have T2 := T1.trans S2
  have hb3 : v.heap.size ≤ w3.heap.size := Nat.le_trans hb2 S2.size
  clear W1 T1 S2 hb2
  go_wp2_with fail
  refine (putU_eq W2 hb3 t1.size z1 E1.out (by have := k1.out; omega) (by have := HL.out; (try simp only [List.length_append, List.length_cons, List.length_nil]); have := l1.out; have := l2.out; have := l3.out; have := k1.out; have := k2.out; have := k3.out; have := sev_short k1.out; have := sev_short k2.out; have := sev_short k3.out; omega)).mono ?_
  rintro e w4 ⟨rfl, W3, S3⟩
  have T3 := T2.trans S3
  have hb4 : v.heap.size ≤ w4.heap.size := Nat.le_trans hb3 S3.size
  clear W2 T2 S3 hb3
  go_wp2_with fail
  refine (wput_any W3 hb4 t1 (by have := HL.out; (try simp only [List.length_append, List.length_cons, List.length_nil]); have := l1.out; have := l2.out; have := l3.out; have := k1.out; have := k2.out; have := k3.out; have := sev_short k1.out; have := sev_short k2.out; have := sev_short k3.out; omega)).mono ?_
  rintro e w5 ⟨rfl, W4, S4⟩
  have T4 := T3.trans S4
  have hb5 : v.heap.size ≤ w5.heap.size := Nat.le_trans hb4 S4.size
  clear W3 T3 S4 hb4
  go_wp2_with fail
  rw [rounds_succ]
  go_wp2_with fail
  refine (wbyte_eq W4 hb5 2 2 rfl (by have := HL.out; (try simp only [List.length_append, List.length_cons, List.length_nil]); have := l1.out; have := l2.out; have := l3.out; have := k1.out; have := k2.out; have := k3.out; have := sev_short k1.out; have := sev_short k2.out; have := sev_short k3.out; omega)).mono ?_
  rintro e w6 ⟨rfl, W5, S5⟩
  have T5 := T4.trans S5
  have hb6 : v.heap.size ≤ w6.heap.size := Nat.le_trans hb5 S5.size
  clear W4 T4 S5 hb5
  go_wp2_with fail
  refine (putU_eq W5 hb6 t2.size z2 E2.out (by have := k2.out; omega) (by have := HL.out; (try simp only [List.length_append, List.length_cons, List.length_nil]); have := l1.out; have := l2.out; have := l3.out; have := k1.out; have := k2.out; have := k3.out; have := sev_short k1.out; have := sev_short k2.out; have := sev_short k3.out; omega)).mono ?_
  rintro e w7 ⟨rfl, W6, S6⟩
  have T6 := T5.trans S6
  have hb7 : v.heap.size ≤ w7.heap.size := Nat.le_trans hb6 S6.size
  clear W5 T5 S6 hb6
  go_wp2_with fail
  refine (wput_any W6 hb7 t2 (by have := HL.out; (try simp only [List.length_append, List.length_cons, List.length_nil]); have := l1.out; have := l2.out; have := l3.out; have := k1.out; have := k2.out; have := k3.out; have := sev_short k1.out; have := sev_short k2.out; have := sev_short k3.out; omega)).mono ?_
  rintro e w8 ⟨rfl, W7, S7⟩
  have T7 := T6.trans S7
  have hb8 : v.heap.size ≤ w8.heap.size := Nat.le_trans hb7 S7.size
  clear W6 T6 S7 hb7
  go_wp2_with fail
  rw [rounds_succ]
  go_wp2_with fail
  refine (wbyte_eq W7 hb8 3 3 rfl (by have := HL.out; (try simp only [List.length_append, List.length_cons, List.length_nil]); have := l1.out; have := l2.out; have := l3.out; have := k1.out; have := k2.out; have := k3.out; have := sev_short k1.out; have := sev_short k2.out; have := sev_short k3.out; omega)).mono ?_
  rintro e w9 ⟨rfl, W8, S8⟩
  have T8 := T7.trans S8
  have hb9 : v.heap.size ≤ w9.heap.size := Nat.le_trans hb8 S8.size
  clear W7 T7 S8 hb8
  go_wp2_with fail
  refine (putU_eq W8 hb9 t3.size z3 E3.out (by have := k3.out; omega) (by have := HL.out; (try simp only [List.length_append, List.length_cons, List.length_nil]); have := l1.out; have := l2.out; have := l3.out; have := k1.out; have := k2.out; have := k3.out; have := sev_short k1.out; have := sev_short k2.out; have := sev_short k3.out; omega)).mono ?_
  rintro e w10 ⟨rfl, W9, S9⟩
  have T9 := T8.trans S9
  have hb10 : v.heap.size ≤ w10.heap.size := Nat.le_trans hb9 S9.size
  clear W8 T8 S9 hb9
  go_wp2_with fail
  refine (wput_any W9 hb10 t3 (by have := HL.out; (try simp only [List.length_append, List.length_cons, List.length_nil]); have := l1.out; have := l2.out; have := l3.out; have := k1.out; have := k2.out; have := k3.out; have := sev_short k1.out; have := sev_short k2.out; have := sev_short k3.out; omega)).mono ?_
  rintro e w11 ⟨rfl, W10, S10⟩
  have T10 := T9.trans S10
  have hb11 : v.heap.size ≤ w11.heap.size := Nat.le_trans hb10 S10.size
  clear W9 T9 S10 hb10
  go_wp2_with fail
  rw [rounds_succ]
  go_wp2_with fail
  refine (wtext_eq W10 ⟨(joined t1.data.toList t2.data.toList t3.data.toList).toArray⟩ (by simp [joined, sec, l1.out, l2.out, l3.out])).mono ?_
  rintro e wt ⟨rfl, rfl⟩
  go_wp2_with fail
  go_ret2
  refine ⟨rfl, Turn.only HG.out T10 (fun i hi => ?_)⟩
  have := HS.out
  have := HZ.out
  have := WS.le HS.out hi
  omega
end Go.Proofs.YtjjfofifooailaaDoor

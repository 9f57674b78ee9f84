/- leb: isWrong and number of the bytes that were taken. -/
import Derived.Test.YtmbdaenjeeklfaaDoorLebN
namespace Go.Proofs.YtmbdaenjeeklfaaDoor
open Go.RowKit

/-- The last byte. -/
theorem bad_iff {l : List UInt8} {m : Nat} (hm : l.length = m + 1) : Bad l ↔ (128 ≤ tb l m ∨ (((m : Int) + 1) = 10 ∧ 1 < tb l m) ∨ (1 < ((m : Int) + 1) ∧ tb l m = 0)) := by
  have hlt : m < l.length := by omega
  have he : l[l.length - 1]? = some l[m] := by rw [hm, Nat.add_sub_cancel]; exact List.getElem?_eq_getElem hlt
  have ht : tb l m = (l[m].toNat : Int) := by unfold tb; rw [List.getElem?_eq_getElem hlt]; rfl
  rw [ht]
  unfold Bad
  constructor
  · rintro ⟨u, hu, h⟩
    rw [he] at hu
    injection hu with hu
    subst hu
    omega
  · intro h
    exact ⟨_, he, by omega⟩

set_option maxRecDepth 100000 in
set_option maxHeartbeats 2000000 in
theorem isWrong_any (l : List UInt8) (m : Nat) (hm : l.length = m + 1) (hm10 : m < 10) (r : Bool) (hr : r = true ↔ Bad l) (w : World) :
    Calls Tryd.prog 86 #[tval l] w fun e w' => e = .returned (.bool r) ∧ w.grownBy w' none := by
  have hmf : ∀ (fn : Fn) (first cap : Array Value) (w : World), (Instr.makeFunc fn first cap).run Tryd.prog w = .ok (.func fn first cap) w := fun _ _ _ _ => rfl
  have hB := Blk.new w 162 (tcells l)
  have c10 : (w.alloc (.cells (tcells l) 162)).cell? ⟨w.heap.size, 10, none⟩ = some (.int .i64 ((m : Int) + 1)) := by
    have := hB.cell 10
    rw [this]
    simp [tcells, hm]
  have cm : (w.alloc (.cells (tcells l) 162)).cell? ⟨w.heap.size, m, none⟩ = some (.int .u8 (tb l m)) := by rw [hB.cell m]; exact tcells_at l hm10
  have hrr : r = decide (128 ≤ tb l m ∨ (((m : Int) + 1) = 10 ∧ 1 < tb l m) ∨ (1 < ((m : Int) + 1) ∧ tb l m = 0)) := by
    rw [Bool.eq_iff_iff, hr, bad_iff hm]; simp
  rw [hrr]
  clear hr hrr
  generalize tb l m = x at *
  have hsz : (tcells l).size = 11 := tcells_size l
  unfold tval
  generalize tcells l = cs at *
  have hm10' : (m : Int) < 10 := by omega
  go_enter Tryd.func86, Tryd.ntmps86
  go_wp2_with fail
  have B2 := Blk.new (w.alloc (.cells cs 162)) 5 #[.int .u8 x]
  rw [show (w.alloc (.cells cs 162)).heap.size = w.heap.size + 1 by simp] at B2
  have hg : w.grownBy ((w.alloc (.cells cs 162)).alloc (.cells #[.int .u8 x] 5)) none := only_alloc (only_alloc (only_refl _ _) _) _
  have B1 := hB.alloc (.cells #[.int .u8 x] 5)
  have k10 : ((w.alloc (.cells cs 162)).alloc (.cells #[.int .u8 x] 5)).cell? ⟨w.heap.size, 10, none⟩ = some (.int .i64 ((m : Int) + 1)) := (B1.cell 10).trans ((hB.cell 10).symm.trans c10)
  have hz : ((w.alloc (.cells cs 162)).alloc (.cells #[.int .u8 x] 5)).heap.size = w.heap.size + 1 + 1 := by simp
  generalize (w.alloc (.cells cs 162)).alloc (.cells #[.int .u8 x] 5) = W at *
  have F := Blk.new W 36 #[.func (.func 89) #[] #[.pointer (some ⟨w.heap.size + 1, 0, none⟩)], .func (.func 90) #[] #[.pointer (some ⟨w.heap.size, 0, none⟩), .pointer (some ⟨w.heap.size + 1, 0, none⟩)], .func (.func 91) #[] #[.pointer (some ⟨w.heap.size, 0, none⟩), .pointer (some ⟨w.heap.size + 1, 0, none⟩)]]
  rw [hz] at F
  have hg3 := only_alloc hg (.cells #[.func (.func 89) #[] #[.pointer (some ⟨w.heap.size + 1, 0, none⟩)], .func (.func 90) #[] #[.pointer (some ⟨w.heap.size, 0, none⟩), .pointer (some ⟨w.heap.size + 1, 0, none⟩)], .func (.func 91) #[] #[.pointer (some ⟨w.heap.size, 0, none⟩), .pointer (some ⟨w.heap.size + 1, 0, none⟩)]] 36)
  have k103 := (World.cell?_of_block ((only_alloc (only_refl W none) (.cells #[.func (.func 89) #[] #[.pointer (some ⟨w.heap.size + 1, 0, none⟩)], .func (.func 90) #[] #[.pointer (some ⟨w.heap.size, 0, none⟩), .pointer (some ⟨w.heap.size + 1, 0, none⟩)], .func (.func 91) #[] #[.pointer (some ⟨w.heap.size, 0, none⟩), .pointer (some ⟨w.heap.size + 1, 0, none⟩)]] 36)).block w.heap.size B1.lt (fun e => by cases e))).trans k10
  refine (any_of (x := x) (q := w.heap.size + 1) (b := w.heap.size) (w.heap.size + 1 + 1) ((m : Int) + 1) ((B2.alloc _).cell 0) k103 (F.cell 0) (F.cell 1) (F.cell 2)).mono ?_
  rintro e w' ⟨rfl, rfl⟩
  go_wp2_with fail
  go_ret
  exact ⟨by simp, hg3⟩

theorem num_drop (l : List UInt8) (j : Nat) (h : j < l.length) : num (l.drop j) = num (l.drop (j + 1)) * 128 + l[j].toNat % 128 := by
  rw [List.drop_eq_getElem_cons h, num_cons]
theorem num_drop_le (l : List UInt8) (j : Nat) : num (l.drop j) ≤ num l := by
  induction j with
  | zero => rw [List.drop_zero]; exact Nat.le_refl _
  | succ j ih =>
    rcases Nat.lt_or_ge j l.length with h | h
    · have := num_drop l j h
      omega
    · rw [List.drop_eq_nil_of_le (by omega), num_nil]; omega

set_option maxRecDepth 100000 in
set_option maxHeartbeats 2000000 in
/-- The number that good bytes are. -/
theorem number_any (l : List UInt8) (m : Nat) (hm : l.length = m + 1) (hm10 : m < 10) (hn : num l < 18446744073709551616) (w : World) :
    Calls Tryd.prog 87 #[tval l] w fun e w' => e = .returned (.int .u64 (num l : Int)) ∧ w.grownBy w' none := by
  have hB := Blk.new w 162 (tcells l)
  have hg : w.grownBy (w.alloc (.cells (tcells l) 162)) none := only_alloc (only_refl _ _) _
  have c10 : (w.alloc (.cells (tcells l) 162)).cell? ⟨w.heap.size, 10, none⟩ = some (.int .i64 ((m : Int) + 1)) := by
    have := hB.cell 10
    rw [this]
    simp [tcells, hm]
  have cj : Hid (∀ j, j < l.length → ∃ x : Nat, x < 256 ∧ (w.alloc (.cells (tcells l) 162)).cell? ⟨w.heap.size, j, none⟩ = some (.int .u8 (x : Int)) ∧ num (l.drop j) = num (l.drop (j + 1)) * 128 + x % 128) := by
    intro j hj
    refine ⟨l[j].toNat, l[j].toNat_lt, ?_, num_drop l j hj⟩
    rw [hB.cell j, tcells_at l (by omega)]
    unfold tb
    rw [List.getElem?_eq_getElem hj]; rfl
  have hle := Lib.hid (num_drop_le l)
  have hn' := Lib.hid hn
  have hm' := Lib.hid hm
  clear hn hm hB
  unfold tval
  have hsz : (tcells l).size = 11 := tcells_size l
  generalize tcells l = cs at *
  have hm10' : (m : Int) < 10 := by omega
  go_enter Tryd.func87, Tryd.ntmps87
  go_wp2_with fail
  generalize hW : w.alloc (.cells cs 162) = W at *
  go_loopw [3, 4] (fun vn vi wr => ∃ j : Nat, j ≤ l.length ∧ vi = .int .i64 ((j : Int) - 1) ∧ vn = .int .u64 (num (l.drop j) : Int) ∧ W = wr) (fun _ vi _ => (intOf vi + 1).toNat)
  case atStart => exact ⟨m + 1, by rw [hm'.out]; omega, by go_num, by rw [List.drop_eq_nil_of_le (by rw [hm'.out]; omega), num_nil]; rfl, rfl⟩
  case round =>
    obtain ⟨j, hj, rfl, rfl, rfl⟩ := hrel
    have hjm : (j : Int) ≤ 10 := by have := hm'.out; omega
    cases j with
    | zero =>
      rw [List.drop_zero]
      go_wp2_with fail
      go_ret
      exact ⟨rfl, hg⟩
    | succ j =>
      obtain ⟨x, hx, hc, hnum⟩ := cj.out j (by omega)
      have h1 := hle.out (j + 1)
      have h2 := hle.out j
      have h3 := hn'.out
      have e1 : ((j + 1 : Nat) : Int) - 1 = (j : Int) := by omega
      have hj10 : (j : Int) < 10 := by omega
      have HN := Lib.hid hnum
      have HJ := Lib.hid hj
      have hb : (num (l.drop (j + 1)) : Int) * 128 + (x : Int) % 128 < 18446744073709551616 := by omega
      have hb0 : (0 : Int) ≤ (num (l.drop (j + 1)) : Int) := by omega
      have hx0 : (0 : Int) ≤ (x : Int) := by omega
      have hx1 : (x : Int) < 256 := by omega
      have HE : Hid ((num (l.drop j) : Int) = (num (l.drop (j + 1)) : Int) * 128 + (x : Int) % 128) := by show _ = _; rw [hnum]; omega
      clear hnum h1 h2 h3 hj
      rw [e1]
      clear e1
      generalize (num (l.drop (j + 1)) : Int) = y at *
      generalize (x : Int) = z at *
      go_wp2_with fail
      go_roundw
      case rel => exact ⟨j, by have := HJ.out; omega, rfl, by rw [HE.out], trivial⟩
      case measure => simp [intOf]
end Go.Proofs.YtmbdaenjeeklfaaDoor

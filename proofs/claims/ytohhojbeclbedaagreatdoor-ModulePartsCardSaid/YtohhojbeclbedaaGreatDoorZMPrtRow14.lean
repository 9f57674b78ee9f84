/- Texts joined for the claim's sake: LebM, LebU. -/
import Derived.Test.YtohhojbeclbedaaGreatDoorZMPrtRow13
namespace Go.Proofs.YtohhojbeclbedaaGreatDoor
open Go.RowKit

/-- The last byte. -/
theorem bad_iff {l : List UInt8} {m : Nat} (hm : l.length = m + 1) : Bad l ↔ (128 ≤ tb l m ∨ (((m : Int) + 1) = 10 ∧ 1 < tb l m) ∨ (1 < ((m : Int) + 1) ∧ tb l m = 0)) := by
  have hlt : m < l.length := by omega
  have he : l[l.length - 1]? = some l[m] := by rw [hm, Nat.add_sub_cancel]; exact List.getElem?_eq_getElem hlt
  have ht : tb l m = (l[m].toNat : Int) := by unfold tb; rw [List.getElem?_eq_getElem hlt]; rfl
  rw [ht]
  unfold Bad
  constructor
  · rintro ⟨u, hu, h⟩
    rw [he] at hu
    injection hu with hu
    subst hu
    omega
  · intro h
    exact ⟨_, he, by omega⟩

set_option maxRecDepth 100000 in
set_option maxHeartbeats 2000000 in
theorem isWrong_any (l : List UInt8) (m : Nat) (hm : l.length = m + 1) (hm10 : m < 10) (r : Bool) (hr : r = true ↔ Bad l) (w : World) :
    Calls Tryz.prog 207 #[tval l] w fun e w' => e = .returned (.bool r) ∧ w.grownBy w' none := by
  have hmf : ∀ (fn : Fn) (first cap : Array Value) (w : World), (Instr.makeFunc fn first cap).run Tryz.prog w = .ok (.func fn first cap) w := fun _ _ _ _ => rfl
  have hB := Blk.new w 298 (tcells l)
  have c10 : (w.alloc (.cells (tcells l) 298)).cell? ⟨w.heap.size, 10, none⟩ = some (.int .i64 ((m : Int) + 1)) := by
    have := hB.cell 10
    rw [this]
    simp [tcells, hm]
  have cm : (w.alloc (.cells (tcells l) 298)).cell? ⟨w.heap.size, m, none⟩ = some (.int .u8 (tb l m)) := by rw [hB.cell m]; exact tcells_at l hm10
  have hrr : r = decide (128 ≤ tb l m ∨ (((m : Int) + 1) = 10 ∧ 1 < tb l m) ∨ (1 < ((m : Int) + 1) ∧ tb l m = 0)) := by
    rw [Bool.eq_iff_iff, hr, bad_iff hm]; simp
  rw [hrr]
  clear hr hrr
  generalize tb l m = x at *
  have hsz : (tcells l).size = 11 := tcells_size l
  unfold tval
  generalize tcells l = cs at *
  have hm10' : (m : Int) < 10 := by omega
  go_enter Tryz.func207, Tryz.ntmps207
  go_wp2_with fail
  have B2 := Blk.new (w.alloc (.cells cs 298)) 5 #[.int .u8 x]
  rw [show (w.alloc (.cells cs 298)).heap.size = w.heap.size + 1 by simp] at B2
  have hg : w.grownBy ((w.alloc (.cells cs 298)).alloc (.cells #[.int .u8 x] 5)) none := only_alloc (only_alloc (only_refl _ _) _) _
  have B1 := hB.alloc (.cells #[.int .u8 x] 5)
  have k10 : ((w.alloc (.cells cs 298)).alloc (.cells #[.int .u8 x] 5)).cell? ⟨w.heap.size, 10, none⟩ = some (.int .i64 ((m : Int) + 1)) := (B1.cell 10).trans ((hB.cell 10).symm.trans c10)
  have hz : ((w.alloc (.cells cs 298)).alloc (.cells #[.int .u8 x] 5)).heap.size = w.heap.size + 1 + 1 := by simp
  generalize (w.alloc (.cells cs 298)).alloc (.cells #[.int .u8 x] 5) = W at *
  have F := Blk.new W 33 #[.func (.func 210) #[] #[.pointer (some ⟨w.heap.size + 1, 0, none⟩)], .func (.func 211) #[] #[.pointer (some ⟨w.heap.size, 0, none⟩), .pointer (some ⟨w.heap.size + 1, 0, none⟩)], .func (.func 212) #[] #[.pointer (some ⟨w.heap.size, 0, none⟩), .pointer (some ⟨w.heap.size + 1, 0, none⟩)]]
  rw [hz] at F
  have hg3 := only_alloc hg (.cells #[.func (.func 210) #[] #[.pointer (some ⟨w.heap.size + 1, 0, none⟩)], .func (.func 211) #[] #[.pointer (some ⟨w.heap.size, 0, none⟩), .pointer (some ⟨w.heap.size + 1, 0, none⟩)], .func (.func 212) #[] #[.pointer (some ⟨w.heap.size, 0, none⟩), .pointer (some ⟨w.heap.size + 1, 0, none⟩)]] 33)
  have k103 := (World.cell?_of_block ((only_alloc (only_refl W none) (.cells #[.func (.func 210) #[] #[.pointer (some ⟨w.heap.size + 1, 0, none⟩)], .func (.func 211) #[] #[.pointer (some ⟨w.heap.size, 0, none⟩), .pointer (some ⟨w.heap.size + 1, 0, none⟩)], .func (.func 212) #[] #[.pointer (some ⟨w.heap.size, 0, none⟩), .pointer (some ⟨w.heap.size + 1, 0, none⟩)]] 33)).block w.heap.size B1.lt (fun e => by cases e))).trans k10
  refine (any_of (x := x) (q := w.heap.size + 1) (b := w.heap.size) (w.heap.size + 1 + 1) ((m : Int) + 1) ((B2.alloc _).cell 0) k103 (F.cell 0) (F.cell 1) (F.cell 2)).mono ?_
  rintro e w' ⟨rfl, rfl⟩
  go_wp2_with fail
  go_ret
  exact ⟨by simp, hg3⟩

theorem num_drop (l : List UInt8) (j : Nat) (h : j < l.length) : num (l.drop j) = num (l.drop (j + 1)) * 128 + l[j].toNat % 128 := by
  rw [List.drop_eq_getElem_cons h, num_cons]
theorem num_drop_le (l : List UInt8) (j : Nat) : num (l.drop j) ≤ num l := by
  induction j with
  | zero => rw [List.drop_zero]; exact Nat.le_refl _
  | succ j ih =>
    rcases Nat.lt_or_ge j l.length with h | h
    · have := num_drop l j h
      omega
    · rw [List.drop_eq_nil_of_le (by omega), num_nil]; omega

set_option maxRecDepth 100000 in
set_option maxHeartbeats 2000000 in
/-- The number that good bytes are. -/
theorem number_any (l : List UInt8) (m : Nat) (hm : l.length = m + 1) (hm10 : m < 10) (hn : num l < 18446744073709551616) (w : World) :
    Calls Tryz.prog 208 #[tval l] w fun e w' => e = .returned (.int .u64 (num l : Int)) ∧ w.grownBy w' none := by
  have hB := Blk.new w 298 (tcells l)
  have hg : w.grownBy (w.alloc (.cells (tcells l) 298)) none := only_alloc (only_refl _ _) _
  have c10 : (w.alloc (.cells (tcells l) 298)).cell? ⟨w.heap.size, 10, none⟩ = some (.int .i64 ((m : Int) + 1)) := by
    have := hB.cell 10
    rw [this]
    simp [tcells, hm]
  have cj : Hid (∀ j, j < l.length → ∃ x : Nat, x < 256 ∧ (w.alloc (.cells (tcells l) 298)).cell? ⟨w.heap.size, j, none⟩ = some (.int .u8 (x : Int)) ∧ num (l.drop j) = num (l.drop (j + 1)) * 128 + x % 128) := by
    intro j hj
    refine ⟨l[j].toNat, l[j].toNat_lt, ?_, num_drop l j hj⟩
    rw [hB.cell j, tcells_at l (by omega)]
    unfold tb
    rw [List.getElem?_eq_getElem hj]; rfl
  have hle := Lib.hid (num_drop_le l)
  have hn' := Lib.hid hn
  have hm' := Lib.hid hm
  clear hn hm hB
  unfold tval
  have hsz : (tcells l).size = 11 := tcells_size l
  generalize tcells l = cs at *
  have hm10' : (m : Int) < 10 := by omega
  go_enter Tryz.func208, Tryz.ntmps208
  go_wp2_with fail
  generalize hW : w.alloc (.cells cs 298) = W at *
  go_loopw [3, 4] (fun vn vi wr => ∃ j : Nat, j ≤ l.length ∧ vi = .int .i64 ((j : Int) - 1) ∧ vn = .int .u64 (num (l.drop j) : Int) ∧ W = wr) (fun _ vi _ => (intOf vi + 1).toNat)
  case atStart => exact ⟨m + 1, by rw [hm'.out]; omega, by go_num, by rw [List.drop_eq_nil_of_le (by rw [hm'.out]; omega), num_nil]; rfl, rfl⟩
  case round =>
    obtain ⟨j, hj, rfl, rfl, rfl⟩ := hrel
    have hjm : (j : Int) ≤ 10 := by have := hm'.out; omega
    cases j with
    | zero =>
      rw [List.drop_zero]
      go_wp2_with fail
      go_ret
      exact ⟨rfl, hg⟩
    | succ j =>
      obtain ⟨x, hx, hc, hnum⟩ := cj.out j (by omega)
      have h1 := hle.out (j + 1)
      have h2 := hle.out j
      have h3 := hn'.out
      have e1 : ((j + 1 : Nat) : Int) - 1 = (j : Int) := by omega
      have hj10 : (j : Int) < 10 := by omega
      have HN := Lib.hid hnum
      have HJ := Lib.hid hj
      have hb : (num (l.drop (j + 1)) : Int) * 128 + (x : Int) % 128 < 18446744073709551616 := by omega
      have hb0 : (0 : Int) ≤ (num (l.drop (j + 1)) : Int) := by omega
      have hx0 : (0 : Int) ≤ (x : Int) := by omega
      have hx1 : (x : Int) < 256 := by omega
      have HE : Hid ((num (l.drop j) : Int) = (num (l.drop (j + 1)) : Int) * 128 + (x : Int) % 128) := by show _ = _; rw [hnum]; omega
      clear hnum h1 h2 h3 hj
      rw [e1]
      clear e1
      generalize (num (l.drop (j + 1)) : Int) = y at *
      generalize (x : Int) = z at *
      go_wp2_with fail
      go_roundw
      case rel => exact ⟨j, by have := HJ.out; omega, rfl, by rw [HE.out], trivial⟩
      case measure => simp [intOf]
end Go.Proofs.YtohhojbeclbedaaGreatDoor

namespace Go.Proofs.YtohhojbeclbedaaGreatDoor
open Go.RowKit

theorem u_mid {w w1 : World} {g A bg : Nat} {bs : List UInt8} (l : List UInt8) (hg : w.grownBy w1 (some g)) (hR : Rdr w1 g bs A bg) :
    Blk (w1.alloc (.cells (tcells []) 298)) w1.heap.size 298 (tcells []) ∧
    Blk ((w1.alloc (.cells (tcells []) 298)).setRow w1.heap.size (tcells l)) w1.heap.size 298 (tcells l) ∧
    w.grownBy ((w1.alloc (.cells (tcells []) 298)).setRow w1.heap.size (tcells l)) (some g) ∧
    Rdr ((w1.alloc (.cells (tcells []) 298)).setRow w1.heap.size (tcells l)) g bs A bg ∧
    (∀ fb c x, fb < w1.heap.size → Flt w1 fb c x → Flt ((w1.alloc (.cells (tcells []) 298)).setRow w1.heap.size (tcells l)) fb c x) := by
  have hB := Blk.new w1 298 (tcells [])
  have h1 : w1.grownBy (w1.alloc (.cells (tcells []) 298)) none := only_alloc (only_refl _ _) _
  have hs : (w1.alloc (.cells (tcells []) 298)).grownBy ((w1.alloc (.cells (tcells []) 298)).setRow w1.heap.size (tcells l)) (some w1.heap.size) := row_only _ _ _
  refine ⟨hB, blk_row hB _, only_new' (only_trans hg (only_weak h1 (some g))) hs hg.size, (hR.kept h1).grown hs (fun e => by have := hR.lt; injection e with e; omega) (fun j e => ?_), fun fb c x hlt hf => ?_⟩
  · injection e with e
    subst e
    exact ⟨_, _, hB, by decide⟩
  · exact Blk.grown (Blk.kept hf h1) hs (fun e => by injection e with e; omega)

set_option maxRecDepth 100000 in
set_option maxHeartbeats 4000000 in
theorem u_ok {w : World} {g : Nat} {bs : List UInt8} {a bg : Nat} (h : Rdr w g bs a bg) (k : Nat) (hk : Taken (bs.drop a) k) (hb : ¬ Bad ((bs.drop a).take k)) :
    Calls Tryz.prog 203 #[.pointer (some ⟨g, 0, none⟩)] w fun e w' => e = .returned (.tuple #[.int .u64 (num ((bs.drop a).take k) : Int), .nilIface]) ∧ w.grownBy w' (some g) ∧ Rdr w' g bs (a + k) bg := by
  have HT := fun (w1 : World) (h : Rdr w1 g bs a bg) => take_taken h k hk
  obtain ⟨m, hm⟩ : ∃ m, k = m + 1 := ⟨k - 1, by have := hk.pos; omega⟩
  have hml : ((bs.drop a).take k).length = m + 1 := by rw [List.length_take]; have := hk.len; omega
  have hm10 : m < 10 := by have := hk.le; omega
  have HW := isWrong_any ((bs.drop a).take k) m hml hm10 false (by simp [hb])
  have HN := number_any ((bs.drop a).take k) m hml hm10 (sev_of_taken hk hb).2
  clear hk hb hml hm10 hm
  generalize (bs.drop a).take k = l at *
  have HP := place_step h
  go_enter Tryz.func203, Tryz.ntmps203
  go_wp2_with fail
  refine HP.mono ?_
  clear HP
  rintro e w0 ⟨rfl, hg0⟩
  have h0 := h.kept hg0
  have hgl := h.lt
  go_wp2_with fail
  refine (HT _ h0).mono ?_
  rintro e w1 ⟨rfl, hg1, hR1⟩
  obtain ⟨b0, b1, hg2, hR2, _⟩ := u_mid l (only_trans (only_weak hg0 _) hg1) hR1
  clear HT h h0
  go_wp2_with (first | (refine wpList_store_blk (l := l) rfl (.tmp 5) (.tmp 12) rfl rfl rfl b0 ?_) | (refine wpList_load_blk rfl (.tmp 5) rfl rfl b1 ?_))
  refine (HW _).mono ?_
  rintro e w3 ⟨rfl, hg3⟩
  have b3 := b1.kept hg3
  have hg4 := only_trans hg2 (only_weak hg3 (some g))
  have hR3 := hR2.kept hg3
  clear hg2 hR2 b1 hg3
  go_wp2_with (refine wpList_load_blk rfl (.tmp 5) rfl rfl b3 ?_)
  refine (HN _).mono ?_
  rintro e w4 ⟨rfl, hg5⟩
  go_wp2_with fail
  go_ret2
  exact ⟨rfl, only_trans hg4 (only_weak hg5 _), hR3.kept hg5⟩

set_option maxRecDepth 100000 in
set_option maxHeartbeats 4000000 in
theorem u_bad {w : World} {g : Nat} {bs : List UInt8} {a bg : Nat} (h : Rdr w g bs a bg) (k : Nat) (hk : Taken (bs.drop a) k) (hb : Bad ((bs.drop a).take k)) :
    Calls Tryz.prog 203 #[.pointer (some ⟨g, 0, none⟩)] w fun e w' => ∃ fb, e = .returned (.tuple #[.int .u64 0, .iface 94 (.pointer (some ⟨fb, 0, none⟩))]) ∧ Flt w' fb 5 ((bg : Int) + (a : Int)) ∧ w.heap.size ≤ fb ∧ w.grownBy w' (some g) ∧ Rdr w' g bs (a + k) bg := by
  have HT := fun (w1 : World) (h : Rdr w1 g bs a bg) => take_taken h k hk
  obtain ⟨m, hm⟩ : ∃ m, k = m + 1 := ⟨k - 1, by have := hk.pos; omega⟩
  have hml : ((bs.drop a).take k).length = m + 1 := by rw [List.length_take]; have := hk.len; omega
  have hm10 : m < 10 := by have := hk.le; omega
  have HW := isWrong_any ((bs.drop a).take k) m hml hm10 true (by simp [hb])
  clear hk hb hml hm10 hm
  generalize (bs.drop a).take k = l at *
  have HP := place_step h
  generalize hpl : (bg : Int) + (a : Int) = pl at *
  go_enter Tryz.func203, Tryz.ntmps203
  go_wp2_with fail
  refine HP.mono ?_
  clear HP
  rintro e w0 ⟨rfl, hg0⟩
  have h0 := h.kept hg0
  have hgl := h.lt
  go_wp2_with fail
  refine (HT _ h0).mono ?_
  rintro e w1 ⟨rfl, hg1, hR1⟩
  obtain ⟨b0, b1, hg2, hR2, _⟩ := u_mid l (only_trans (only_weak hg0 _) hg1) hR1
  clear HT h h0
  go_wp2_with (first | (refine wpList_store_blk (l := l) rfl (.tmp 5) (.tmp 12) rfl rfl rfl b0 ?_) | (refine wpList_load_blk rfl (.tmp 5) rfl rfl b1 ?_))
  refine (HW _).mono ?_
  rintro e w3 ⟨rfl, hg3⟩
  have hg4 := only_trans hg2 (only_weak hg3 (some g))
  have hR3 := hR2.kept hg3
  clear hg2 hR2 b1 hg3
  go_wp2_with fail
  go_ret2
  exact ⟨w3.heap.size, rfl, Blk.new w3 _ _, hg4.size, only_alloc hg4 _, hR3.kept (only_alloc (only_refl _ _) _)⟩

set_option maxRecDepth 100000 in
set_option maxHeartbeats 4000000 in
theorem u_ends {w : World} {g : Nat} {bs : List UInt8} {a bg : Nat} (h : Rdr w g bs a bg) (hs : Short (bs.drop a)) :
    Calls Tryz.prog 203 #[.pointer (some ⟨g, 0, none⟩)] w fun e w' => ∃ fb, e = .returned (.tuple #[.int .u64 0, .iface 94 (.pointer (some ⟨fb, 0, none⟩))]) ∧ Flt w' fb 3 ((bg : Int) + (bs.length : Int)) ∧ w.heap.size ≤ fb ∧ w.grownBy w' (some g) ∧ Rdr w' g bs bs.length bg := by
  have HT := fun (w1 : World) (h : Rdr w1 g bs a bg) => take_ends h hs
  clear hs
  have HP := place_step h
  go_enter Tryz.func203, Tryz.ntmps203
  go_wp2_with fail
  refine HP.mono ?_
  clear HP
  rintro e w0 ⟨rfl, hg0⟩
  have h0 := h.kept hg0
  have hgl := h.lt
  go_wp2_with fail
  refine (HT _ h0).mono ?_
  rintro e w1 ⟨fb, rfl, hf, hfb, hg1, hR1⟩
  obtain ⟨b0, _, hg2, hR2, hfl⟩ := u_mid [] (only_trans (only_weak hg0 _) hg1) hR1
  have hf2 := hfl _ _ _ hf.lt hf
  have hsz := hg0.size
  have HF := Lib.hid hf2
  clear HT h h0 hf hf2 hfl
  go_wp2_with (refine wpList_store_blk (l := []) rfl (.tmp 5) (.tmp 12) rfl rfl rfl b0 ?_)
  go_ret2
  exact ⟨fb, rfl, HF.out, by omega, hg2, hR2⟩

end Go.Proofs.YtohhojbeclbedaaGreatDoor

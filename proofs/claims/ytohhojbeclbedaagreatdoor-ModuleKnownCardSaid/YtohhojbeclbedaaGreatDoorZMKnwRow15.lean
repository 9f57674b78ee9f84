/- Texts joined for the claim's sake: ICov, IRd. -/
import Derived.Test.YtohhojbeclbedaaGreatDoorZMKnwRow13
import Derived.Test.YtohhojbeclbedaaGreatDoorZMKnwRow11
import Derived.Test.YtohhojbeclbedaaGreatDoorZMKnwRow12
import Derived.Deep.RegionWith
namespace Go.Proofs.YtohhojbeclbedaaGreatDoor
open Go.RowKit

def opV (w p : Option Addr) (k : Kd) : Value := .agg #[.pointer w, .pointer p, .int .i64 k.most, .bool k.reg]
theorem mayBe_whole (a : Addr) (k : Kd) (w : World) :
    Calls Tryz.prog 199 #[opV (some a) none k] w fun e w' => e = .returned (.bool true) ∧ w.grownBy w' none := by
  unfold opV
  go_enter Tryz.func199, Tryz.ntmps199
  go_wp2
  go_quiet (fail)
  go_wp2
  go_ret
  exact ⟨rfl, only_drewN (only_alloc (only_refl _ _) _) _⟩
theorem mayBe_num (a : Addr) (k : Kd) (z : Int) (w : World) (h : w.cell? a = some (.int .i64 z)) :
    Calls Tryz.prog 199 #[opV none (some a) k] w fun e w' => e = .returned (.bool (inK z k)) ∧ w.grownBy w' none := by
  have hc : ∀ o, (w.alloc o).cell? a = some (.int .i64 z) := fun o => cell_row h (only_alloc (only_refl w none) o) (fun e => by cases e)
  unfold opV
  by_cases h0 : 0 ≤ z
  · by_cases h1 : z ≤ k.most
    · have hr : inK z k = true := by simp [inK, h0, h1]
      have d0 : decide (0 ≤ z) = true := by simpa using h0
      have d1 : decide (z ≤ k.most) = true := by simpa using h1
      rw [hr]
      go_enter Tryz.func199, Tryz.ntmps199
      go_wp2
      go_quiet (fail)
      go_wp2
      go_ret
      exact ⟨by simp, only_drewN (only_alloc (only_refl _ _) _) _⟩
    · have hr : inK z k = false := by simp [inK, h1]
      have d0 : decide (0 ≤ z) = true := by simpa using h0
      have d1 : decide (z ≤ k.most) = false := by simpa using h1
      rw [hr]
      go_enter Tryz.func199, Tryz.ntmps199
      go_wp2
      go_quiet (fail)
      go_wp2
      go_ret
      exact ⟨by simp, only_drewN (only_alloc (only_refl _ _) _) _⟩
  · have hr : inK z k = false := by simp [inK, h0]
    have d0 : decide (0 ≤ z) = false := by simpa using h0
    rw [hr]
    go_enter Tryz.func199, Tryz.ntmps199
    go_wp2
    go_quiet (fail)
    go_wp2
    go_ret
    exact ⟨by simp, only_drewN (only_alloc (only_refl _ _) _) _⟩

/-- An operand is laid. -/
theorem oput_whole {B g : Nat} {w : World} {bs : List UInt8} (h : Wtr B w g bs) (hB : B ≤ w.heap.size) (a : Addr) (k : Kd) (z : Int) (hz : Whole z) (hc : w.cell? a = some (.int .i64 z)) (hl : bs.length + 10 ≤ 1099511627776) :
    Calls Tryz.prog 134 #[opV (some a) none k, .pointer (some ⟨g, 0, none⟩)] w fun e w' => e = .returned (.tuple #[]) ∧ Wtr B w' g (bs ++ sev (foldN z)) ∧ Turn (WS B w g) w w' := by
  have h0 : w.grownBy (w.alloc (.cells #[.pointer (some a), .pointer none, .int .i64 k.most, .bool k.reg] 201)) none := only_alloc (only_refl _ _) _
  have hc' := cell_row hc h0 (fun e => by cases e)
  have H := putS_any (h.kept h0) (Nat.le_trans hB h0.size) z hz hl
  have HT := Lib.hid (fun (w2 : World) (ht : Turn (WS B (w.alloc (.cells #[.pointer (some a), .pointer none, .int .i64 k.most, .bool k.reg] 201)) g) _ w2) => Turn.trans (w := w) (Turn.none_ h0) ht)
  clear h hl hz
  unfold opV
  go_enter Tryz.func134, Tryz.ntmps134
  go_wp2_with fail
  refine H.mono ?_
  rintro e w2 ⟨rfl, hw, ht⟩
  go_wp2_with fail
  exact bodyPost_ret (results_none rfl _ _ _) rfl ⟨rfl, hw, HT.out _ ht⟩
theorem oput_num {B g : Nat} {w : World} {bs : List UInt8} (h : Wtr B w g bs) (hB : B ≤ w.heap.size) (a : Addr) (k : Kd) (z : Int) (h0z : 0 ≤ z) (h1z : z ≤ 9223372036854775807) (hc : w.cell? a = some (.int .i64 z)) (hl : bs.length + 10 ≤ 1099511627776) :
    Calls Tryz.prog 134 #[opV none (some a) k, .pointer (some ⟨g, 0, none⟩)] w fun e w' => e = .returned (.tuple #[]) ∧ Wtr B w' g (bs ++ sev z.toNat) ∧ Turn (WS B w g) w w' := by
  have h0 : w.grownBy (w.alloc (.cells #[.pointer none, .pointer (some a), .int .i64 k.most, .bool k.reg] 201)) none := only_alloc (only_refl _ _) _
  have hc' := cell_row hc h0 (fun e => by cases e)
  have H := putU_any (h.kept h0) (Nat.le_trans hB h0.size) z.toNat (by omega) hl
  have hz : (z.toNat : Int) = z := by omega
  rw [hz] at H
  have HT := Lib.hid (fun (w2 : World) (ht : Turn (WS B (w.alloc (.cells #[.pointer none, .pointer (some a), .int .i64 k.most, .bool k.reg] 201)) g) _ w2) => Turn.trans (w := w) (Turn.none_ h0) ht)
  clear h hl hz
  unfold opV
  go_enter Tryz.func134, Tryz.ntmps134
  go_wp2_with fail
  refine H.mono ?_
  rintro e w2 ⟨rfl, hw, ht⟩
  go_wp2_with fail
  go_end0
  exact ⟨rfl, hw, HT.out _ ht⟩
end Go.Proofs.YtohhojbeclbedaaGreatDoor

namespace Go.Proofs.YtohhojbeclbedaaGreatDoor
open Go.RowKit

/-- What a reader of a number answers. -/
def Says {α : Type} (mk : α → Value) (g : Nat) (bs : List UInt8) (r : Rs α) (w : World) (e : Ending) (w' : World) : Prop := match r with
  | .ok v b => e = .returned (.tuple #[mk v, .nilIface]) ∧ w.grownBy w' (some g) ∧ Rdr w' g bs b 0
  | .flt c y b => ∃ fb, e = .returned (.tuple #[.int .i64 0, .iface 94 (.pointer (some ⟨fb, 0, none⟩))]) ∧ Flt w' fb c (y : Int) ∧ w.heap.size ≤ fb ∧ w.grownBy w' (some g) ∧ Rdr w' g bs b 0
def zV (z : Int) : Value := .int .i64 z
theorem cast0 (a : Nat) : ((0 : Nat) : Int) + (a : Int) = (a : Int) := by omega
section
variable {w : World} {g a : Nat} {bs : List UInt8}
theorem s_is (h : Rdr w g bs a 0) : Calls Tryz.prog 193 #[.pointer (some ⟨g, 0, none⟩)] w (Says zV g bs (sR bs a) w) := by
  unfold sR
  rcases taken_or (bs.drop a) with hs | ⟨k, hk⟩
  · rw [uR_short hs]
    refine (s_fault (R := fun fb w' => Flt w' fb 3 (((0 : Nat) : Int) + (bs.length : Int)) ∧ w.heap.size ≤ fb ∧ w.grownBy w' (some g) ∧ Rdr w' g bs bs.length 0) (u_ends h hs)).mono ?_
    rintro e w' ⟨fb, h1, h2, h3⟩
    rw [cast0] at h2
    exact ⟨fb, h1, h2, h3⟩
  · by_cases hb : Bad ((bs.drop a).take k)
    · rw [uR_bad hk hb]
      refine (s_fault (R := fun fb w' => Flt w' fb 5 (((0 : Nat) : Int) + (a : Int)) ∧ w.heap.size ≤ fb ∧ w.grownBy w' (some g) ∧ Rdr w' g bs (a + k) 0) (u_bad h k hk hb)).mono ?_
      rintro e w' ⟨fb, h1, h2, h3⟩
      rw [cast0] at h2
      exact ⟨fb, h1, h2, h3⟩
    · rw [uR_ok hk hb]
      exact s_ok h k hk hb
theorem sm_is (h : Rdr w g bs a 0) (most : Int) (hw : Whole most) : Calls Tryz.prog 190 #[.pointer (some ⟨g, 0, none⟩), .int .i64 most] w (Says zV g bs (smR bs a most) w) := by
  unfold smR
  rcases taken_or (bs.drop a) with hs | ⟨k, hk⟩
  · rw [uR_short hs]
    refine (small_fault (R := fun fb w' => Flt w' fb 3 (((0 : Nat) : Int) + (bs.length : Int)) ∧ w.heap.size ≤ fb ∧ w.grownBy w' (some g) ∧ Rdr w' g bs bs.length 0) (place_step h) fun w1 hg => (u_ends (h.kept hg) hs).mono ?_).mono ?_
    · rintro e w' ⟨fb, h1, h2, h3, h4, h5⟩
      exact ⟨fb, h1, h2, Nat.le_trans hg.size h3, only_trans (only_weak hg _) h4, h5⟩
    · rintro e w' ⟨fb, h1, h2, h3⟩
      rw [cast0] at h2
      exact ⟨fb, h1, h2, h3⟩
  · by_cases hb : Bad ((bs.drop a).take k)
    · rw [uR_bad hk hb]
      refine (small_fault (R := fun fb w' => Flt w' fb 5 (((0 : Nat) : Int) + (a : Int)) ∧ w.heap.size ≤ fb ∧ w.grownBy w' (some g) ∧ Rdr w' g bs (a + k) 0) (place_step h) fun w1 hg => (u_bad (h.kept hg) k hk hb).mono ?_).mono ?_
      · rintro e w' ⟨fb, h1, h2, h3, h4, h5⟩
        exact ⟨fb, h1, h2, Nat.le_trans hg.size h3, only_trans (only_weak hg _) h4, h5⟩
      · rintro e w' ⟨fb, h1, h2, h3⟩
        rw [cast0] at h2
        exact ⟨fb, h1, h2, h3⟩
    · rw [uR_ok hk hb, Rs.bind_ok]
      by_cases hm : (num ((bs.drop a).take k) : Int) ≤ most
      · rw [if_pos hm]
        exact small_ok h k hk hb most hw hm
      · rw [if_neg hm]
        refine (small_long h k hk hb most hw (by omega)).mono ?_
        rintro e w' ⟨fb, h1, h2, h3⟩
        rw [cast0] at h2
        exact ⟨fb, h1, h2, h3⟩
end

/-- What an operand's read leaves: the number's cell has what was read, or a zero. -/
def SaysAt (g : Nat) (bs : List UInt8) (p : Addr) (r : Rs Int) (w : World) (e : Ending) (w' : World) : Prop := match r with
  | .ok v b => e = .returned .nilIface ∧ ∃ W1, w.grownBy W1 (some g) ∧ Rdr W1 g bs b 0 ∧ w' = W1.setCell p (.int .i64 v)
  | .flt c y b => ∃ fb, e = .returned (.iface 94 (.pointer (some ⟨fb, 0, none⟩))) ∧ ∃ W1, w.grownBy W1 (some g) ∧ Rdr W1 g bs b 0 ∧ Flt W1 fb c (y : Int) ∧ w.heap.size ≤ fb ∧ w' = W1.setCell p (.int .i64 0)

set_option maxRecDepth 100000 in
set_option maxHeartbeats 2000000 in
theorem oread_whole {w : World} {g a q i : Nat} {bs : List UInt8} {t : TypeId} {cs : Array Value} (h : Rdr w g bs a 0) (hq : Blk w q t cs) (ht : t ≠ 111) (hi : i < cs.size) (k : Kd) :
    Calls Tryz.prog 191 #[opV (some ⟨q, i, none⟩) none k, .pointer (some ⟨g, 0, none⟩)] w (SaysAt g bs ⟨q, i, none⟩ (sR bs a) w) := by
  have h0 : w.grownBy (w.alloc (.cells #[.pointer (some ⟨q, i, none⟩), .pointer none, .int .i64 k.most, .bool k.reg] 201)).drew none := only_drew (only_alloc (only_refl _ _) _)
  have hbo := (Blk.new w 201 #[.pointer (some ⟨q, i, none⟩), .pointer none, .int .i64 k.most, .bool k.reg]).drew
  have H := s_is (h.kept h0)
  have hq0 := hq.kept h0
  obtain ⟨cg, hbg⟩ := (h.kept h0).blk
  have hmx : Tryz.prog.follows .mixedOrders = true := by kernel_rfl
  have HG := Lib.hid h0
  have hsz := Lib.hid h0.size
  have hcs : cs[i]? = some cs[i] := Array.getElem?_eq_getElem hi
  unfold opV
  generalize sR bs a = r at *
  clear h hq h0
  cases r with
  | ok v b =>
    go_enter Tryz.func191, Tryz.ntmps191
    go_wp2_with fail
    go_region_with (go_at_call 193; refine H.mono ?_; rintro e W1 ⟨rfl, hg, hr⟩; simp only [zV]; have b1 := hbo.grown hg (fun e => Blk.ne_ hbo hbg (by decide) (by injection e)); have q1 := hq0.grown hg (fun e => Blk.ne_ hq0 hbg ht (by injection e)); have k0 := b1.cell 0; have kq := q1.cell i; have fq := q1.frozen i; rw [hcs] at kq; clear b1 q1)
    all_goals
      go_wp2_with fail
      go_ret
      exact ⟨rfl, W1, only_trans (only_weak HG.out _) hg, hr, rfl⟩
  | flt c y b =>
    go_enter Tryz.func191, Tryz.ntmps191
    go_wp2_with fail
    go_region_with (go_at_call 193; refine H.mono ?_; rintro e W1 ⟨fb, rfl, hf, hge, hg, hr⟩; have b1 := hbo.grown hg (fun e => Blk.ne_ hbo hbg (by decide) (by injection e)); have q1 := hq0.grown hg (fun e => Blk.ne_ hq0 hbg ht (by injection e)); have k0 := b1.cell 0; have kq := q1.cell i; have fq := q1.frozen i; rw [hcs] at kq; clear b1 q1)
    all_goals
      go_wp2_with fail
      go_ret
      exact ⟨fb, rfl, W1, only_trans (only_weak HG.out _) hg, hr, hf, Nat.le_trans hsz.out hge, rfl⟩
set_option maxRecDepth 100000 in
set_option maxHeartbeats 2000000 in
theorem oread_num {w : World} {g a q i : Nat} {bs : List UInt8} {t : TypeId} {cs : Array Value} (h : Rdr w g bs a 0) (hq : Blk w q t cs) (ht : t ≠ 111) (hi : i < cs.size) (k : Kd) (hk : Whole k.most) :
    Calls Tryz.prog 191 #[opV none (some ⟨q, i, none⟩) k, .pointer (some ⟨g, 0, none⟩)] w (SaysAt g bs ⟨q, i, none⟩ (smR bs a k.most) w) := by
  have h0 : w.grownBy (w.alloc (.cells #[.pointer none, .pointer (some ⟨q, i, none⟩), .int .i64 k.most, .bool k.reg] 201)).drew none := only_drew (only_alloc (only_refl _ _) _)
  have hbo := (Blk.new w 201 #[.pointer none, .pointer (some ⟨q, i, none⟩), .int .i64 k.most, .bool k.reg]).drew
  have H := sm_is (h.kept h0) k.most hk
  have hq0 := hq.kept h0
  obtain ⟨cg, hbg⟩ := (h.kept h0).blk
  have hmx : Tryz.prog.follows .mixedOrders = true := by kernel_rfl
  have HG := Lib.hid h0
  have hsz := Lib.hid h0.size
  have hcs : cs[i]? = some cs[i] := Array.getElem?_eq_getElem hi
  unfold opV
  generalize smR bs a k.most = r at *
  clear h hq h0
  cases r with
  | ok v b =>
    go_enter Tryz.func191, Tryz.ntmps191
    go_wp2_with fail
    go_region_with (go_at_call 190; refine H.mono ?_; rintro e W1 ⟨rfl, hg, hr⟩; simp only [zV]; have b1 := hbo.grown hg (fun e => Blk.ne_ hbo hbg (by decide) (by injection e)); have q1 := hq0.grown hg (fun e => Blk.ne_ hq0 hbg ht (by injection e)); have k0 := b1.cell 1; have kq := q1.cell i; have fq := q1.frozen i; rw [hcs] at kq; clear b1 q1)
    all_goals
      go_wp2_with fail
      go_ret
      exact ⟨rfl, W1, only_trans (only_weak HG.out _) hg, hr, rfl⟩
  | flt c y b =>
    go_enter Tryz.func191, Tryz.ntmps191
    go_wp2_with fail
    go_region_with (go_at_call 190; refine H.mono ?_; rintro e W1 ⟨fb, rfl, hf, hge, hg, hr⟩; have b1 := hbo.grown hg (fun e => Blk.ne_ hbo hbg (by decide) (by injection e)); have q1 := hq0.grown hg (fun e => Blk.ne_ hq0 hbg ht (by injection e)); have k0 := b1.cell 1; have kq := q1.cell i; have fq := q1.frozen i; rw [hcs] at kq; clear b1 q1)
    all_goals
      go_wp2_with fail
      go_ret
      exact ⟨fb, rfl, W1, only_trans (only_weak HG.out _) hg, hr, hf, Nat.le_trans hsz.out hge, rfl⟩
end Go.Proofs.YtohhojbeclbedaaGreatDoor

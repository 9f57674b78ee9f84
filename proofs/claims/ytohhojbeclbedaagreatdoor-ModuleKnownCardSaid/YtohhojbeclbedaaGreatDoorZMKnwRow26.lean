/- Texts joined for the claim's sake: JRd. -/
import Derived.Test.YtohhojbeclbedaaGreatDoorZMKnwRow15
import Derived.Deep.RegionWith
namespace Go.Proofs.YtohhojbeclbedaaGreatDoor.J
open Go.RowKit

/-- What a reader of a number answers. -/
def Says {α : Type} (mk : α → Value) (g : Nat) (bs : List UInt8) (bg : Nat) (r : Rs α) (w : World) (e : Ending) (w' : World) : Prop := match r with
  | .ok v b => e = .returned (.tuple #[mk v, .nilIface]) ∧ w.grownBy w' (some g) ∧ Rdr w' g bs b bg
  | .flt c y b => ∃ fb, e = .returned (.tuple #[.int .i64 0, .iface 94 (.pointer (some ⟨fb, 0, none⟩))]) ∧ Flt w' fb c ((bg : Int) + (y : Int)) ∧ w.heap.size ≤ fb ∧ w.grownBy w' (some g) ∧ Rdr w' g bs b bg
def zV (z : Int) : Value := .int .i64 z
section
variable {w : World} {g a : Nat} {bs : List UInt8} {bg : Nat}
theorem s_is (h : Rdr w g bs a bg) : Calls Tryz.prog 193 #[.pointer (some ⟨g, 0, none⟩)] w (Says zV g bs bg (sR bs a) w) := by
  unfold sR
  rcases taken_or (bs.drop a) with hs | ⟨k, hk⟩
  · rw [uR_short hs]
    refine (s_fault (R := fun fb w' => Flt w' fb 3 (((bg : Nat) : Int) + (bs.length : Int)) ∧ w.heap.size ≤ fb ∧ w.grownBy w' (some g) ∧ Rdr w' g bs bs.length bg) (u_ends h hs)).mono ?_
    rintro e w' ⟨fb, h1, h2, h3⟩
    exact ⟨fb, h1, h2, h3⟩
  · by_cases hb : Bad ((bs.drop a).take k)
    · rw [uR_bad hk hb]
      refine (s_fault (R := fun fb w' => Flt w' fb 5 (((bg : Nat) : Int) + (a : Int)) ∧ w.heap.size ≤ fb ∧ w.grownBy w' (some g) ∧ Rdr w' g bs (a + k) bg) (u_bad h k hk hb)).mono ?_
      rintro e w' ⟨fb, h1, h2, h3⟩
      exact ⟨fb, h1, h2, h3⟩
    · rw [uR_ok hk hb]
      exact s_ok h k hk hb
theorem sm_is (h : Rdr w g bs a bg) (most : Int) (hw : Whole most) : Calls Tryz.prog 190 #[.pointer (some ⟨g, 0, none⟩), .int .i64 most] w (Says zV g bs bg (smR bs a most) w) := by
  unfold smR
  rcases taken_or (bs.drop a) with hs | ⟨k, hk⟩
  · rw [uR_short hs]
    refine (small_fault (R := fun fb w' => Flt w' fb 3 (((bg : Nat) : Int) + (bs.length : Int)) ∧ w.heap.size ≤ fb ∧ w.grownBy w' (some g) ∧ Rdr w' g bs bs.length bg) (place_step h) fun w1 hg => (u_ends (h.kept hg) hs).mono ?_).mono ?_
    · rintro e w' ⟨fb, h1, h2, h3, h4, h5⟩
      exact ⟨fb, h1, h2, Nat.le_trans hg.size h3, only_trans (only_weak hg _) h4, h5⟩
    · rintro e w' ⟨fb, h1, h2, h3⟩
      exact ⟨fb, h1, h2, h3⟩
  · by_cases hb : Bad ((bs.drop a).take k)
    · rw [uR_bad hk hb]
      refine (small_fault (R := fun fb w' => Flt w' fb 5 (((bg : Nat) : Int) + (a : Int)) ∧ w.heap.size ≤ fb ∧ w.grownBy w' (some g) ∧ Rdr w' g bs (a + k) bg) (place_step h) fun w1 hg => (u_bad (h.kept hg) k hk hb).mono ?_).mono ?_
      · rintro e w' ⟨fb, h1, h2, h3, h4, h5⟩
        exact ⟨fb, h1, h2, Nat.le_trans hg.size h3, only_trans (only_weak hg _) h4, h5⟩
      · rintro e w' ⟨fb, h1, h2, h3⟩
        exact ⟨fb, h1, h2, h3⟩
    · rw [uR_ok hk hb, Rs.bind_ok]
      by_cases hm : (num ((bs.drop a).take k) : Int) ≤ most
      · rw [if_pos hm]
        exact small_ok h k hk hb most hw hm
      · rw [if_neg hm]
        refine (small_long h k hk hb most hw (by omega)).mono ?_
        rintro e w' ⟨fb, h1, h2, h3⟩
        exact ⟨fb, h1, h2, h3⟩
end

/-- What an operand's read leaves: the number's cell has what was read, or a zero. -/
def SaysAt (g : Nat) (bs : List UInt8) (bg : Nat) (p : Addr) (r : Rs Int) (w : World) (e : Ending) (w' : World) : Prop := match r with
  | .ok v b => e = .returned .nilIface ∧ ∃ W1, w.grownBy W1 (some g) ∧ Rdr W1 g bs b bg ∧ w' = W1.setCell p (.int .i64 v)
  | .flt c y b => ∃ fb, e = .returned (.iface 94 (.pointer (some ⟨fb, 0, none⟩))) ∧ ∃ W1, w.grownBy W1 (some g) ∧ Rdr W1 g bs b bg ∧ Flt W1 fb c ((bg : Int) + (y : Int)) ∧ w.heap.size ≤ fb ∧ w' = W1.setCell p (.int .i64 0)

set_option maxRecDepth 100000 in
set_option maxHeartbeats 2000000 in
theorem oread_whole {w : World} {g a q i : Nat} {bs : List UInt8} {bg : Nat} {t : TypeId} {cs : Array Value} (h : Rdr w g bs a bg) (hq : Blk w q t cs) (ht : t ≠ 111) (hi : i < cs.size) (k : Kd) :
    Calls Tryz.prog 191 #[opV (some ⟨q, i, none⟩) none k, .pointer (some ⟨g, 0, none⟩)] w (SaysAt g bs bg ⟨q, i, none⟩ (sR bs a) w) := by
  have h0 : w.grownBy (w.alloc (.cells #[.pointer (some ⟨q, i, none⟩), .pointer none, .int .i64 k.most, .bool k.reg] 201)).drew none := only_drew (only_alloc (only_refl _ _) _)
  have hbo := (Blk.new w 201 #[.pointer (some ⟨q, i, none⟩), .pointer none, .int .i64 k.most, .bool k.reg]).drew
  have H := s_is (h.kept h0)
  have hq0 := hq.kept h0
  obtain ⟨cg, hbg⟩ := (h.kept h0).blk
  have hmx : Tryz.prog.follows .mixedOrders = true := by kernel_rfl
  have HG := Lib.hid h0
  have hsz := Lib.hid h0.size
  have hcs : cs[i]? = some cs[i] := Array.getElem?_eq_getElem hi
  unfold opV
  generalize sR bs a = r at *
  clear h hq h0
  cases r with
  | ok v b =>
    go_enter Tryz.func191, Tryz.ntmps191
    go_wp2_with fail
    go_region_with (go_at_call 193; refine H.mono ?_; rintro e W1 ⟨rfl, hg, hr⟩; simp only [zV]; have b1 := hbo.grown hg (fun e => Blk.ne_ hbo hbg (by decide) (by injection e)); have q1 := hq0.grown hg (fun e => Blk.ne_ hq0 hbg ht (by injection e)); have k0 := b1.cell 0; have kq := q1.cell i; have fq := q1.frozen i; rw [hcs] at kq; clear b1 q1)
    all_goals
      go_wp2_with fail
      go_ret
      exact ⟨rfl, W1, only_trans (only_weak HG.out _) hg, hr, rfl⟩
  | flt c y b =>
    go_enter Tryz.func191, Tryz.ntmps191
    go_wp2_with fail
    go_region_with (go_at_call 193; refine H.mono ?_; rintro e W1 ⟨fb, rfl, hf, hge, hg, hr⟩; have b1 := hbo.grown hg (fun e => Blk.ne_ hbo hbg (by decide) (by injection e)); have q1 := hq0.grown hg (fun e => Blk.ne_ hq0 hbg ht (by injection e)); have k0 := b1.cell 0; have kq := q1.cell i; have fq := q1.frozen i; rw [hcs] at kq; clear b1 q1)
    all_goals
      go_wp2_with fail
      go_ret
      exact ⟨fb, rfl, W1, only_trans (only_weak HG.out _) hg, hr, hf, Nat.le_trans hsz.out hge, rfl⟩
set_option maxRecDepth 100000 in
set_option maxHeartbeats 2000000 in
theorem oread_num {w : World} {g a q i : Nat} {bs : List UInt8} {bg : Nat} {t : TypeId} {cs : Array Value} (h : Rdr w g bs a bg) (hq : Blk w q t cs) (ht : t ≠ 111) (hi : i < cs.size) (k : Kd) (hk : Whole k.most) :
    Calls Tryz.prog 191 #[opV none (some ⟨q, i, none⟩) k, .pointer (some ⟨g, 0, none⟩)] w (SaysAt g bs bg ⟨q, i, none⟩ (smR bs a k.most) w) := by
  have h0 : w.grownBy (w.alloc (.cells #[.pointer none, .pointer (some ⟨q, i, none⟩), .int .i64 k.most, .bool k.reg] 201)).drew none := only_drew (only_alloc (only_refl _ _) _)
  have hbo := (Blk.new w 201 #[.pointer none, .pointer (some ⟨q, i, none⟩), .int .i64 k.most, .bool k.reg]).drew
  have H := sm_is (h.kept h0) k.most hk
  have hq0 := hq.kept h0
  obtain ⟨cg, hbg⟩ := (h.kept h0).blk
  have hmx : Tryz.prog.follows .mixedOrders = true := by kernel_rfl
  have HG := Lib.hid h0
  have hsz := Lib.hid h0.size
  have hcs : cs[i]? = some cs[i] := Array.getElem?_eq_getElem hi
  unfold opV
  generalize smR bs a k.most = r at *
  clear h hq h0
  cases r with
  | ok v b =>
    go_enter Tryz.func191, Tryz.ntmps191
    go_wp2_with fail
    go_region_with (go_at_call 190; refine H.mono ?_; rintro e W1 ⟨rfl, hg, hr⟩; simp only [zV]; have b1 := hbo.grown hg (fun e => Blk.ne_ hbo hbg (by decide) (by injection e)); have q1 := hq0.grown hg (fun e => Blk.ne_ hq0 hbg ht (by injection e)); have k0 := b1.cell 1; have kq := q1.cell i; have fq := q1.frozen i; rw [hcs] at kq; clear b1 q1)
    all_goals
      go_wp2_with fail
      go_ret
      exact ⟨rfl, W1, only_trans (only_weak HG.out _) hg, hr, rfl⟩
  | flt c y b =>
    go_enter Tryz.func191, Tryz.ntmps191
    go_wp2_with fail
    go_region_with (go_at_call 190; refine H.mono ?_; rintro e W1 ⟨fb, rfl, hf, hge, hg, hr⟩; have b1 := hbo.grown hg (fun e => Blk.ne_ hbo hbg (by decide) (by injection e)); have q1 := hq0.grown hg (fun e => Blk.ne_ hq0 hbg ht (by injection e)); have k0 := b1.cell 1; have kq := q1.cell i; have fq := q1.frozen i; rw [hcs] at kq; clear b1 q1)
    all_goals
      go_wp2_with fail
      go_ret
      exact ⟨fb, rfl, W1, only_trans (only_weak HG.out _) hg, hr, hf, Nat.le_trans hsz.out hge, rfl⟩
end Go.Proofs.YtohhojbeclbedaaGreatDoor.J

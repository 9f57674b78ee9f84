/- LebReads: whatever is asked of whatever bytes, one behind the other, the call returns true, and turns nothing that was there. -/
import Derived.Test.YtcpcmappnkoldaaDoorRefS
import Derived.Test.YtcpcmappnkoldaaDoorLebV
import Derived.LoopTactic
import Derived.Deep.LoopGhost
import Derived.Deep.DeepCutAuto
import Derived.Deep.CutBlock
namespace Go.Proofs.YtcpcmappnkoldaaDoor
open Go.RowKit

/-- The calls, as the argument holds them. -/
def Asks (w : World) (A : Option Addr) (n : Nat) : Prop := ∀ k, k < n → ∃ (b off z : Nat) (N : Int), A = some ⟨b, off, none⟩ ∧ z ≤ 255 ∧ b < w.heap.size ∧ -9223372036854775808 ≤ N ∧ N ≤ 9223372036854775807 ∧
  w.cell? ⟨b, off + k * 2, none⟩ = some (.int .u8 (z : Int)) ∧ w.cell? ⟨b, off + (k * 2 + 1), none⟩ = some (.int .i64 N)

/-- Both readers, at one place of the same bytes. -/
structure DR (w0 w : World) (g q : Nat) (bs : List UInt8) (a : Nat) : Prop where
  err0 : ErrType w0
  step : w0.grownBy w none
  geg : w0.heap.size ≤ g
  geq : w0.heap.size ≤ q
  rdr : Rdr w g bs a 0
  ref : RefR w q bs a 0
section
variable {w0 w w1 w2 : World} {g q a b : Nat} {bs : List UInt8}
theorem DR.err (h : DR w0 w g q bs a) : ErrType w := h.err0.kept h.step (fun _ e => by cases e)
theorem DR.none_ (h : DR w0 w g q bs a) (hg : w.grownBy w1 none) : DR w0 w1 g q bs a := ⟨h.err0, only_trans h.step hg, h.geg, h.geq, h.rdr.kept hg, h.ref.kept hg (fun e => by cases e)⟩
theorem DR.step1 (h : DR w0 w g q bs a) (hg : w.grownBy w1 (some g)) : w0.grownBy w1 none := only_new h.step hg h.geg
theorem DR.ref1 (h : DR w0 w g q bs a) (hg : w.grownBy w1 (some g)) : RefR w1 q bs a 0 := by
  obtain ⟨cs, hb⟩ := h.ref.blk
  obtain ⟨cs2, hb2⟩ := h.rdr.blk
  exact h.ref.kept hg (fun e => Blk.ne_ hb hb2 (by decide) (by injection e))
theorem DR.move (h : DR w0 w g q bs a) (hg1 : w.grownBy w1 (some g)) (hr1 : Rdr w1 g bs b 0) (hg2 : w1.grownBy w2 (some q)) (hq2 : RefR w2 q bs b 0) : DR w0 w2 g q bs b := by
  obtain ⟨cq, hbq⟩ := (h.ref1 hg1).blk
  obtain ⟨cg, hbg⟩ := hr1.blk
  refine ⟨h.err0, only_new (h.step1 hg1) hg2 h.geq, h.geg, h.geq, hr1.grown hg2 (fun e => Blk.ne_ hbg hbq (by decide) (by injection e)) (fun k e => ?_), hq2⟩
  injection e with e
  subst e
  exact ⟨_, _, hbq, by decide⟩
theorem DR.flt (h : DR w0 w g q bs a) (hg1 : w.grownBy w1 (some g)) {fb : Nat} {c x : Int} (hf : Flt w1 fb c x) (hg2 : w1.grownBy w2 (some q)) : Flt w2 fb c x := by
  obtain ⟨cq, hbq⟩ := (h.ref1 hg1).blk
  exact Blk.grown hf hg2 (fun e => Blk.ne_ hf hbq (by decide) (by injection e))
end

/-- No number is read there: what both say. -/
structure Faults (bs : List UInt8) (a : Nat) (c p : Int) (b : Nat) : Prop where
  code : (c == 0) = false
  mine : ∀ w g, Rdr w g bs a 0 → Calls Tryd.prog 10 #[.pointer (some ⟨g, 0, none⟩)] w (FaultBeside .u64 fun fb w' => Flt w' fb c p ∧ w.grownBy w' (some g) ∧ Rdr w' g bs b 0)
  doc : ∀ w q, RefR w q bs a 0 → Calls Tryd.prog 11 #[.pointer (some ⟨q, 0, none⟩)] w (RefSays (.int .u64 0) c p q bs b 0 w)
/-- A number is read there. -/
structure Goods (bs : List UInt8) (a k n : Nat) : Prop where
  taken : Taken (bs.drop a) k
  good : ¬ Bad ((bs.drop a).take k)
  is : num ((bs.drop a).take k) = n
  doc : ∀ w q, RefR w q bs a 0 → Calls Tryd.prog 11 #[.pointer (some ⟨q, 0, none⟩)] w (RefSays (.int .u64 (n : Int)) 0 0 q bs (a + k) 0 w)
theorem Goods.lt {bs : List UInt8} {a k n : Nat} (h : Goods bs a k n) : n < 18446744073709551616 := by rw [← h.is]; exact (sev_of_taken h.taken h.good).2
theorem outcome (bs : List UInt8) (a : Nat) (ha : a ≤ bs.length) : (∃ c p b, Faults bs a c p b) ∨ (∃ k n, Goods bs a k n) := by
  rcases taken_or (bs.drop a) with hs | ⟨k, hk⟩
  · refine .inl ⟨3, ((0 : Nat) : Int) + (bs.length : Int), bs.length, rfl, fun w g h => ?_, fun w q h => ru_ends h hs ha⟩
    exact (u_ends h hs).mono fun _ _ ⟨fb, h1, h2, _, h4, h5⟩ => ⟨fb, h1, h2, h4, h5⟩
  · by_cases hb : Bad ((bs.drop a).take k)
    · refine .inl ⟨5, ((0 : Nat) : Int) + (a : Int), a + k, rfl, fun w g h => ?_, fun w q h => ?_⟩
      · exact (u_bad h k hk hb).mono fun _ _ ⟨fb, h1, h2, _, h4, h5⟩ => ⟨fb, h1, h2, h4, h5⟩
      · refine (ru_taken h k hk true (by simp [hb])).mono fun e w' ⟨h1, h2, h3⟩ => ⟨?_, h2, h3⟩
        rcases h1 with ⟨_, h1⟩ | ⟨h0, _⟩
        · exact h1
        · cases h0
    · refine .inr ⟨k, num ((bs.drop a).take k), hk, hb, rfl, fun w q h => ?_⟩
      refine (ru_taken h k hk false (by simp [hb])).mono fun e w' ⟨h1, h2, h3⟩ => ⟨?_, h2, h3⟩
      rcases h1 with ⟨h0, _⟩ | ⟨_, h1⟩
      · cases h0
      · exact h1
section
variable {w : World} {g q a : Nat} {bs : List UInt8}
theorem place_0 (h : Rdr w g bs a 0) : Calls Tryd.prog 17 #[.pointer (some ⟨g, 0, none⟩)] w fun e w' => e = .returned (.int .i64 (a : Int)) ∧ w.grownBy w' none := place_eq h
theorem rplace_0 (h : RefR w q bs a 0) : Calls Tryd.prog 18 #[.pointer (some ⟨q, 0, none⟩)] w fun e w' => e = .returned (.int .i64 (a : Int)) ∧ w.grownBy w' none :=
  (rplace_any h).mono fun _ _ ⟨h1, h2⟩ => ⟨by rw [h1]; congr 2; omega, h2⟩
theorem u_good {k n : Nat} (h : Rdr w g bs a 0) (G : Goods bs a k n) : Calls Tryd.prog 10 #[.pointer (some ⟨g, 0, none⟩)] w fun e w' => e = .returned (.tuple #[.int .u64 (n : Int), .nilIface]) ∧ w.grownBy w' (some g) ∧ Rdr w' g bs (a + k) 0 := by
  have := u_ok h k G.taken G.good
  rw [G.is] at this
  exact this
theorem s_good {k n : Nat} (h : Rdr w g bs a 0) (G : Goods bs a k n) : Calls Tryd.prog 13 #[.pointer (some ⟨g, 0, none⟩)] w fun e w' => e = .returned (.tuple #[.int .i64 (unfoldZ n), .nilIface]) ∧ w.grownBy w' (some g) ∧ Rdr w' g bs (a + k) 0 := by
  have := s_ok h k G.taken G.good
  rw [G.is] at this
  exact this
theorem small_good {k n : Nat} (h : Rdr w g bs a 0) (G : Goods bs a k n) (most : Int) (hw : Whole most) (hm : (n : Int) ≤ most) : Calls Tryd.prog 15 #[.pointer (some ⟨g, 0, none⟩), .int .i64 most] w fun e w' => e = .returned (.tuple #[.int .i64 (n : Int), .nilIface]) ∧ w.grownBy w' (some g) ∧ Rdr w' g bs (a + k) 0 := by
  have := small_ok h k G.taken G.good most hw (by rw [G.is]; exact hm)
  rw [G.is] at this
  exact this
theorem zero_cast (a : Nat) : ((0 : Nat) : Int) + (a : Int) = (a : Int) := by omega
theorem small_more {k n : Nat} (h : Rdr w g bs a 0) (G : Goods bs a k n) (most : Int) (hw : Whole most) (hm : most < (n : Int)) : Calls Tryd.prog 15 #[.pointer (some ⟨g, 0, none⟩), .int .i64 most] w (FaultBeside .i64 fun fb w' => Flt w' fb 4 (a : Int) ∧ w.grownBy w' (some g) ∧ Rdr w' g bs (a + k) 0) :=
  (small_long h k G.taken G.good most hw (by rw [G.is]; exact hm)).mono fun _ _ ⟨fb, h1, h2, _, h4, h5⟩ => ⟨fb, h1, by rw [zero_cast] at h2; exact h2, h4, h5⟩
theorem rsmall_more {k n : Nat} (h : RefR w q bs a 0) (G : Goods bs a k n) (most : Int) (hw : Whole most) (hm : most < (n : Int)) : Calls Tryd.prog 16 #[.pointer (some ⟨q, 0, none⟩), .int .i64 most] w (RefSays (.int .i64 0) 4 (a : Int) q bs (a + k) 0 w) := by
  have := rsmall_long h most n G.lt hw hm (fun W h => G.doc W q h)
  rw [zero_cast] at this
  exact this
end

theorem sm_mine {w w1 : World} {g a b : Nat} {bs : List UInt8} {c p : Int} (F : Faults bs a c p b) (h : Rdr w g bs a 0) (hg : w.grownBy w1 none) :
    Calls Tryd.prog 10 #[.pointer (some ⟨g, 0, none⟩)] w1 (FaultBeside .u64 fun fb w' => Flt w' fb c p ∧ w.grownBy w' (some g) ∧ Rdr w' g bs b 0) :=
  (F.mine w1 g (h.kept hg)).mono fun _ _ ⟨fb, h1, h2, h3, h4⟩ => ⟨fb, h1, h2, only_trans (only_weak hg _) h3, h4⟩
theorem DR.start {w w2 : World} {g : Nat} {s : ByteArray} (hE : ErrType w) (hf : w.heap.size ≤ g) (hg : w.grownBy w2 none) (hr : Rdr w2 g s.data.toList 0 0) (hs : s.size ≤ 400) :
    DR w (w2.alloc (.cells #[.string s, .int .i64 0, .int .i64 0] 27)) g w2.heap.size s.data.toList 0 := by
  have h1 : w2.grownBy (w2.alloc (.cells #[.string s, .int .i64 0, .int .i64 0] 27)) none := only_alloc (only_refl _ _) _
  exact ⟨hE, only_trans hg h1, hf, hg.size, hr.kept h1, RefR.new s w2 0 (by omega)⟩

set_option maxRecDepth 100000 in
set_option maxHeartbeats 20000000 in
theorem lreads_any (s : ByteArray) (A : Option Addr) (n c : Nat) (w : World) (hE : ErrType w) (hz : Asks w A n) :
    Calls Tryd.prog 3 #[.string s, .slice A n c] w fun e w' => e = .returned (.bool true) ∧ w.grownBy w' none := by
  have HZ := Lib.hid hz
  clear hz
  go_enter Tryd.func3, Tryd.ntmps3
  go_upto_region 1 with fail
  go_cut [0] (fun s0 wx => ∃ s' : ByteArray, s0 = .string s' ∧ s'.size ≤ 400 ∧ w = wx)
  case first =>
    go_wp2_with fail
    all_goals go_meet
    · exact ⟨_, rfl, by rw [ByteArray.size_extract]; omega, rfl⟩
    · exact ⟨_, rfl, by omega, rfl⟩
  case rest =>
    obtain ⟨s', rfl, hs', rfl⟩ := hcut
    go_wp2_with fail
    refine (newReader_any s' _ (by omega)).mono ?_
    rintro e w2 ⟨g, rfl, hf, hg, hr⟩
    have D0 := DR.start hE hf hg hr hs'
    clear hE hf hg hr
    go_wp2_with fail
    generalize s'.data.toList = bs at *
    go_loopw [7] (fun vi wr => ∃ (k a : Nat), vi = .int .i64 (k : Int) ∧ k ≤ 50 ∧ DR w wr g w2.heap.size bs a) (fun vi _ => 50 - (intOf vi).toNat)
    case atStart => exact ⟨0, 0, rfl, by omega, D0⟩
    case round =>
      obtain ⟨k, a, rfl, hk, D⟩ := hrel
      clear D0
      generalize w2.heap.size = q at *
      by_cases hlt : k < n ∧ k < 50
      · obtain ⟨hkn, hk50⟩ := hlt
        obtain ⟨b, off, z, N, rfl, hz, hbl, hN1, hN2, hc1, hc2⟩ := HZ.out k hkn
        have c1 : wr.cell? ⟨b, off + k * 2, none⟩ = some (.int .u8 (z : Int)) := (World.cell?_of_block (D.step.block b hbl (fun e => by cases e))).trans hc1
        clear hc1
        have t1 : decide (k < n) = true := by simpa using hkn
        have t2 : decide ((k : Int) < 50) = true := by simp; omega
        have hkn' : (k : Int) < (n : Int) := by omega
        go_upto_block 2 with fail
        have HC : Hid (∀ v, w.grownBy v none → v.cell? ⟨b, off + k * 2 + 1, none⟩ = some (.int .i64 N)) := fun v hv => (World.cell?_of_block (hv.block b hbl (fun e => by cases e))).trans (by rw [Nat.add_assoc]; exact hc2)
        have hW := Lib.hid (show Whole N from ⟨hN1, hN2⟩)
        clear hc2 c1 hN1 hN2
        go_cut [8] (fun v wx => v = .bool true ∧ ∃ a', DR w wx g q bs a')
        case first =>
          have hz3 : z % 3 = 0 ∨ z % 3 = 1 ∨ z % 3 = 2 := by omega
          have hk2 : (0 : Int) ≤ (z : Int) % 3 := by omega
          have hout := outcome bs a D.rdr.le
          rcases hz3 with hm | hm | hm
          · have t5 : ((z : Int) % 3 == 0) = true := by simp; omega
            rcases hout with ⟨cd, pp, bb, F⟩ | ⟨kk, nn, G⟩
            · have HCD := Lib.hid F.code
              go_wp2_with fail
              refine (F.mine _ _ D.rdr).mono ?_
              rintro e w4 ⟨fb, rfl, hf4, hg4, hr4⟩
              go_wp2_with fail
              refine (F.doc _ _ (D.ref1 hg4)).mono ?_
              rintro e w5 ⟨rfl, hg5, hq5⟩
              have D2 := D.move hg4 hr4 hg5 hq5
              have hf5 := D.flt hg4 hf4 hg5
              clear hg4 hr4 hg5 hq5 hf4
              go_wp2_with fail
              refine (told_hit fb _ _ _ (D2.none_ (only_alloc (only_refl _ none) _)).err (Blk.alloc hf5 _) HCD.out).mono ?_
              rintro e w6 ⟨rfl, hg6⟩
              have D3 := (D2.none_ (only_alloc (only_refl _ none) _)).none_ hg6
              clear hg6 D2 hf5
              go_wp2_with fail
              go_meet
              exact ⟨rfl, _, D3⟩
            · go_wp2_with fail
              refine (u_good D.rdr G).mono ?_
              rintro e w4 ⟨rfl, hg4, hr4⟩
              go_wp2_with fail
              refine (G.doc _ _ (D.ref1 hg4)).mono ?_
              rintro e w5 ⟨rfl, hg5, hq5⟩
              have D2 := D.move hg4 hr4 hg5 hq5
              clear hg4 hr4 hg5 hq5
              go_wp2_with fail
              refine (told_nil 0 _).mono ?_
              rintro e w6 ⟨rfl, hg6⟩
              have D3 := (D2.none_ (only_alloc (only_refl _ none) _)).none_ hg6
              clear hg6 D2
              go_wp2_with fail
              go_meet
              exact ⟨rfl, _, D3⟩
          · have t5 : ((z : Int) % 3 == 0) = false := by simp; omega
            have t6 : ((z : Int) % 3 == 1) = true := by simp; omega
            rcases hout with ⟨cd, pp, bb, F⟩ | ⟨kk, nn, G⟩
            · have HCD := Lib.hid F.code
              go_wp2_with fail
              refine (s_fault (F.mine _ _ D.rdr)).mono ?_
              rintro e w4 ⟨fb, rfl, hf4, hg4, hr4⟩
              go_wp2_with fail
              refine (rs_fault (D.ref1 hg4) _ _ HCD.out (fun W h => F.doc W _ h)).mono ?_
              rintro e w5 ⟨rfl, hg5, hq5⟩
              have D2 := D.move hg4 hr4 hg5 hq5
              have hf5 := D.flt hg4 hf4 hg5
              clear hg4 hr4 hg5 hq5 hf4
              go_wp2_with fail
              refine (told_hit fb _ _ _ (D2.none_ (only_alloc (only_refl _ none) _)).err (Blk.alloc hf5 _) HCD.out).mono ?_
              rintro e w6 ⟨rfl, hg6⟩
              have D3 := (D2.none_ (only_alloc (only_refl _ none) _)).none_ hg6
              clear hg6 D2 hf5
              go_wp2_with fail
              go_meet
              exact ⟨rfl, _, D3⟩
            · go_wp2_with fail
              refine (s_good D.rdr G).mono ?_
              rintro e w4 ⟨rfl, hg4, hr4⟩
              go_wp2_with fail
              refine (rs_ok (D.ref1 hg4) nn G.lt (fun W h => G.doc W _ h)).mono ?_
              rintro e w5 ⟨rfl, hg5, hq5⟩
              have D2 := D.move hg4 hr4 hg5 hq5
              clear hg4 hr4 hg5 hq5
              go_wp2_with fail
              refine (told_nil 0 _).mono ?_
              rintro e w6 ⟨rfl, hg6⟩
              have D3 := (D2.none_ (only_alloc (only_refl _ none) _)).none_ hg6
              clear hg6 D2
              go_wp2_with fail
              go_meet
              exact ⟨rfl, _, D3⟩
          · have t5 : ((z : Int) % 3 == 0) = false := by simp; omega
            have t6 : ((z : Int) % 3 == 1) = false := by simp; omega
            rcases hout with ⟨cd, pp, bb, F⟩ | ⟨kk, nn, G⟩
            · have HCD := Lib.hid F.code
              have c3 := HC.out _ D.step
              go_wp2_with fail
              refine (small_fault (place_0 D.rdr) (fun W h => sm_mine F D.rdr h)).mono ?_
              rintro e w4 ⟨fb, rfl, hf4, hg4, hr4⟩
              have c4 := HC.out _ (D.step1 hg4)
              go_wp2_with fail
              refine (rsmall_fault (D.ref1 hg4) N _ _ HCD.out (fun W h => F.doc W _ h)).mono ?_
              rintro e w5 ⟨rfl, hg5, hq5⟩
              have D2 := D.move hg4 hr4 hg5 hq5
              have hf5 := D.flt hg4 hf4 hg5
              clear hg4 hr4 hg5 hq5 hf4
              clear c3 c4
              go_wp2_with fail
              refine (told_hit fb _ _ _ (D2.none_ (only_alloc (only_refl _ none) _)).err (Blk.alloc hf5 _) HCD.out).mono ?_
              rintro e w6 ⟨rfl, hg6⟩
              have D3 := (D2.none_ (only_alloc (only_refl _ none) _)).none_ hg6
              clear hg6 D2 hf5
              go_wp2_with fail
              go_meet
              exact ⟨rfl, _, D3⟩
            · by_cases hmost : (nn : Int) ≤ N
              · have HM := Lib.hid hmost
                clear hmost
                have c3 := HC.out _ D.step
                go_wp2_with fail
                refine (small_good D.rdr G N hW.out HM.out).mono ?_
                rintro e w4 ⟨rfl, hg4, hr4⟩
                have c4 := HC.out _ (D.step1 hg4)
                go_wp2_with fail
                refine (rsmall_ok (D.ref1 hg4) N nn hW.out HM.out (fun W h => G.doc W _ h)).mono ?_
                rintro e w5 ⟨rfl, hg5, hq5⟩
                have D2 := D.move hg4 hr4 hg5 hq5
                clear hg4 hr4 hg5 hq5
                clear c3 c4
                go_wp2_with fail
                refine (told_nil 0 _).mono ?_
                rintro e w6 ⟨rfl, hg6⟩
                have D3 := (D2.none_ (only_alloc (only_refl _ none) _)).none_ hg6
                clear hg6 D2
                go_wp2_with fail
                go_meet
                exact ⟨rfl, _, D3⟩
              · have HM := Lib.hid (show N < (nn : Int) by omega)
                clear hmost
                have HCD : Hid (((4 : Int) == 0) = false) := rfl
                have c3 := HC.out _ D.step
                go_wp2_with fail
                refine (small_more D.rdr G N hW.out HM.out).mono ?_
                rintro e w4 ⟨fb, rfl, hf4, hg4, hr4⟩
                have c4 := HC.out _ (D.step1 hg4)
                go_wp2_with fail
                refine (rsmall_more (D.ref1 hg4) G N hW.out HM.out).mono ?_
                rintro e w5 ⟨rfl, hg5, hq5⟩
                have D2 := D.move hg4 hr4 hg5 hq5
                have hf5 := D.flt hg4 hf4 hg5
                clear hg4 hr4 hg5 hq5 hf4
                clear c3 c4
                go_wp2_with fail
                refine (told_hit fb _ _ _ (D2.none_ (only_alloc (only_refl _ none) _)).err (Blk.alloc hf5 _) HCD.out).mono ?_
                rintro e w6 ⟨rfl, hg6⟩
                have D3 := (D2.none_ (only_alloc (only_refl _ none) _)).none_ hg6
                clear hg6 D2 hf5
                go_wp2_with fail
                go_meet
                exact ⟨rfl, _, D3⟩
        case rest =>
          obtain ⟨rfl, a2, D5⟩ := hcut
          clear D HC hW
          go_wp2_with fail
          refine (place_0 D5.rdr).mono ?_
          rintro e v1 ⟨rfl, hv1⟩
          have D6 := D5.none_ hv1
          clear D5 hv1
          go_wp2_with fail
          refine (rplace_0 D6.ref).mono ?_
          rintro e v2 ⟨rfl, hv2⟩
          have D7 := D6.none_ hv2
          clear D6 hv2
          go_wp2_with fail
          go_roundw
          case rel => exact ⟨k + 1, a2, by go_num, by omega, D7⟩
          case measure => simp [intOf]; omega
      · have hcase : (decide (k < n) = true ∧ decide ((k : Int) < 50) = false) ∨ decide (k < n) = false := by
          by_cases hkn : k < n
          · exact .inl ⟨by simpa using hkn, by simp; omega⟩
          · exact .inr (by simpa using hkn)
        rcases hcase with ⟨t1, t2⟩ | t1
        all_goals
          go_wp2_with fail
          refine (works_any _ D.err).mono ?_
          rintro e v1 ⟨rfl, hv1⟩
          have D2 := D.none_ hv1
          go_wp2_with fail
          go_ret
          exact ⟨rfl, D2.step⟩
end Go.Proofs.YtcpcmappnkoldaaDoor

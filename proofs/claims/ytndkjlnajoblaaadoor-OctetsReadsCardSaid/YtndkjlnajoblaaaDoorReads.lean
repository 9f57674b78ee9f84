/- OctetsReads: whatever is asked of readers and their parts, the call returns true, and turns nothing that was there. -/
import Derived.Test.YtndkjlnajoblaaaDoorRefD
import Derived.LoopTactic
import Derived.Deep.LoopGhost
import Derived.Deep.DeepCutAuto
import Derived.Deep.CutBlock
namespace Go.Proofs.YtndkjlnajoblaaaDoor
open Go.RowKit

theorem T.init {w w3 : World} {g1 g2 : Nat} {s : ByteArray} (err0 : ErrType w) (S : St w w3 [⟨g2, s.data.toList, 0, 0⟩, ⟨g1, s.data.toList, 0, 0⟩] []) (hs : s.size ≤ 1000) :
    T w ((w3.alloc (.cells #[.string s, .int .i64 0, .int .i64 0] 27)).alloc (.cells #[.string s, .int .i64 0, .int .i64 0] 27)) ⟨g1, w3.heap.size, s.data.toList, 0, 0⟩ [⟨g2, w3.heap.size + 1, s.data.toList, 0, 0⟩] := by
  have r2 := (S.rdr _ List.mem_cons_self)
  have r1 := (S.rdr _ (List.mem_cons_of_mem _ List.mem_cons_self))
  have hne : g2 ≠ g1 := by
    have := S.apart
    simpa using this
  have n1 := RefR.new s w3 0 (by omega)
  have n2 := RefR.new s (w3.alloc (.cells #[.string s, .int .i64 0, .int .i64 0] 27)) 0 (by omega)
  have hz : (w3.alloc (.cells #[.string s, .int .i64 0, .int .i64 0] 27)).heap.size = w3.heap.size + 1 := by simp
  rw [hz] at n2
  have k1 : w3.grownBy (w3.alloc (.cells #[.string s, .int .i64 0, .int .i64 0] 27)) none := only_alloc (only_refl _ _) _
  have k2 : (w3.alloc (.cells #[.string s, .int .i64 0, .int .i64 0] 27)).grownBy ((w3.alloc (.cells #[.string s, .int .i64 0, .int .i64 0] 27)).alloc (.cells #[.string s, .int .i64 0, .int .i64 0] 27)) none := only_alloc (only_refl _ _) _
  have hsz := S.step.size
  refine ⟨err0, only_trans (only_trans S.step k1) k2, fun x hx => ?_, fun x hx y hy he => ?_, fun y hy => ?_⟩
  · rcases List.mem_cons.1 hx with rfl | hx
    · exact ⟨r1.1, hsz, (r1.2.kept k1).kept k2, RefR.kept n1 k2 (fun e => by cases e)⟩
    · rw [List.mem_singleton.1 hx]
      exact ⟨r2.1, Nat.le_succ_of_le hsz, (r2.2.kept k1).kept k2, n2⟩
  · simp only [List.mem_cons, List.not_mem_nil, or_false] at hx hy
    rcases hx with rfl | rfl <;> rcases hy with rfl | rfl
    · rfl
    · simp at he; omega
    · simp at he; omega
    · rfl
  · rw [List.mem_singleton.1 hy]
    exact ⟨hne, by simp⟩

theorem T.step1 {w0 w w1 : World} {X : PD} {rest : List PD} (h : T w0 w X rest) (hg : w.grownBy w1 (some X.g)) : w0.grownBy w1 none := only_new h.step hg (h.all X List.mem_cons_self).1
theorem has_newest {X : PD} {rest : List PD} (N : PD) {g q : Nat} (h1 : N.g = g) (h2 : N.q = q) : Has (X :: N :: rest) g q := ⟨N, List.mem_cons_of_mem _ List.mem_cons_self, h1, h2⟩

/-- The calls, as the argument holds them. -/
def Asks (w : World) (A : Option Addr) (n : Nat) : Prop := ∀ k, k < n → ∃ (b off z : Nat) (N : Int), A = some ⟨b, off, none⟩ ∧ z ≤ 255 ∧ b < w.heap.size ∧ -9223372036854775808 ≤ N ∧ N ≤ 9223372036854775807 ∧
  w.cell? ⟨b, off + k * 2, none⟩ = some (.int .u8 (z : Int)) ∧ w.cell? ⟨b, off + (k * 2 + 1), none⟩ = some (.int .i64 N)

/-- What holds of the readers at hand. -/
def RR (w0 : World) (g1 q1 : Nat) (vl vp vr vq : Value) (wr : World) : Prop :=
  ∃ (X : PD) (rest : List PD) (gl ql : Nat), vl = .pointer (some ⟨gl, 0, none⟩) ∧ vp = .pointer (some ⟨ql, 0, none⟩) ∧ vr = .pointer (some ⟨X.g, 0, none⟩) ∧ vq = .pointer (some ⟨X.q, 0, none⟩) ∧
    T w0 wr X rest ∧ Has (X :: rest) g1 q1 ∧ Has (X :: rest) gl ql
def RRel (w0 : World) (g1 q1 : Nat) (vl vp vr vq vi : Value) (wr : World) : Prop := ∃ k : Nat, vi = .int .i64 (k : Int) ∧ k ≤ 60 ∧ RR w0 g1 q1 vl vp vr vq wr

set_option maxRecDepth 100000 in
set_option maxHeartbeats 20000000 in
theorem reads_any (s : ByteArray) (A : Option Addr) (n c : Nat) (w : World) (hE : ErrType w) (hz : Asks w A n) :
    Calls Tryd.prog 3 #[.string s, .slice A n c] w fun e w' => e = .returned (.bool true) ∧ w.grownBy w' none := by
  have HZ := Lib.hid hz
  clear hz
  go_enter Tryd.func3, Tryd.ntmps3
  go_upto_region 1 with fail
  go_cut [0] (fun s0 wx => ∃ s' : ByteArray, s0 = .string s' ∧ s'.size ≤ 1000 ∧ w = wx)
  case first =>
    go_wp2_with fail
    all_goals go_meet
    · exact ⟨_, rfl, by rw [ByteArray.size_extract]; omega, rfl⟩
    · exact ⟨_, rfl, by omega, rfl⟩
  case rest =>
    obtain ⟨s', rfl, hs', rfl⟩ := hcut
    have hb : s'.size ≤ 4611686018427387904 := by omega
    go_wp2_with fail
    refine (newReader_any s' _ hb).mono ?_
    rintro e w2 ⟨g1, rfl, hf, hs, hr⟩
    have S1 := (St.start hE).new hf hs hr
    clear hf hs hr
    go_wp2_with fail
    refine (newReader_any s' _ hb).mono ?_
    rintro e w3 ⟨g2, rfl, hf, hs, hr⟩
    have S2 := S1.new hf hs hr
    clear hf hs hr S1 hb
    have T0 := T.init hE S2 hs'
    clear S2
    go_wp2_with fail
    go_loopw [6, 8, 9, 10, 11] (fun vl vp vr vq vi wr => RRel w g1 w3.heap.size vl vp vr vq vi wr) (fun _ _ _ _ vi _ => 60 - (intOf vi).toNat)
    case atStart => exact ⟨0, rfl, by omega, ⟨g1, w3.heap.size, s'.data.toList, 0, 0⟩, [⟨g2, w3.heap.size + 1, s'.data.toList, 0, 0⟩], g2, w3.heap.size + 1, rfl, rfl, rfl, rfl, T0, ⟨_, List.mem_cons_self, rfl, rfl⟩, Has.newest⟩
    case round =>
      obtain ⟨k, rfl, hk, X, rest, gl, ql, rfl, rfl, rfl, rfl, T1, hF, hL⟩ := hrel
      clear T0 hE
      generalize w3.heap.size = q1 at *
      by_cases hlt : k < n ∧ k < 60
      · obtain ⟨hkn, hk60⟩ := hlt
        obtain ⟨b, off, z, N, rfl, hz, hbl, hN1, hN2, hc1, hc2⟩ := HZ.out k hkn
        have c1 : wr.cell? ⟨b, off + k * 2, none⟩ = some (.int .u8 (z : Int)) := (World.cell?_of_block (T1.step.block b hbl (fun e => by cases e))).trans hc1
        clear hc1
        have t1 : decide (k < n) = true := by simpa using hkn
        have t2 : decide ((k : Int) < 60) = true := by simp; omega
        have hkn' : (k : Int) < (n : Int) := by omega
        go_upto_block 2 with fail
        have HC : Hid (∀ v, w.grownBy v none → v.cell? ⟨b, off + k * 2 + 1, none⟩ = some (.int .i64 N)) := fun v hv => (World.cell?_of_block (hv.block b hbl (fun e => by cases e))).trans (by rw [Nat.add_assoc]; exact hc2)
        clear hc2 c1
        go_cut [6, 8, 9, 10] (fun vl vp vr vq wx => RR w g1 q1 vl vp vr vq wx)
        case first =>
          have hz5 : z % 5 = 0 ∨ z % 5 = 1 ∨ z % 5 = 2 ∨ z % 5 = 3 ∨ z % 5 = 4 := by omega
          have hk2 : (0 : Int) ≤ (z : Int) % 5 := by omega
          rcases hz5 with hm | hm | hm | hm | hm
          · have t5 : ((z : Int) % 5 == 0) = true := by simp; omega
            by_cases ha : X.a < X.bs.length
            · have hu : X.bs[X.a]? = some (X.bs[X.a]'ha) := List.getElem?_eq_getElem ha
              generalize (X.bs[X.a]'ha) = u at *
              go_wp2_with fail
              refine (byte_ok T1.rdr u hu).mono ?_
              rintro e w4 ⟨rfl, hg4, hr4⟩
              go_wp2_with fail
              refine (rbyte_ok (T1.ref1 hg4) u hu).mono ?_
              rintro e w5 ⟨rfl, hg5, hq5⟩
              have T2 := T1.move hg4 hr4 hg5 hq5
              clear hg4 hr4 hg5 hq5
              go_wp2_with fail
              refine (told_nil 0 _).mono ?_
              rintro e w6 ⟨rfl, hg6⟩
              have T3 := (T2.kept (only_alloc (only_refl _ none) _)).kept hg6
              clear hg6 T2
              go_wp2_with fail
              go_meet
              exact ⟨⟨X.g, X.q, X.bs, X.a + 1, X.bg⟩, rest, gl, ql, rfl, rfl, rfl, rfl, T3, hF.upd, hL.upd⟩
            · have ha2 : X.a = X.bs.length := by have := T1.rdr.le; omega
              have HA := Lib.hid ha2
              clear ha2
              go_wp2_with fail
              refine (byte_short T1.rdr HA.out).mono ?_
              rintro e w4 ⟨fb, rfl, hf4, _, hg4⟩
              have T2 := T1.kept hg4
              clear hg4
              go_wp2_with fail
              refine (rbyte_short T2.ref HA.out).mono ?_
              rintro e w5 ⟨rfl, hg5⟩
              have T3 := T2.kept hg5
              have hf5 := Blk.kept hf4 hg5
              clear hg5 hf4 T2
              go_wp2_with fail
              refine (told_hit fb 3 _ _ (T3.kept (only_alloc (only_refl _ none) _)).err (Blk.alloc hf5 _) rfl).mono ?_
              rintro e w6 ⟨rfl, hg6⟩
              have T4 := (T3.kept (only_alloc (only_refl _ none) _)).kept hg6
              clear hg6 T3
              go_wp2_with fail
              go_meet
              exact ⟨X, rest, gl, ql, rfl, rfl, rfl, rfl, T4, hF, hL⟩
          · have t5 : ((z : Int) % 5 == 0) = false := by simp; omega
            have t6 : ((z : Int) % 5 == 1) = true := by simp; omega
            have c3 := HC.out _ T1.step
            by_cases hneg : N < 0
            · have HN := Lib.hid hneg
              clear hneg
              go_wp2_with fail
              refine (take_neg T1.rdr N HN.out).mono ?_
              rintro e w4 ⟨fb, rfl, hf4, _, hg4⟩
              have T2 := T1.kept hg4
              have c4 := HC.out _ T2.step
              clear hg4
              go_wp2_with fail
              refine (rtake_neg T2.ref N HN.out).mono ?_
              rintro e w5 ⟨rfl, hg5⟩
              have T3 := T2.kept hg5
              have hf5 := Blk.kept hf4 hg5
              clear hg5 hf4 T2 c4
              go_wp2_with fail
              refine (told_hit fb 2 _ _ (T3.kept (only_alloc (only_refl _ none) _)).err (Blk.alloc hf5 _) rfl).mono ?_
              rintro e w6 ⟨rfl, hg6⟩
              have T4 := (T3.kept (only_alloc (only_refl _ none) _)).kept hg6
              clear hg6 T3
              go_wp2_with fail
              go_meet
              exact ⟨X, rest, gl, ql, rfl, rfl, rfl, rfl, T4, hF, hL⟩
            by_cases hsh : (X.bs.length : Int) - (X.a : Int) < N
            · have HN := Lib.hid hsh
              clear hsh
              go_wp2_with fail
              refine (take_short T1.rdr N HN.out).mono ?_
              rintro e w4 ⟨fb, rfl, hf4, _, hg4⟩
              have T2 := T1.kept hg4
              have c4 := HC.out _ T2.step
              clear hg4
              go_wp2_with fail
              refine (rtake_short T2.ref N HN.out).mono ?_
              rintro e w5 ⟨rfl, hg5⟩
              have T3 := T2.kept hg5
              have hf5 := Blk.kept hf4 hg5
              clear hg5 hf4 T2 c4
              go_wp2_with fail
              refine (told_hit fb 3 _ _ (T3.kept (only_alloc (only_refl _ none) _)).err (Blk.alloc hf5 _) rfl).mono ?_
              rintro e w6 ⟨rfl, hg6⟩
              have T4 := (T3.kept (only_alloc (only_refl _ none) _)).kept hg6
              clear hg6 T3
              go_wp2_with fail
              go_meet
              exact ⟨X, rest, gl, ql, rfl, rfl, rfl, rfl, T4, hF, hL⟩
            · obtain ⟨m, rfl⟩ : ∃ m : Nat, N = (m : Int) := ⟨N.toNat, by omega⟩
              have hm2 : X.a + m ≤ X.bs.length := by omega
              have HM := Lib.hid hm2
              clear hm2 hsh
              go_wp2_with fail
              refine (take_ok T1.rdr m HM.out).mono ?_
              rintro e w4 ⟨rfl, hg4, hr4⟩
              have c4 := HC.out _ (T1.step1 hg4)
              go_wp2_with fail
              refine (rtake_ok (T1.ref1 hg4) m HM.out).mono ?_
              rintro e w5 ⟨rfl, hg5, hq5⟩
              have T2 := T1.move hg4 hr4 hg5 hq5
              clear hg4 hr4 hg5 hq5 c3 c4
              generalize (⟨((X.bs.drop X.a).take m).toArray⟩ : ByteArray) = str at *
              go_wp2_with fail
              refine (told_nil 0 _).mono ?_
              rintro e w6 ⟨rfl, hg6⟩
              have T3 := (T2.kept (only_alloc (only_refl _ none) _)).kept hg6
              clear hg6 T2
              go_wp2_with fail
              go_meet
              exact ⟨⟨X.g, X.q, X.bs, X.a + m, X.bg⟩, rest, gl, ql, rfl, rfl, rfl, rfl, T3, hF.upd, hL.upd⟩
          · have t5 : ((z : Int) % 5 == 0) = false := by simp; omega
            have t6 : ((z : Int) % 5 == 1) = false := by simp; omega
            have t7 : ((z : Int) % 5 == 2) = true := by simp; omega
            have c3 := HC.out _ T1.step
            by_cases hneg : N < 0
            · have HN := Lib.hid hneg
              clear hneg
              go_wp2_with fail
              refine (part_neg T1.rdr N HN.out).mono ?_
              rintro e w4 ⟨fb, rfl, hf4, _, hg4⟩
              have T2 := T1.kept hg4
              have c4 := HC.out _ T2.step
              clear hg4
              go_wp2_with fail
              refine (rpart_neg T2.ref N HN.out).mono ?_
              rintro e w5 ⟨rfl, hg5⟩
              have T3 := T2.kept hg5
              have hf5 := Blk.kept hf4 hg5
              clear hg5 hf4 T2 c4
              go_wp2_with fail
              refine (told_hit fb 2 _ _ (T3.kept (only_alloc (only_refl _ none) _)).err (Blk.alloc hf5 _) rfl).mono ?_
              rintro e w6 ⟨rfl, hg6⟩
              have T4 := (T3.kept (only_alloc (only_refl _ none) _)).kept hg6
              clear hg6 T3
              go_wp2_with fail
              go_meet
              exact ⟨X, rest, gl, ql, rfl, rfl, rfl, rfl, T4, hF, hL⟩
            by_cases hsh : (X.bs.length : Int) - (X.a : Int) < N
            · have HN := Lib.hid hsh
              clear hsh
              go_wp2_with fail
              refine (part_short T1.rdr N HN.out).mono ?_
              rintro e w4 ⟨fb, rfl, hf4, _, hg4⟩
              have T2 := T1.kept hg4
              have c4 := HC.out _ T2.step
              clear hg4
              go_wp2_with fail
              refine (rpart_short T2.ref N HN.out).mono ?_
              rintro e w5 ⟨rfl, hg5⟩
              have T3 := T2.kept hg5
              have hf5 := Blk.kept hf4 hg5
              clear hg5 hf4 T2 c4
              go_wp2_with fail
              refine (told_hit fb 3 _ _ (T3.kept (only_alloc (only_refl _ none) _)).err (Blk.alloc hf5 _) rfl).mono ?_
              rintro e w6 ⟨rfl, hg6⟩
              have T4 := (T3.kept (only_alloc (only_refl _ none) _)).kept hg6
              clear hg6 T3
              go_wp2_with fail
              go_meet
              exact ⟨X, rest, gl, ql, rfl, rfl, rfl, rfl, T4, hF, hL⟩
            · obtain ⟨m, rfl⟩ : ∃ m : Nat, N = (m : Int) := ⟨N.toNat, by omega⟩
              have hm2 : X.a + m ≤ X.bs.length := by omega
              have HM := Lib.hid hm2
              clear hm2 hsh
              go_wp2_with fail
              refine (part_ok T1.rdr m HM.out).mono ?_
              rintro e w4 ⟨p, rfl, hp4, hg4, hr4, hn4⟩
              have c4 := HC.out _ (T1.step1 hg4)
              go_wp2_with fail
              refine (rpart_ok (T1.ref1 hg4) m HM.out).mono ?_
              rintro e w5 ⟨pq, rfl, hp5, hg5, hq5, hn5⟩
              have T2 := T1.grow hp4 hg4 hr4 hn4 hp5 hg5 hq5 hn5
              clear hg4 hr4 hg5 hq5 c3 c4 hn4 hn5 hp4 hp5
              go_wp2_with fail
              refine (told_nil 0 _).mono ?_
              rintro e w6 ⟨rfl, hg6⟩
              have T3 := (T2.kept (only_alloc (only_refl _ none) _)).kept hg6
              clear hg6 T2
              go_wp2_with fail
              go_meet
              exact ⟨⟨X.g, X.q, X.bs, X.a + m, X.bg⟩, ⟨p, pq, (X.bs.drop X.a).take m, 0, X.bg + X.a⟩ :: rest, p, pq, rfl, rfl, rfl, rfl, T3, hF.upd.more, Has.newest⟩
          · have t5 : ((z : Int) % 5 == 0) = false := by simp; omega
            have t6 : ((z : Int) % 5 == 1) = false := by simp; omega
            have t7 : ((z : Int) % 5 == 2) = false := by simp; omega
            have t8 : ((z : Int) % 5 == 3) = true := by simp; omega
            obtain ⟨Y, hY, hY1, hY2⟩ := id hL
            have T2 := T1.select hY
            have hF2 : Has (Y :: (X :: rest).filter fun y => decide (y.g ≠ Y.g)) g1 q1 := by
              obtain ⟨x, hx, h1, h2⟩ := hF
              exact ⟨x, T1.mem_select hY hx, h1, h2⟩
            have hL2 : Has (Y :: (X :: rest).filter fun y => decide (y.g ≠ Y.g)) gl ql := by
              obtain ⟨x, hx, h1, h2⟩ := hL
              exact ⟨x, T1.mem_select hY hx, h1, h2⟩
            generalize (X :: rest).filter (fun y => decide (y.g ≠ Y.g)) = rest2 at *
            go_wp2_with fail
            go_meet
            exact ⟨Y, rest2, gl, ql, rfl, rfl, by rw [hY1], by rw [hY2], T2, hF2, hL2⟩
          · have t5 : ((z : Int) % 5 == 0) = false := by simp; omega
            have t6 : ((z : Int) % 5 == 1) = false := by simp; omega
            have t7 : ((z : Int) % 5 == 2) = false := by simp; omega
            have t8 : ((z : Int) % 5 == 3) = false := by simp; omega
            obtain ⟨Y, hY, hY1, hY2⟩ := id hF
            have T2 := T1.select hY
            have hF2 : Has (Y :: (X :: rest).filter fun y => decide (y.g ≠ Y.g)) g1 q1 := by
              obtain ⟨x, hx, h1, h2⟩ := hF
              exact ⟨x, T1.mem_select hY hx, h1, h2⟩
            have hL2 : Has (Y :: (X :: rest).filter fun y => decide (y.g ≠ Y.g)) gl ql := by
              obtain ⟨x, hx, h1, h2⟩ := hL
              exact ⟨x, T1.mem_select hY hx, h1, h2⟩
            generalize (X :: rest).filter (fun y => decide (y.g ≠ Y.g)) = rest2 at *
            go_wp2_with fail
            go_meet
            exact ⟨Y, rest2, gl, ql, rfl, rfl, by rw [hY1], by rw [hY2], T2, hF2, hL2⟩
        case rest =>
          obtain ⟨X2, rest2, gl2, ql2, rfl, rfl, rfl, rfl, T5, hF5, hL5⟩ := hcut
          clear T1 hF hL HC
          go_wp2_with fail
          refine (place_step T5.rdr).mono ?_
          rintro e v1 ⟨rfl, hv1⟩
          have T6 := T5.kept hv1
          clear T5 hv1
          go_wp2_with fail
          refine (rplace_any T6.ref).mono ?_
          rintro e v2 ⟨rfl, hv2⟩
          have T7 := T6.kept hv2
          clear T6 hv2
          go_wp2_with fail
          refine (left_step T7.rdr).mono ?_
          rintro e v3 ⟨rfl, hv3⟩
          have T8 := T7.kept hv3
          clear T7 hv3
          go_wp2_with fail
          refine (rleft_any T8.ref).mono ?_
          rintro e v4 ⟨rfl, hv4⟩
          have T9 := T8.kept hv4
          clear T8 hv4
          by_cases ha : X2.a < X2.bs.length
          · have HA := Lib.hid ha
            clear ha
            go_wp2_with fail
            refine (end_long T9.rdr HA.out).mono ?_
            rintro e v5 ⟨fb, rfl, hf5, _, hv5⟩
            have T10 := T9.kept hv5
            clear T9 hv5
            go_wp2_with fail
            refine (rend_long T10.ref HA.out).mono ?_
            rintro e v6 ⟨rfl, hv6⟩
            have T11 := T10.kept hv6
            have hf6 := Blk.kept hf5 hv6
            clear T10 hv6 hf5
            go_wp2_with fail
            refine (told_hit fb 4 _ _ T11.err hf6 rfl).mono ?_
            rintro e v7 ⟨rfl, hv7⟩
            have T12 := T11.kept hv7
            clear T11 hv7 hf6
            go_wp2_with fail
            go_roundw
            case rel => exact ⟨k + 1, by go_num, by omega, X2, rest2, gl2, ql2, rfl, rfl, rfl, rfl, T12, hF5, hL5⟩
            case measure => simp [intOf]; omega
          · have ha2 : X2.a = X2.bs.length := by have := T9.rdr.le; omega
            have HA := Lib.hid ha2
            clear ha2
            go_wp2_with fail
            refine (end_ok T9.rdr HA.out).mono ?_
            rintro e v5 ⟨rfl, hv5⟩
            have T10 := T9.kept hv5
            clear T9 hv5
            go_wp2_with fail
            refine (rend_ok T10.ref HA.out).mono ?_
            rintro e v6 ⟨rfl, hv6⟩
            have T11 := T10.kept hv6
            clear T10 hv6
            go_wp2_with fail
            refine (told_nil 0 _).mono ?_
            rintro e v7 ⟨rfl, hv7⟩
            have T12 := T11.kept hv7
            clear T11 hv7
            go_wp2_with fail
            go_roundw
            case rel => exact ⟨k + 1, by go_num, by omega, X2, rest2, gl2, ql2, rfl, rfl, rfl, rfl, T12, hF5, hL5⟩
            case measure => simp [intOf]; omega
      · have hcase : (decide (k < n) = true ∧ decide ((k : Int) < 60) = false) ∨ decide (k < n) = false := by
          by_cases hkn : k < n
          · exact .inl ⟨by simpa using hkn, by simp; omega⟩
          · exact .inr (by simpa using hkn)
        rcases hcase with ⟨t1, t2⟩ | t1
        all_goals
          go_wp2_with fail
          refine (works_any _ T1.err).mono ?_
          rintro e v1 ⟨rfl, hv1⟩
          have T2 := T1.kept hv1
          go_wp2_with fail
          go_ret
          exact ⟨rfl, T2.step⟩
end Go.Proofs.YtndkjlnajoblaaaDoor

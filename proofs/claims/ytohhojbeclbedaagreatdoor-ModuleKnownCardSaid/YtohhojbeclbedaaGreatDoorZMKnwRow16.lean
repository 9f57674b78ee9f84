/- Texts joined for the claim's sake: SecE. -/
import Derived.Test.YtohhojbeclbedaaGreatDoorZMKnwRow12
import Derived.Test.YtohhojbeclbedaaGreatDoorZMKnwRow11
namespace Go.Proofs.YtohhojbeclbedaaGreatDoor
open Go.RowKit

set_option maxRecDepth 100000 in
set_option maxHeartbeats 2000000 in
theorem expect_ok {w : World} {g : Nat} {bs : List UInt8} {a bg : Nat} (h : Rdr w g bs a bg) (u : UInt8) (v : Int) (hv : v = (u.toNat : Int)) (hu : bs[a]? = some u) (c d : Int) :
    Calls Tryz.prog 123 #[.pointer (some ⟨g, 0, none⟩), .int .u8 v, .int .i64 c, .int .i64 d] w fun e w' => e = .returned .nilIface ∧ w.grownBy w' (some g) ∧ Rdr w' g bs (a + 1) bg := by
  have HP := place_step h
  have HB := fun (w1 : World) (h : Rdr w1 g bs a bg) => byte_ok h u hu
  rw [← hv] at HB
  clear hv hu
  go_enter Tryz.func123, Tryz.ntmps123
  go_wp2_with fail
  refine HP.mono ?_
  clear HP
  rintro e w0 ⟨rfl, hg0⟩
  have h0 := h.kept hg0
  go_wp2_with fail
  refine (HB _ h0).mono ?_
  clear HB h h0
  rintro e w1 ⟨rfl, hg1, hR1⟩
  go_wp2_with fail
  go_ret
  exact ⟨rfl, only_trans (only_weak hg0 _) hg1, hR1⟩

set_option maxRecDepth 100000 in
set_option maxHeartbeats 2000000 in
theorem expect_lack {w : World} {g : Nat} {bs : List UInt8} {a bg : Nat} (h : Rdr w g bs a bg) (ha : a = bs.length) (v c d : Int) :
    Calls Tryz.prog 123 #[.pointer (some ⟨g, 0, none⟩), .int .u8 v, .int .i64 c, .int .i64 d] w (ToldFault1 c ((bg : Int) + (a : Int)) w) := by
  have HP := place_step h
  have HB := fun (w1 : World) (h : Rdr w1 g bs a bg) => byte_short h ha
  clear ha
  generalize (bg : Int) + (a : Int) = p at *
  go_enter Tryz.func123, Tryz.ntmps123
  go_wp2_with fail
  refine HP.mono ?_
  clear HP
  rintro e w0 ⟨rfl, hg0⟩
  have h0 := h.kept hg0
  go_wp2_with fail
  refine (HB _ h0).mono ?_
  clear HB h h0
  rintro e w1 ⟨fb, rfl, _, _, hg1⟩
  go_wp2_with fail
  go_ret
  have hg := only_trans hg0 hg1
  exact ⟨w1.heap.size, rfl, Blk.new w1 _ _, hg.size, only_alloc hg _⟩

set_option maxRecDepth 100000 in
set_option maxHeartbeats 2000000 in
theorem expect_other {w : World} {g : Nat} {bs : List UInt8} {a bg : Nat} (h : Rdr w g bs a bg) (u : UInt8) (hu : bs[a]? = some u) (v : Int) (hv : v ≠ (u.toNat : Int)) (c d : Int) :
    Calls Tryz.prog 123 #[.pointer (some ⟨g, 0, none⟩), .int .u8 v, .int .i64 c, .int .i64 d] w fun e w' => ∃ fb, e = .returned (.iface 94 (.pointer (some ⟨fb, 0, none⟩))) ∧ Flt w' fb d ((bg : Int) + (a : Int)) ∧ w.heap.size ≤ fb ∧ w.grownBy w' (some g) ∧ Rdr w' g bs (a + 1) bg := by
  have HP := place_step h
  have HB := fun (w1 : World) (h : Rdr w1 g bs a bg) => byte_ok h u hu
  have hne : ((u.toNat : Int) == v) = false := by rw [beq_eq_false_iff_ne]; exact fun e => hv e.symm
  clear hv hu
  generalize (u.toNat : Int) = z at *
  generalize (bg : Int) + (a : Int) = p at *
  go_enter Tryz.func123, Tryz.ntmps123
  go_wp2_with fail
  refine HP.mono ?_
  clear HP
  rintro e w0 ⟨rfl, hg0⟩
  have h0 := h.kept hg0
  go_wp2_with fail
  refine (HB _ h0).mono ?_
  clear HB h h0
  rintro e w1 ⟨rfl, hg1, hR1⟩
  go_wp2_with fail
  go_ret
  have hg := only_trans (only_weak hg0 _) hg1
  exact ⟨w1.heap.size, rfl, Blk.new w1 _ _, hg.size, only_alloc hg _, hR1.kept (only_alloc (only_refl _ _) _)⟩

/-- A step that goes well, or is told as a fault. -/
def Stp (R : World → Prop) (F : Nat → World → Prop) (e : Ending) (w' : World) : Prop :=
  (e = .returned .nilIface ∧ R w') ∨ ∃ fb, e = .returned (.iface 94 (.pointer (some ⟨fb, 0, none⟩))) ∧ F fb w'

set_option maxRecDepth 100000 in
set_option maxHeartbeats 2000000 in
theorem first_sec {w : World} {s nb rb sb tb : Nat} {R1 R2 R3 : World → Prop} {F : Nat → World → Prop}
    (h0 : Blk w s 101 #[.func (.func 195) #[] #[.pointer (some ⟨rb, 0, none⟩), .pointer (some ⟨nb, 0, none⟩)], .func (.func 196) #[] #[.pointer (some ⟨rb, 0, none⟩), .pointer (some ⟨sb, 0, none⟩)], .func (.func 197) #[] #[.pointer (some ⟨rb, 0, none⟩), .pointer (some ⟨sb, 0, none⟩), .pointer (some ⟨tb, 0, none⟩)]])
    (H1 : Calls Tryz.prog 195 #[.pointer (some ⟨rb, 0, none⟩), .pointer (some ⟨nb, 0, none⟩)] w (Stp R1 F))
    (H2 : ∀ w1, R1 w1 → Blk w1 s 101 #[.func (.func 195) #[] #[.pointer (some ⟨rb, 0, none⟩), .pointer (some ⟨nb, 0, none⟩)], .func (.func 196) #[] #[.pointer (some ⟨rb, 0, none⟩), .pointer (some ⟨sb, 0, none⟩)], .func (.func 197) #[] #[.pointer (some ⟨rb, 0, none⟩), .pointer (some ⟨sb, 0, none⟩), .pointer (some ⟨tb, 0, none⟩)]] ∧ Calls Tryz.prog 196 #[.pointer (some ⟨rb, 0, none⟩), .pointer (some ⟨sb, 0, none⟩)] w1 (Stp R2 F))
    (H3 : ∀ w2, R2 w2 → Blk w2 s 101 #[.func (.func 195) #[] #[.pointer (some ⟨rb, 0, none⟩), .pointer (some ⟨nb, 0, none⟩)], .func (.func 196) #[] #[.pointer (some ⟨rb, 0, none⟩), .pointer (some ⟨sb, 0, none⟩)], .func (.func 197) #[] #[.pointer (some ⟨rb, 0, none⟩), .pointer (some ⟨sb, 0, none⟩), .pointer (some ⟨tb, 0, none⟩)]] ∧ Calls Tryz.prog 197 #[.pointer (some ⟨rb, 0, none⟩), .pointer (some ⟨sb, 0, none⟩), .pointer (some ⟨tb, 0, none⟩)] w2 (Stp R3 F)) :
    Calls Tryz.prog 50 #[.slice (some ⟨s, 0, none⟩) 3 3] w (Stp R3 F) := by
  have s0 := h0.cell 0
  clear h0
  go_enter Tryz.func50, Tryz.ntmps50
  go_wp2_with fail
  refine wp_loop_rounds 4 ?_
  rw [rounds_succ]
  go_wp2_with fail
  refine H1.mono ?_
  clear H1 s0
  rintro e w1 (⟨rfl, h1⟩ | ⟨fb, rfl, h1⟩)
  · obtain ⟨b1, K2⟩ := H2 w1 h1
    have s1 := b1.cell 1
    clear H2 b1
    go_wp2_with fail
    rw [rounds_succ]
    go_wp2_with fail
    refine K2.mono ?_
    clear K2 s1
    rintro e w2 (⟨rfl, h2⟩ | ⟨fb, rfl, h2⟩)
    · obtain ⟨b2, K3⟩ := H3 w2 h2
      have s2 := b2.cell 2
      clear H3 b2
      go_wp2_with fail
      rw [rounds_succ]
      go_wp2_with fail
      refine K3.mono ?_
      clear K3 s2
      rintro e w3 (⟨rfl, h3⟩ | ⟨fb, rfl, h3⟩)
      · go_wp2_with fail
        rw [rounds_succ]
        go_wp2_with fail
        go_ret
        exact .inl ⟨rfl, h3⟩
      · go_wp2_with fail
        go_ret
        exact .inr ⟨fb, rfl, h3⟩
    · go_wp2_with fail
      go_ret
      exact .inr ⟨fb, rfl, h2⟩
  · go_wp2_with fail
    go_ret
    exact .inr ⟨fb, rfl, h1⟩

set_option maxRecDepth 100000 in
set_option maxHeartbeats 2000000 in
theorem first_split {w : World} {s rb xb : Nat} {R1 R2 R3 : World → Prop} {F : Nat → World → Prop}
    (h0 : Blk w s 101 #[.func (.func 51) #[] #[.pointer (some ⟨rb, 0, none⟩)], .func (.func 53) #[] #[.pointer (some ⟨rb, 0, none⟩), .pointer (some ⟨xb, 0, none⟩)], .func (.func 55) #[] #[.pointer (some ⟨rb, 0, none⟩)]])
    (H1 : Calls Tryz.prog 51 #[.pointer (some ⟨rb, 0, none⟩)] w (Stp R1 F))
    (H2 : ∀ w1, R1 w1 → Blk w1 s 101 #[.func (.func 51) #[] #[.pointer (some ⟨rb, 0, none⟩)], .func (.func 53) #[] #[.pointer (some ⟨rb, 0, none⟩), .pointer (some ⟨xb, 0, none⟩)], .func (.func 55) #[] #[.pointer (some ⟨rb, 0, none⟩)]] ∧ Calls Tryz.prog 53 #[.pointer (some ⟨rb, 0, none⟩), .pointer (some ⟨xb, 0, none⟩)] w1 (Stp R2 F))
    (H3 : ∀ w2, R2 w2 → Blk w2 s 101 #[.func (.func 51) #[] #[.pointer (some ⟨rb, 0, none⟩)], .func (.func 53) #[] #[.pointer (some ⟨rb, 0, none⟩), .pointer (some ⟨xb, 0, none⟩)], .func (.func 55) #[] #[.pointer (some ⟨rb, 0, none⟩)]] ∧ Calls Tryz.prog 55 #[.pointer (some ⟨rb, 0, none⟩)] w2 (Stp R3 F)) :
    Calls Tryz.prog 50 #[.slice (some ⟨s, 0, none⟩) 3 3] w (Stp R3 F) := by
  have s0 := h0.cell 0
  clear h0
  go_enter Tryz.func50, Tryz.ntmps50
  go_wp2_with fail
  refine wp_loop_rounds 4 ?_
  rw [rounds_succ]
  go_wp2_with fail
  refine H1.mono ?_
  clear H1 s0
  rintro e w1 (⟨rfl, h1⟩ | ⟨fb, rfl, h1⟩)
  · obtain ⟨b1, K2⟩ := H2 w1 h1
    have s1 := b1.cell 1
    clear H2 b1
    go_wp2_with fail
    rw [rounds_succ]
    go_wp2_with fail
    refine K2.mono ?_
    clear K2 s1
    rintro e w2 (⟨rfl, h2⟩ | ⟨fb, rfl, h2⟩)
    · obtain ⟨b2, K3⟩ := H3 w2 h2
      have s2 := b2.cell 2
      clear H3 b2
      go_wp2_with fail
      rw [rounds_succ]
      go_wp2_with fail
      refine K3.mono ?_
      clear K3 s2
      rintro e w3 (⟨rfl, h3⟩ | ⟨fb, rfl, h3⟩)
      · go_wp2_with fail
        rw [rounds_succ]
        go_wp2_with fail
        go_ret
        exact .inl ⟨rfl, h3⟩
      · go_wp2_with fail
        go_ret
        exact .inr ⟨fb, rfl, h3⟩
    · go_wp2_with fail
      go_ret
      exact .inr ⟨fb, rfl, h2⟩
  · go_wp2_with fail
    go_ret
    exact .inr ⟨fb, rfl, h1⟩
end Go.Proofs.YtohhojbeclbedaaGreatDoor

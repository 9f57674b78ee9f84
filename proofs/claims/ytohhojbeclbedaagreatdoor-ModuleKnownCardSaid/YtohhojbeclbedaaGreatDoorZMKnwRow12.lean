/- Texts joined for the claim's sake: LebS, GNod, LebV. -/
import Derived.Test.YtohhojbeclbedaaGreatDoorZMKnwRow11
import Derived.Test.YtohhojbeclbedaaGreatDoorZMKnwRow5
import Derived.Test.YtohhojbeclbedaaGreatDoorZMKnwRow0
namespace Go.Proofs.YtohhojbeclbedaaGreatDoor
open Go.RowKit

/-- A fault beside the number 0 of the kind k. -/
def FaultBeside (k : IntKind) (R : Nat → World → Prop) (e : Ending) (w' : World) : Prop :=
  ∃ fb, e = .returned (.tuple #[.int k 0, .iface 94 (.pointer (some ⟨fb, 0, none⟩))]) ∧ R fb w'

set_option maxHeartbeats 400000 in
/-- S hands on what U could not take. -/
theorem s_fault {p : Value} {w : World} {R : Nat → World → Prop} (HU : Calls Tryz.prog 203 #[p] w (FaultBeside .u64 R)) :
    Calls Tryz.prog 193 #[p] w (FaultBeside .i64 R) := by
  go_enter Tryz.func193, Tryz.ntmps193
  go_wp2_with fail
  refine HU.mono ?_
  rintro e w1 ⟨fb, rfl, hr⟩
  go_wp2_with fail
  go_ret2
  exact ⟨fb, rfl, hr⟩

set_option maxHeartbeats 400000 in
theorem s_ok {w : World} {g : Nat} {bs : List UInt8} {a bg : Nat} (h : Rdr w g bs a bg) (k : Nat) (hk : Taken (bs.drop a) k) (hb : ¬ Bad ((bs.drop a).take k)) :
    Calls Tryz.prog 193 #[.pointer (some ⟨g, 0, none⟩)] w fun e w' => e = .returned (.tuple #[.int .i64 (unfoldZ (num ((bs.drop a).take k))), .nilIface]) ∧ w.grownBy w' (some g) ∧ Rdr w' g bs (a + k) bg := by
  have HU := u_ok h k hk hb
  have HF := unfold_any (num ((bs.drop a).take k)) (sev_of_taken hk hb).2
  clear hk hb
  generalize num ((bs.drop a).take k) = n at *
  go_enter Tryz.func193, Tryz.ntmps193
  go_wp2_with fail
  refine HU.mono ?_
  rintro e w1 ⟨rfl, hg, hr⟩
  go_wp2_with fail
  refine (HF _).mono ?_
  rintro e w2 ⟨rfl, hg2⟩
  go_wp2_with fail
  go_ret2
  exact ⟨rfl, only_trans hg (only_weak hg2 _), hr.kept hg2⟩

set_option maxHeartbeats 400000 in
/-- Small hands on what U could not take. -/
theorem small_fault {p : Value} {most pl : Int} {w : World} {R : Nat → World → Prop} (HP : Calls Tryz.prog 110 #[p] w fun e w' => e = .returned (.int .i64 pl) ∧ w.grownBy w' none)
    (HU : ∀ w1, w.grownBy w1 none → Calls Tryz.prog 203 #[p] w1 (FaultBeside .u64 R)) :
    Calls Tryz.prog 190 #[p, .int .i64 most] w (FaultBeside .i64 R) := by
  go_enter Tryz.func190, Tryz.ntmps190
  go_wp2_with fail
  refine HP.mono ?_
  rintro e w0 ⟨rfl, hg0⟩
  go_wp2_with fail
  refine (HU _ hg0).mono ?_
  rintro e w1 ⟨fb, rfl, hr⟩
  go_wp2_with fail
  go_ret2
  exact ⟨fb, rfl, hr⟩

set_option maxHeartbeats 1000000 in
theorem small_ok {w : World} {g : Nat} {bs : List UInt8} {a bg : Nat} (h : Rdr w g bs a bg) (k : Nat) (hk : Taken (bs.drop a) k) (hb : ¬ Bad ((bs.drop a).take k)) (most : Int) (hw : Whole most) (hm : (num ((bs.drop a).take k) : Int) ≤ most) :
    Calls Tryz.prog 190 #[.pointer (some ⟨g, 0, none⟩), .int .i64 most] w fun e w' => e = .returned (.tuple #[.int .i64 (num ((bs.drop a).take k) : Int), .nilIface]) ∧ w.grownBy w' (some g) ∧ Rdr w' g bs (a + k) bg := by
  have HU := fun (w1 : World) (h : Rdr w1 g bs a bg) => u_ok h k hk hb
  have HP := place_step h
  clear hk hb
  have h0 : (0 : Int) ≤ (num ((bs.drop a).take k) : Int) := by omega
  obtain ⟨hw1, hw2⟩ := hw
  generalize (num ((bs.drop a).take k) : Int) = n at *
  go_enter Tryz.func190, Tryz.ntmps190
  go_wp2_with fail
  refine HP.mono ?_
  rintro e w0 ⟨rfl, hg0⟩
  go_wp2_with fail
  refine (HU _ (h.kept hg0)).mono ?_
  rintro e w1 ⟨rfl, hg, hr⟩
  go_wp2_with fail
  go_ret2
  exact ⟨rfl, only_trans (only_weak hg0 _) hg, hr⟩

set_option maxHeartbeats 1000000 in
theorem small_long {w : World} {g : Nat} {bs : List UInt8} {a bg : Nat} (h : Rdr w g bs a bg) (k : Nat) (hk : Taken (bs.drop a) k) (hb : ¬ Bad ((bs.drop a).take k)) (most : Int) (hw : Whole most) (hm : most < (num ((bs.drop a).take k) : Int)) :
    Calls Tryz.prog 190 #[.pointer (some ⟨g, 0, none⟩), .int .i64 most] w (FaultBeside .i64 fun fb w' => Flt w' fb 4 ((bg : Int) + (a : Int)) ∧ w.heap.size ≤ fb ∧ w.grownBy w' (some g) ∧ Rdr w' g bs (a + k) bg) := by
  have HU := fun (w1 : World) (h : Rdr w1 g bs a bg) => u_ok h k hk hb
  have HP := place_step h
  have hn := (sev_of_taken hk hb).2
  clear hk hb
  have h0 : (0 : Int) ≤ (num ((bs.drop a).take k) : Int) := by omega
  have h1 : (num ((bs.drop a).take k) : Int) < 18446744073709551616 := by omega
  clear hn
  obtain ⟨hw1, hw2⟩ := hw
  generalize (num ((bs.drop a).take k) : Int) = n at *
  generalize hpl : (bg : Int) + (a : Int) = pl at *
  by_cases hm0 : most < 0
  · go_enter Tryz.func190, Tryz.ntmps190
    go_wp2_with fail
    refine HP.mono ?_
    rintro e w0 ⟨rfl, hg0⟩
    go_wp2_with fail
    refine (HU _ (h.kept hg0)).mono ?_
    rintro e w1 ⟨rfl, hg, hr⟩
    have hg4 := only_trans (only_weak hg0 (some g)) hg
    go_wp2_with fail
    go_ret2
    exact ⟨w1.heap.size, rfl, Blk.new w1 _ _, hg4.size, only_alloc hg4 _, hr.kept (only_alloc (only_refl _ _) _)⟩
  · have hm1 : 0 ≤ most := by omega
    go_enter Tryz.func190, Tryz.ntmps190
    go_wp2_with fail
    refine HP.mono ?_
    rintro e w0 ⟨rfl, hg0⟩
    go_wp2_with fail
    refine (HU _ (h.kept hg0)).mono ?_
    rintro e w1 ⟨rfl, hg, hr⟩
    have hg4 := only_trans (only_weak hg0 (some g)) hg
    go_wp2_with fail
    go_ret2
    exact ⟨w1.heap.size, rfl, Blk.new w1 _ _, hg4.size, only_alloc hg4 _, hr.kept (only_alloc (only_refl _ _) _)⟩

/-! ### AT A STATE -/
section
variable {w0 w : World} {rs : List RD} {fs : List FD} {g a bg : Nat} {bs : List UInt8}
end
end Go.Proofs.YtohhojbeclbedaaGreatDoor

namespace Go.Proofs.YtohhojbeclbedaaGreatDoor
open Go.RowKit

/-- An edge (to, shift), or a type (node, offset). -/
abbrev Ed := Int × Int
structure Nd where
  kind : Int
  prio : Int
  chan : Bool
  pay : Ed
  next : List Ed

end Go.Proofs.YtohhojbeclbedaaGreatDoor

namespace Go.Proofs.YtohhojbeclbedaaGreatDoor
open Go.RowKit

section
variable {w0 w : World} {rs : List RD} {fs : List FD} {g a bg : Nat} {bs rest : List UInt8}
end

end Go.Proofs.YtohhojbeclbedaaGreatDoor

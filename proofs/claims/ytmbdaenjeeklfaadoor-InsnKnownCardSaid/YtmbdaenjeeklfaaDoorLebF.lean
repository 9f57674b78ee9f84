/- leb: fold, unfold, PutS; and a number's bytes alone (put, folded): what each answers, and what it leaves. -/
import Derived.Test.YtmbdaenjeeklfaaDoorLebP
namespace Go.Proofs.YtmbdaenjeeklfaaDoor
open Go.RowKit

/-- The fold of a whole number. -/
def foldN (z : Int) : Nat := if 0 ≤ z then 2 * z.toNat else 2 * (-z).toNat - 1
def Whole (z : Int) : Prop := -9223372036854775808 ≤ z ∧ z ≤ 9223372036854775807
theorem foldN_lt {z : Int} (h : Whole z) : foldN z < 18446744073709551616 := by
  obtain ⟨h1, h2⟩ := h
  unfold foldN
  split <;> omega

def unfoldZ (n : Nat) : Int := if n % 2 = 0 then ((n / 2 : Nat) : Int) else -((n / 2 : Nat) : Int) - 1
theorem unfold_fold {z : Int} : unfoldZ (foldN z) = z := by
  unfold unfoldZ foldN
  split <;> split <;> omega
theorem unfold_whole {n : Nat} (h : n < 18446744073709551616) : Whole (unfoldZ n) := by
  unfold unfoldZ Whole
  split <;> omega

theorem fold_wrap {z : Int} (_ : -9223372036854775808 ≤ z) (_ : z < 0) : IntKind.u64.wrap (IntKind.u64.wrap (2 * IntKind.u64.wrap (-IntKind.u64.wrap z)) - 1) = 2 * (-z) - 1 := by
  simp only [IntKind.wrap_u64]
  omega

set_option maxHeartbeats 1000000 in
theorem fold_any (z : Int) (hz : Whole z) (w : World) :
    Calls Tryd.prog 74 #[.int .i64 z] w fun e w' => e = .returned (.int .u64 (foldN z : Int)) ∧ w.grownBy w' none := by
  obtain ⟨h1, h2⟩ := hz
  by_cases h0 : 0 ≤ z
  · have e : (foldN z : Int) = 2 * z := by unfold foldN; rw [if_pos h0]; omega
    rw [e]
    go_enter Tryd.func74, Tryd.ntmps74
    go_wp2
    go_ret
    exact ⟨rfl, only_refl _ _⟩
  · have e : (foldN z : Int) = 2 * (-z) - 1 := by unfold foldN; rw [if_neg h0]; omega
    have ew := fold_wrap h1 (by omega : z < 0)
    rw [e]
    go_enter Tryd.func74, Tryd.ntmps74
    go_wp2
    go_ret
    exact ⟨by simp, only_refl _ _⟩

set_option maxHeartbeats 1000000 in
theorem unfold_any (n : Nat) (hn : n < 18446744073709551616) (w : World) :
    Calls Tryd.prog 77 #[.int .u64 (n : Int)] w fun e w' => e = .returned (.int .i64 (unfoldZ n)) ∧ w.grownBy w' none := by
  have h0 : (0 : Int) ≤ (n : Int) := by omega
  have h1 : (n : Int) < 18446744073709551616 := by omega
  by_cases hp : n % 2 = 0
  · have e : unfoldZ n = (n : Int) / 2 := by unfold unfoldZ; rw [if_pos hp]; omega
    have t1 : ((n : Int) % 2 == 1) = false := by simp; omega
    rw [e]
    clear e hp
    generalize (n : Int) = m at *
    go_enter Tryd.func77, Tryd.ntmps77
    go_wp2
    go_ret
    exact ⟨rfl, only_refl _ _⟩
  · have e : unfoldZ n = -((n : Int) / 2) - 1 := by unfold unfoldZ; rw [if_neg hp]; omega
    have t1 : ((n : Int) % 2 == 1) = true := by simp; omega
    rw [e]
    clear e hp
    generalize (n : Int) = m at *
    go_enter Tryd.func77, Tryd.ntmps77
    go_wp2
    go_ret
    exact ⟨rfl, only_refl _ _⟩

/-- PutS: the bytes of the fold. -/
theorem putS_any {B g : Nat} {w : World} {bs : List UInt8} (h : Wtr B w g bs) (hB : B ≤ w.heap.size) (z : Int) (hz : Whole z) (hl : bs.length + 10 ≤ 1099511627776) :
    Calls Tryd.prog 53 #[.pointer (some ⟨g, 0, none⟩), .int .i64 z] w fun e w' => e = .returned (.tuple #[]) ∧ Wtr B w' g (bs ++ sev (foldN z)) ∧ Turn (WS B w g) w w' := by
  have H := fold_any z hz
  have H2 := fun (w1 : World) (hg : w.grownBy w1 none) => putU_any (h.kept hg) (Nat.le_trans hB hg.size) (foldN z) (foldN_lt hz) hl
  have HT := Lib.hid (fun (w1 w2 : World) (hg : w.grownBy w1 none) (ht : Turn (WS B w1 g) w1 w2) => Turn.trans (w := w) (Turn.none_ hg) ht)
  clear hz h hB hl
  go_enter Tryd.func53, Tryd.ntmps53
  go_wp2_with fail
  refine (H _).mono ?_
  rintro e w1 ⟨rfl, hg⟩
  go_wp2_with fail
  refine (H2 _ hg).mono ?_
  rintro e w2 ⟨rfl, hw, ht⟩
  go_wp2_with fail
  go_end0
  exact ⟨rfl, hw, HT.out _ _ hg ht⟩
theorem putS_none (w : World) (z : Int) (hz : Whole z) :
    Calls Tryd.prog 53 #[.pointer none, .int .i64 z] w fun e w' => e = .returned (.tuple #[]) ∧ w.grownBy w' none := by
  have H := fold_any z hz
  have H2 := fun (w1 : World) => putU_none w1 (foldN z) (foldN_lt hz)
  clear hz
  go_enter Tryd.func53, Tryd.ntmps53
  go_wp2_with fail
  refine (H _).mono ?_
  rintro e w1 ⟨rfl, hg⟩
  go_wp2_with fail
  refine (H2 _).mono ?_
  rintro e w2 ⟨rfl, hg2⟩
  go_wp2_with fail
  go_end0
  exact ⟨rfl, only_trans hg hg2⟩

end Go.Proofs.YtmbdaenjeeklfaaDoor

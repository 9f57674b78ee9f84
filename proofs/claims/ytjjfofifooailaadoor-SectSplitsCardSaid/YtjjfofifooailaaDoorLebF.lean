/- leb: fold, unfold, PutS; and a number's bytes alone (put, folded): what each answers, and what it leaves. -/
import Derived.Test.YtjjfofifooailaaDoorLebP
namespace Go.Proofs.YtjjfofifooailaaDoor
open Go.RowKit

/-- The fold of a whole number. -/
def foldN (z : Int) : Nat := if 0 ≤ z then 2 * z.toNat else 2 * (-z).toNat - 1
def Whole (z : Int) : Prop := -9223372036854775808 ≤ z ∧ z ≤ 9223372036854775807
theorem foldN_lt {z : Int} (h : Whole z) : foldN z < 18446744073709551616 := by
  obtain ⟨h1, h2⟩ := h
  unfold foldN
  split <;> omega

def unfoldZ (n : Nat) : Int := if n % 2 = 0 then ((n / 2 : Nat) : Int) else -((n / 2 : Nat) : Int) - 1
theorem unfold_fold {z : Int} : unfoldZ (foldN z) = z := by
  unfold unfoldZ foldN
  split <;> split <;> omega
theorem unfold_whole {n : Nat} (h : n < 18446744073709551616) : Whole (unfoldZ n) := by
  unfold unfoldZ Whole
  split <;> omega

theorem fold_wrap {z : Int} (_ : -9223372036854775808 ≤ z) (_ : z < 0) : IntKind.u64.wrap (IntKind.u64.wrap (2 * IntKind.u64.wrap (-IntKind.u64.wrap z)) - 1) = 2 * (-z) - 1 := by
  simp only [IntKind.wrap_u64]
  omega

end Go.Proofs.YtjjfofifooailaaDoor

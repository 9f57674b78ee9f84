/- The contracts of the landed unfold, and its digits at what is asked of them. -/
import Derived.Test.YtoklaajiajilhaaDoorVTxt
import Derived.Test.YtoklaajiajilhaaDoorVEql
import Derived.Test.YtoklaajiajilhaaDoorUCon
import Derived.Test.YtoklaajiajilhaaDoorUKnF
namespace Go.Proofs.YtoklaajiajilhaaDoor
open Go.RowKit

theorem ucon : UC Lib.itoa TabL := ⟨fun _ _ h hg => tabL_kept h hg, fun xs v t d w hL hT hz _ => utext_any xs v t d w hL hT hz, fun xs v a b d w _ hT hz _ _ => uequal_any xs v a b d w hT hz⟩
theorem itoa_12 : Lib.itoa 12 = [49, 50] := by first | kernel_rfl | decide | simp [Lib.itoa, Lib.decDigits]
theorem itoa_13 : Lib.itoa 13 = [49, 51] := by first | kernel_rfl | decide | simp [Lib.itoa, Lib.decDigits]
theorem kt_itoa : KT Lib.itoa := ⟨by kernel_rfl, by kernel_rfl, by kernel_rfl, by kernel_rfl, by kernel_rfl, by kernel_rfl, by kernel_rfl, by kernel_rfl, by kernel_rfl, by kernel_rfl, by kernel_rfl, by kernel_rfl, by kernel_rfl⟩
end Go.Proofs.YtoklaajiajilhaaDoor

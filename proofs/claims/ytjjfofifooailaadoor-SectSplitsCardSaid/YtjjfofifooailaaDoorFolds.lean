/- LebFolds: whatever two whole numbers, the call returns true, and turns nothing that was there. -/
import Derived.Test.YtjjfofifooailaaDoorLebV
import Derived.LoopTactic
import Derived.Deep.LoopGhost
namespace Go.Proofs.YtjjfofifooailaaDoor
open Go.RowKit

theorem sev_mono : ∀ (m n : Nat), n ≤ m → (sev n).length ≤ (sev m).length := by
  intro m
  induction m using Nat.strongRecOn with
  | _ m ih =>
    intro n hn
    by_cases h1 : n < 128
    · rw [sev_lt h1]; exact sev_pos m
    · rw [sev_ge (by omega : 128 ≤ n), sev_ge (by omega : 128 ≤ m), List.length_cons, List.length_cons]
      have := ih (m / 128) (by omega) (n / 128) (by omega)
      omega
theorem St.drop {w0 w : World} {rs : List RD} {fs : List FD} (s : St w0 w rs fs) : St w0 w [] [] := ⟨s.err, s.err0, s.step, by simp, by simp, by simp⟩
theorem u_eq {w0 w : World} {rs : List RD} {fs : List FD} {g a bg : Nat} {bs rest : List UInt8} (s : St w0 w (⟨g, bs, a, bg⟩ :: rs) fs) (n b : Nat) (v : Int) (hv : v = (n : Int)) (hn : n < 18446744073709551616) (he : bs.drop a = sev n ++ rest) (hb : a + (sev n).length = b) :
    Calls Tryd.prog 73 #[.pointer (some ⟨g, 0, none⟩)] w fun e w' => e = .returned (.tuple #[.int .u64 v, .nilIface]) ∧ St w0 w' (⟨g, bs, b, bg⟩ :: rs) fs := by
  subst hv
  exact u_laid s n b hn he hb

end Go.Proofs.YtjjfofifooailaaDoor

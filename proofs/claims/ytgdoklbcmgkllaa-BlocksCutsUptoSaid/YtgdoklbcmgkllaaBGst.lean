/- BlocksGoes. -/
import Derived.Test.YtgdoklbcmgkllaaBTlk
import Derived.Test.YtgdoklbcmgkllaaBArg
import Derived.Deep.RegionHeld3
namespace Go.Proofs.Ytgdoklbcmgkllaa
open Go.RowKit

/-- Like lists are alike. -/
theorem bints_same {l : List Int} {v u : Value} {w : World} (h1 : IB w v l) (h2 : IB w u l) (hl : l.length ≤ 10000000) : Calls Try.prog 16 #[v, u] w fun e w' => e = .returned (.bool true) ∧ w.grownBy w' none := by
  have h := bints_any l l v u _ _ w h1.ints h2.ints hl
  rwa [show decide (l = l) = true from decide_eq_true rfl] at h
theorem take_all {cs : List Bi} (h : ∀ x ∈ cs, x.2.length ≤ 1048576) (n : Nat) : ∀ x ∈ cs.take n, x.2.length ≤ 1048576 := fun x hx => h x (List.mem_of_mem_take hx)
theorem goesI_length {cs : List Bi} {i : Int} (hl : ∀ x ∈ cs, x.2.length ≤ 1048576) : (goesI cs i).length ≤ 1048577 := by
  unfold goesI
  split
  · simp
  · exact goesN_length hl
end Go.Proofs.Ytgdoklbcmgkllaa

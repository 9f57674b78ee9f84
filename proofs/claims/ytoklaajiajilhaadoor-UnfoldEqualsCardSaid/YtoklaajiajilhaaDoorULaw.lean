/- What layer 8 answers, plainly, and what the statements ask of it. No program. -/
import Derived.Test.YtoklaajiajilhaaDoorUSt
import Derived.Test.YtoklaajiajilhaaDoorUTx
namespace Go.Proofs.YtoklaajiajilhaaDoor
open Go.RowKit

/-- A list that is too large: more than 128 nodes, or one with more than eight Next. -/
def largeB (xs : List Nd) : Bool := decide (128 < xs.length) || xs.any fun x => decide (8 < x.next.length)
def textA (dig : Int → List UInt8) (xs : List Nd) (t : Ed) (d : Int) : List UInt8 := if largeB xs then [63] else textD dig xs (min (max d 0) 5).toNat t
def equalA (xs : List Nd) (a b : Ed) (d : Int) : Bool := if d ≤ 0 then true else if largeB xs then false else eqD xs (min d 256).toNat a b
/-- A node with no more than three edges. -/
def cut3 (x : Nd) : Nd := { x with next := x.next.take 3 }
def smallL (xs : List Nd) (n : Nat) : List Nd := (xs.take n).map cut3
theorem small_len (xs : List Nd) (n : Nat) : (smallL xs n).length ≤ n := by unfold smallL; rw [List.length_map, List.length_take]; omega
theorem small_not {xs : List Nd} {n : Nat} (hn : n ≤ 128) : largeB (smallL xs n) = false := by
  unfold largeB
  have := small_len xs n
  rw [decide_eq_false (by omega), Bool.false_or, List.any_eq_false]
  intro x hx
  obtain ⟨y, _, rfl⟩ := List.mem_map.1 hx
  unfold cut3
  dsimp only
  rw [List.length_take, decide_eq_true_eq]
  omega
section
variable {xs : List Nd} {dig : Int → List UInt8}
theorem equalA_nat (hl : largeB xs = false) (a b : Ed) {k : Nat} (h : k ≤ 256) : equalA xs a b (k : Int) = eqD xs k a b := by
  unfold equalA
  cases k with
  | zero => rfl
  | succ k => rw [if_neg (by omega), hl, if_neg (by simp), show (min ((k + 1 : Nat) : Int) 256).toNat = k + 1 by omega]
theorem textA_nat (hl : largeB xs = false) (t : Ed) {k : Nat} (h : k ≤ 5) : textA dig xs t (k : Int) = textD dig xs k t := by
  unfold textA
  rw [hl, if_neg (by simp), show (min (max (k : Int) 0) 5).toNat = k by omega]
theorem equalA_symm (a b : Ed) (d : Int) : equalA xs a b d = equalA xs b a d := by
  unfold equalA
  split
  · rfl
  · split
    · rfl
    · exact eqD_symm _ _ _
theorem upT_in {i o m : Int} (h0 : -1000000000 ≤ o) (h1 : o ≤ 1000000000) (m0 : 0 ≤ m) (m1 : m ≤ 1000000000) : upT m (i, o) = (i, o + m) := by
  unfold upT
  dsimp only
  rw [show wrap64 (o + m) = o + m by unfold wrap64; omega]
/-- What UnfoldDepths asks of lists that are not too large. -/
theorem depths_refl (hl : largeB xs = false) (a : Ed) : equalA xs a a 256 = true := by rw [show (256 : Int) = ((256 : Nat) : Int) from rfl, equalA_nat hl _ _ (Nat.le_refl _)]; exact eqD_refl _ _
theorem depths_up (hl : largeB xs = false) {i j o p m : Int} (d : Nat) (hd : d ≤ 256) (o0 : -1000000000 ≤ o) (o1 : o ≤ 1000000000) (p0 : -1000000000 ≤ p) (p1 : p ≤ 1000000000) (m0 : 0 ≤ m) (m1 : m ≤ 1000000000) : equalA xs (i, o + m) (j, p + m) (d : Int) = equalA xs (i, o) (j, p) (d : Int) := by
  rw [equalA_nat hl _ _ hd, equalA_nat hl _ _ hd, ← upT_in o0 o1 m0 m1, ← upT_in p0 p1 m0 m1, eqD_up]
theorem depths_le (hl : largeB xs = false) {a b : Ed} {d k : Nat} (hd : d ≤ 256) (hk : k ≤ d) (h : equalA xs a b (d : Int) = true) : equalA xs a b (k : Int) = true := by
  rw [equalA_nat hl _ _ hd] at h
  rw [equalA_nat hl _ _ (by omega)]
  exact eqD_le hk h
theorem depths_text (hl : largeB xs = false) {a b : Ed} {d k : Nat} (hd : d ≤ 5) (hk : k < d) (h : equalA xs a b (d : Int) = true) : textA dig xs a (k : Int) = textA dig xs b (k : Int) := by
  rw [equalA_nat hl _ _ (by omega)] at h
  rw [textA_nat hl _ (by omega), textA_nat hl _ (by omega)]
  exact text_le hk h
/-- What UnfoldSteady asks. -/
theorem steadyA (hl : largeB xs = false) (h7 : xs.length ≤ 7) (a b : Ed) : equalA xs a b ((xs.length * xs.length + 1 : Nat) : Int) = equalA xs a b 256 := by
  have h : xs.length * xs.length ≤ 49 := Nat.mul_le_mul h7 h7
  rw [show (256 : Int) = ((256 : Nat) : Int) from rfl, equalA_nat hl _ _ (by omega), equalA_nat hl _ _ (Nat.le_refl _)]
  exact (eqD_steady (by omega) a b).symm
end
end Go.Proofs.YtoklaajiajilhaaDoor

/- UnfoldKnown: its lists, and what holds of them. No program. -/
import Derived.Test.YtoklaajiajilhaaDoorUCon
namespace Go.Proofs.YtoklaajiajilhaaDoor
open Go.RowKit

abbrev kEnd : Nd := ⟨0, 0, false, (0, 0), []⟩
abbrev kA : List Nd := [⟨1, 1, false, (0, 0), [(0, 4)]⟩, ⟨1, 1, false, (0, 0), [(0, 4)]⟩]
abbrev kM : List Nd := [⟨3, 7, false, (0, 0), [(1, 1), (2, 0)]⟩, ⟨5, 0, false, (0, 0), [(3, 5)]⟩, kEnd, ⟨1, 9, true, (0, 20), [(2, 3)]⟩]
abbrev kFar : List Nd := [⟨3, 7, false, (0, 0), [(1, 1), (2, 0)]⟩, ⟨5, 0, false, (0, 0), [(3, 5)]⟩, kEnd, ⟨1, 9, true, (1, 2), [(2, 3)]⟩]
abbrev kTwo : List Nd := [⟨3, 7, false, (0, 0), [(1, 1), (2, 0)]⟩, ⟨5, 0, false, (0, 0), [(3, 5)]⟩, kEnd, ⟨1, 9, true, (0, 20), [(2, 3)]⟩, ⟨1, 2, true, (0, 13), [(2, 0)]⟩]
abbrev kNine : List Nd := [⟨9, 0, false, (0, 0), []⟩, kEnd]
def kBig (n : Nat) : List Nd := List.replicate n kEnd
def kWide : List Nd := [⟨4, 0, false, (0, 0), List.replicate 9 (0, 0)⟩]
theorem ke_1 : equalA kA (0, 0) (1, 0) 9 = true := by kernel_rfl
theorem ke_2 : equalA kA (0, 0) (1, 1) 9 = false := by kernel_rfl
theorem ke_3 : equalA kA (5, 0) (-1, 3) 7 = true := by kernel_rfl
theorem ke_4 : equalA kA (0, 0) (5, 0) 1 = false := by kernel_rfl
theorem ke_5 : equalA kTwo (3, 0) (4, 7) 256 = true := by kernel_rfl
theorem ke_6 : equalA kTwo (3, 0) (4, 8) 1 = false := by kernel_rfl
theorem ke_7 : equalA (kBig 129) (0, 0) (0, 0) 1 = false := by kernel_rfl
theorem ke_8 : equalA (kBig 129) (0, 0) (0, 0) 0 = true := by kernel_rfl
theorem ke_9 : equalA kNine (0, 0) (0, 0) 3 = true := by kernel_rfl
theorem ke_10 : equalA kNine (0, 0) (1, 0) 3 = false := by kernel_rfl
/-- The texts, digit by digit. -/
structure KT (dig : Int → List UInt8) : Prop where
  t1 : textA dig kM (0, 0) 1 = [43, 55, 40, 41, 91, 46, 44, 48, 93]
  t2 : textA dig kM (0, 0) 2 = [43, 55, 40, 41, 91, 33, 49, 53, 40, 46, 41, 91, 48, 93, 44, 48, 93]
  t3 : textA dig kM (0, 0) 3 = [43, 55, 40, 41, 91, 33, 49, 53, 40, 43, 51, 51, 40, 41, 91, 46, 44, 48, 93, 41, 91, 48, 93, 44, 48, 93]
  t4 : textA dig kM (0, 0) 0 = [46]
  t5 : textA dig kM (4, 0) 2 = [63]
  t6 : textA dig kM (2, 0) 0 = [48]
  t7 : textA dig kM (0, -20) 1 = [43, 45, 49, 51, 40, 41, 91, 46, 44, 48, 93]
  t8 : textA dig kM (0, 0) (-3) = [46]
  t9 : textA dig kFar (3, 0) 2 = [33, 57, 40, 33, 49, 54, 40, 46, 41, 91, 48, 93, 41, 91, 48, 93]
  b1 : textA dig (kBig 129) (0, 0) 1 = [63]
  b2 : textA dig kWide (0, 0) 1 = [63]
  b3 : textA dig (kBig 128) (0, 0) 1 = [48]
  b4 : textA dig [] (0, 0) 2 = [63]
end Go.Proofs.YtoklaajiajilhaaDoor

/- For rows over slices of numbers: a slice of numbers that was handed in reads as numbers. -/
import Derived.Test.YtcpcmappnkoldaaDoorNums
import Derived.Test.YtcpcmappnkoldaaDoorRowKit
import Derived.OpenShut
namespace Go.Proofs.YtcpcmappnkoldaaDoor
open Go.ChangeShapes Go.WideShapes Go.RowKit

theorem cells_u64 : Tryd.prog.cellsOf 30 = 1 := by kernel_rfl
theorem cells_i64 : Tryd.prog.cellsOf 2 = 1 := by kernel_rfl

/-- A slice of numbers that was handed in reads as numbers. -/
theorem u64s_of {H : Type} {enc : TypeId × Value → H} {W : World} {sp : Nat → Bool} {A : Option Addr} {n c fuel : Nat} {x : DataW H × List MemPlace} (hsp : ∀ b, sp b = true)
    (h : DataW.trod enc Tryd.prog W 0 sp true fuel 52 [.slice A n c] = some x) : ∃ lf, U64s W A n lf := by
  rcases open_ints Tryd.underlying52 Tryd.underlying30 cells_u64 h with ⟨hcs, _⟩ | ⟨a, len, cap, zs, hcs, _, hl, _, hz, _, hcell, hwf⟩
  · refine ⟨fun _ => 0, fun k hk => ?_⟩
    simp only [List.cons.injEq, and_true, Value.slice.injEq] at hcs
    omega
  · refine ⟨fun k => (zs.getD k 0).toNat, fun k hk => ?_⟩
    simp only [List.cons.injEq, and_true, Value.slice.injEq] at hcs
    obtain ⟨rfl, rfl, rfl⟩ := hcs
    rw [hsp, if_pos rfl] at hz
    have hkz : k < zs.length := by omega
    obtain ⟨b, off, spot⟩ := a
    have hspot : spot = none := by simpa [Addr.add] using World.cell?_spot (hcell 0 (by omega))
    subst hspot
    have hm := hwf (zs.getD k 0) (by rw [List.getD_eq_getElem?_getD, List.getElem?_eq_getElem hkz]; exact List.getElem_mem hkz)
    have hr := bounds_u64 hm
    have hc := hcell k hkz
    have hlt := World.block_lt_of_cell? W _ hc
    refine ⟨b, off, rfl, ?_, ?_, ?_⟩
    · rw [add_plain] at hlt; exact hlt
    · show (zs.getD k 0).toNat < 18446744073709551616
      omega
    · show W.cell? _ = some (Value.int .u64 ((zs.getD k 0).toNat : Int))
      rw [Int.toNat_of_nonneg hr.1, ← add_plain]; exact hc
/-- The same for whole numbers. -/
theorem i64s_of {H : Type} {enc : TypeId × Value → H} {W : World} {sp : Nat → Bool} {A : Option Addr} {n c fuel : Nat} {x : DataW H × List MemPlace} (hsp : ∀ b, sp b = true)
    (h : DataW.trod enc Tryd.prog W 0 sp true fuel 53 [.slice A n c] = some x) : ∃ mf, I64s W A n mf := by
  rcases open_ints Tryd.underlying53 Tryd.underlying2 cells_i64 h with ⟨hcs, _⟩ | ⟨a, len, cap, zs, hcs, _, hl, _, hz, _, hcell, hwf⟩
  · refine ⟨fun _ => 0, fun k hk => ?_⟩
    simp only [List.cons.injEq, and_true, Value.slice.injEq] at hcs
    omega
  · refine ⟨fun k => zs.getD k 0, fun k hk => ?_⟩
    simp only [List.cons.injEq, and_true, Value.slice.injEq] at hcs
    obtain ⟨rfl, rfl, rfl⟩ := hcs
    rw [hsp, if_pos rfl] at hz
    have hkz : k < zs.length := by omega
    obtain ⟨b, off, spot⟩ := a
    have hspot : spot = none := by simpa [Addr.add] using World.cell?_spot (hcell 0 (by omega))
    subst hspot
    have hm := hwf (zs.getD k 0) (by rw [List.getD_eq_getElem?_getD, List.getElem?_eq_getElem hkz]; exact List.getElem_mem hkz)
    have hr := bounds_i64 hm
    have hc := hcell k hkz
    have hlt := World.block_lt_of_cell? W _ hc
    refine ⟨b, off, rfl, ?_, hr, ?_⟩
    · rw [add_plain] at hlt; exact hlt
    · rw [← add_plain]; exact hc
end Go.Proofs.YtcpcmappnkoldaaDoor

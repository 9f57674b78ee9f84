/- Instructions in memory: slices that read as numbers, an instruction's cells. No program. -/
import Derived.Test.YtgdoklbcmgkllaaWords
import Derived.RangeFuncOwn
namespace Go.Proofs.Ytgdoklbcmgkllaa
open Go.RowKit

/-- A slice that reads as a list of numbers; the block of its row is one of S. -/
def IntsA (S : Nat → Prop) (W : World) (v : Value) (zs : List Int) : Prop := ∃ (A : Option Addr) (c : Nat), v = .slice A zs.length c ∧ (zs ≠ [] → ∃ b off, A = some ⟨b, off, none⟩ ∧ S b ∧ ∀ (i : Nat) (z : Int), zs[i]? = some z → W.cell? ⟨b, off + i, none⟩ = some (.int .i64 z))
def Whole (z : Int) : Prop := -9223372036854775808 ≤ z ∧ z ≤ 9223372036854775807
structure Sg where
  a : Int
  b : Int
  c : Int
  d : Int
  lv : Value
  l : List Int
def Sg.cells (s : Sg) (op : Int) : Array Value := #[.int .i64 op, .int .i64 s.a, .int .i64 s.b, .int .i64 s.c, .int .i64 s.d, s.lv]
theorem cell_row {W W' : World} {p : Addr} {v : Value} {row : Option Nat} (h : W.cell? p = some v) (hg : W.grownBy W' row) (hr : some p.block ≠ row) : W'.cell? p = some v := by
  have hlt : p.block < W.heap.size := by
    rcases Nat.lt_or_ge p.block W.heap.size with hl | hl
    · exact hl
    · unfold World.cell? at h
      rw [Array.getElem?_eq_none hl] at h
      simp at h
  rw [World.cell?_of_block (hg.block _ hlt hr)]
  exact h
theorem cell_own {W W' : World} {p : Addr} {v : Value} {row : Option Nat} (h : W.cell? p = some v) (hg : W.grownBy W' row) (hr : ∀ r, row = some r → ∃ o : Obj, W.heap[r]? = some o ∧ o.isCells = false) : W'.cell? p = some v := by
  refine cell_row h hg (fun e => ?_)
  obtain ⟨o, ho, hc⟩ := hr _ e.symm
  unfold World.cell? at h
  rw [ho] at h
  cases o <;> simp_all [Obj.isCells]
theorem IntsA.row {S : Nat → Prop} {W W' : World} {v : Value} {zs : List Int} {row : Option Nat} (h : IntsA S W v zs) (hg : W.grownBy W' row) (hr : ∀ b, S b → some b ≠ row) : IntsA S W' v zs := by
  obtain ⟨A, c, h1, h2⟩ := h
  refine ⟨A, c, h1, fun hn => ?_⟩
  obtain ⟨b, off, h3, h4, h5⟩ := h2 hn
  exact ⟨b, off, h3, h4, fun i z hz => cell_row (h5 i z hz) hg (hr b h4)⟩
theorem IntsA.own {S : Nat → Prop} {W W' : World} {v : Value} {zs : List Int} {row : Option Nat} (h : IntsA S W v zs) (hg : W.grownBy W' row) (hr : ∀ r, row = some r → ∃ o : Obj, W.heap[r]? = some o ∧ o.isCells = false) : IntsA S W' v zs := by
  obtain ⟨A, c, h1, h2⟩ := h
  refine ⟨A, c, h1, fun hn => ?_⟩
  obtain ⟨b, off, h3, h4, h5⟩ := h2 hn
  exact ⟨b, off, h3, h4, fun i z hz => cell_own (h5 i z hz) hg hr⟩
end Go.Proofs.Ytgdoklbcmgkllaa

/- told: a nil error is no fault; a fault is told by its own number and place. -/
import Derived.Test.YtmbdaenjeeklfaaDoorWords
import Derived.Test.YtmbdaenjeeklfaaDoorErrs
import Derived.Test.YtmbdaenjeeklfaaDoorErrIs
import Derived.RegionTactic
import Derived.ChangeAlike
import Derived.Deep.RegionWith
import Derived.Deep.QuietTactic
import Derived.BigQuiet
import Derived.Laws.StructEq
namespace Go.Proofs.YtmbdaenjeeklfaaDoor
open Go.RowKit

def ErrType (w : World) : Prop := w.cell? ⟨0, 0, none⟩ = some (.iface 145 (.agg #[.pointer (some ⟨1, 44, none⟩)]))
theorem ErrType.lt {w : World} (h : ErrType w) : 0 < w.heap.size := by
  rcases Nat.lt_or_ge 0 w.heap.size with h' | h'
  · exact h'
  · simp [ErrType, World.cell?, Array.getElem?_eq_none h'] at h
theorem ErrType.kept {w w' : World} {row : Option Nat} (h : ErrType w) (hg : w.grownBy w' row) (hr : ∀ g, row = some g → 0 ≠ g) : ErrType w' := by
  have : w'.cell? ⟨0, 0, none⟩ = w.cell? ⟨0, 0, none⟩ := World.cell?_of_block (hg.block 0 h.lt (fun e => hr _ e.symm rfl))
  exact this.trans h

theorem as_rel (e t : Nat) (old : Value) (w : World) (hg : ErrType w) (ht : Blk w t 91 #[old]) :
    Calls Tryd.prog 47 #[.iface 91 (.pointer (some ⟨e, 0, none⟩)), .iface 96 (.pointer (some ⟨t, 0, none⟩))] w fun ev w' => ev = .returned (.bool true) ∧ w.grownBy w' (some t) ∧ Blk w' t 91 #[.pointer (some ⟨e, 0, none⟩)] := by
  refine (as_hit ⟨e, 0, none⟩ ⟨t, 0, none⟩ old w hg (ht.cell 0) (ht.frozen 0)).mono ?_
  rintro ev w' ⟨rfl, rfl⟩
  exact ⟨rfl, only_setCell (only_alloc (only_alloc (only_alloc (only_alloc (only_refl _ _) _) _) _) _) rfl _, ((((ht.alloc _).alloc _).alloc _).alloc _).set_ 0 _⟩

set_option maxHeartbeats 400000 in
theorem told_nil (a : Int) (w : World) :
    Calls Tryd.prog 24 #[.nilIface, .agg #[.int .i64 0, .int .i64 a]] w fun e w' => e = .returned (.bool true) ∧ w.grownBy w' none := by
  go_enter Tryd.func24, Tryd.ntmps24
  go_wp2
  go_ret
  first | exact ⟨rfl, only_alloc (only_refl _ _) _⟩ | exact ⟨rfl, only_alloc (only_alloc (only_refl _ _) _) _⟩

theorem told_facts {W w1 : World} {fb g f : Nat} {c a : Int} (hs : W.drew.grownBy w1 (some g)) (hg : Blk w1 g 91 #[.pointer (some ⟨fb, 0, none⟩)]) (hF : Blk W fb 48 #[.int .i64 c, .int .i64 a]) (hB : Blk W f 48 #[.int .i64 c, .int .i64 a]) (h1 : fb ≠ g) (h2 : f ≠ g) :
    w1.cell? ⟨g, 0, none⟩ = some (.pointer (some ⟨fb, 0, none⟩)) ∧ w1.cell? ⟨fb, 0, none⟩ = some (.int .i64 c) ∧ w1.cell? ⟨fb, 1, none⟩ = some (.int .i64 a) ∧ w1.cell? ⟨f, 0, none⟩ = some (.int .i64 c) ∧ w1.cell? ⟨f, 1, none⟩ = some (.int .i64 a) := by
  have e1 : some fb ≠ some g := fun e => h1 (by injection e)
  have e2 : some f ≠ some g := fun e => h2 (by injection e)
  exact ⟨hg.cell 0, (hF.drew.grown hs e1).cell 0, (hF.drew.grown hs e1).cell 1, (hB.drew.grown hs e2).cell 0, (hB.drew.grown hs e2).cell 1⟩

set_option maxHeartbeats 1000000 in
theorem told_hit (fb : Nat) (c a : Int) (w : World) (hg : ErrType w) (hb : Blk w fb 48 #[.int .i64 c, .int .i64 a]) (hc : (c == 0) = false) :
    Calls Tryd.prog 24 #[.iface 91 (.pointer (some ⟨fb, 0, none⟩)), .agg #[.int .i64 c, .int .i64 a]] w fun e w' => e = .returned (.bool true) ∧ w.grownBy w' none := by
  have hE : ∀ u, ErrType (((w.alloc (.cells #[.int .i64 c, .int .i64 a] 48)).alloc (.cells #[u] 91))) := fun u => hg.kept (only_alloc (only_alloc (only_refl w none) _) _) (fun g e => by cases e)
  have hF : ∀ u, Blk (((w.alloc (.cells #[.int .i64 c, .int .i64 a] 48)).alloc (.cells #[u] 91))) fb 48 #[.int .i64 c, .int .i64 a] := fun u => (hb.alloc _).alloc _
  have hB : ∀ u, Blk (((w.alloc (.cells #[.int .i64 c, .int .i64 a] 48)).alloc (.cells #[u] 91))) w.heap.size 48 #[.int .i64 c, .int .i64 a] := fun u => (Blk.new w _ _).alloc _
  have hG : ∀ u, Blk (((w.alloc (.cells #[.int .i64 c, .int .i64 a] 48)).alloc (.cells #[u] 91))) (w.heap.size + 1) 91 #[u] := fun u => by
    have := Blk.new (w.alloc (.cells #[.int .i64 c, .int .i64 a] 48)) 91 #[u]
    rwa [show (w.alloc (.cells #[.int .i64 c, .int .i64 a] 48)).heap.size = w.heap.size + 1 from by simp] at this
  have hS : ∀ u, w.grownBy (((w.alloc (.cells #[.int .i64 c, .int .i64 a] 48)).alloc (.cells #[u] 91))) none := fun u => only_alloc (only_alloc (only_refl w none) _) _
  go_enter Tryd.func24, Tryd.ntmps24
  go_wp2
  generalize hW : (w.alloc (Obj.cells #[Value.int IntKind.i64 c, Value.int IntKind.i64 a] 48)).alloc (Obj.cells #[Value.pointer none] 91) = W
  have hE' := hE (.pointer none)
  have hF' := hF (.pointer none)
  have hB' := hB (.pointer none)
  have hG' := hG (.pointer none)
  have hS' := hS (.pointer none)
  rw [hW] at hE' hF' hB' hG' hS'
  clear hW hE hF hB hG hS
  have hne : fb ≠ w.heap.size + 1 := by have := hb.lt; omega
  go_region_with (first
    | (go_at_call 47; refine (as_rel fb (w.heap.size + 1) (.pointer none) _ ?_ ?_).mono ?_; exact hE'; exact hG'; rintro e w1 ⟨rfl, hs1, hg1⟩; obtain ⟨k0, k1, k2, k3, k4⟩ := told_facts hs1 hg1 hF' hB' hne (by omega))
    | (go_at_call 48; refine (is_hit fb c _ ?_).mono ?_; exact k1; rintro e w' ⟨rfl, rfl⟩))
  all_goals (try go_wp2)
  all_goals (go_ret; exact ⟨rfl, only_new (only_drew hS') hs1 (by omega)⟩)
end Go.Proofs.YtmbdaenjeeklfaaDoor

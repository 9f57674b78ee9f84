/- octets: the faults of Part, and End: what each answers, and what it leaves. -/
import Derived.Test.YtmbdaenjeeklfaaDoorOctD
namespace Go.Proofs.YtmbdaenjeeklfaaDoor
open Go.RowKit

/-- A fault alone: its number c, its place a; nothing that was there has turned. -/
def ToldFault1 (c a : Int) (w : World) (e : Ending) (w' : World) : Prop :=
  ∃ fb, e = .returned (.iface 91 (.pointer (some ⟨fb, 0, none⟩))) ∧ Flt w' fb c a ∧ w.heap.size ≤ fb ∧ w.grownBy w' none

set_option maxRecDepth 100000 in
set_option maxHeartbeats 1000000 in
theorem end_none (w : World) :
    Calls Tryd.prog 29 #[.pointer none] w (ToldFault1 1 0 w) := by
  have hmf : ∀ (fn : Fn) (first cap : Array Value) (w : World), (Instr.makeFunc fn first cap).run Tryd.prog w = .ok (.func fn first cap) w := fun _ _ _ _ => rfl
  go_enter_defers Tryd.func29, Tryd.ntmps29
  go_wp2_with (first
    | (go_at_call 51; ((with_reducible refine (refuse_none _ _).mono ?_); rintro e w1 ⟨fb, rfl, h1, h2, h3⟩); obtain ⟨ce, fe, hF⟩ := caught rfl h1 h2 h3))
  refine leaves_cons (f := 49) (args := #[.pointer (some ⟨w.heap.size, 0, none⟩)]) (by simp) (by simp [go_sem]) ?_
  refine (end_catch ⟨w.heap.size, 0, none⟩ .nilIface ⟨fb, 0, none⟩ [] _ ce fe).mono ?_
  rintro e u' w'' ⟨rfl, rfl, rfl⟩
  have hc := World.cell?_setCell_same w1 ⟨w.heap.size, 0, none⟩ (.iface 91 (.pointer (some ⟨fb, 0, none⟩))) ce
  simp [Leaves, settle, results, Tryd.results29, go_sem, hc]
  exact ⟨fb, rfl, hF⟩

set_option maxRecDepth 100000 in
set_option maxHeartbeats 1000000 in
theorem end_long {w : World} {g : Nat} {bs : List UInt8} {at_ bg : Nat} (h : Rdr w g bs at_ bg) (ha : at_ < bs.length) :
    Calls Tryd.prog 29 #[.pointer (some ⟨g, 0, none⟩)] w (ToldFault1 4 ((bg : Int) + (at_ : Int)) w) := by
  have hmf : ∀ (fn : Fn) (first cap : Array Value) (w : World), (Instr.makeFunc fn first cap).run Tryd.prog w = .ok (.func fn first cap) w := fun _ _ _ _ => rfl
  have hR : Rdr (w.alloc (.cells #[.nilIface] 44)) g bs at_ bg := h.kept (only_alloc (only_refl _ _) _)
  have hR' := fun k => hR.kept (only_drewN (only_refl _ _) k)
  have d1 : decide (0 < (bs.length : Int) - (at_ : Int)) = true := by simp; omega
  go_enter_defers Tryd.func29, Tryd.ntmps29
  go_wp2_with (first
    | (go_at_call 51; ((with_reducible refine (refuse_not _ _ _).mono ?_); rintro e w' ⟨rfl, rfl⟩))
    | (go_at_call 30; ((with_reducible refine (left_rdr hR).mono ?_); rintro e w' ⟨rfl, k, rfl⟩))
    | (go_at_call 51; ((with_reducible refine (refuse_rdr (hR' _) _).mono ?_); rintro e w1 ⟨fb, rfl, h1, h2, h3⟩); obtain ⟨ce, fe, hF⟩ := caught rfl h1 h2 (only_trans (only_drewN (only_refl _ _) k) h3)))
  refine leaves_cons (f := 49) (args := #[.pointer (some ⟨w.heap.size, 0, none⟩)]) (by simp) (by simp [go_sem]) ?_
  refine (end_catch ⟨w.heap.size, 0, none⟩ .nilIface ⟨fb, 0, none⟩ [] _ ce fe).mono ?_
  rintro e u' w'' ⟨rfl, rfl, rfl⟩
  have hc := World.cell?_setCell_same w1 ⟨w.heap.size, 0, none⟩ (.iface 91 (.pointer (some ⟨fb, 0, none⟩))) ce
  simp [Leaves, settle, results, Tryd.results29, go_sem, hc]
  exact ⟨fb, rfl, hF⟩

theorem end_close (w : World) (k : Nat) :
    ((((w.alloc (.cells #[.nilIface] 44)).drewN k).setCell ⟨w.heap.size, 0, none⟩ .nilIface).setCell ⟨w.heap.size, 0, none⟩ .nilIface).cell? ⟨w.heap.size, 0, none⟩ = some .nilIface ∧
    w.grownBy ((((w.alloc (.cells #[.nilIface] 44)).drewN k).setCell ⟨w.heap.size, 0, none⟩ .nilIface).setCell ⟨w.heap.size, 0, none⟩ .nilIface) none := by
  have hb := (((Blk.new w 44 #[.nilIface]).drewN k).set_ 0 .nilIface).set_ 0 .nilIface
  exact ⟨hb.cell 0, only_setNew (only_setNew (only_drewN (only_alloc (only_refl w none) _) k) (Nat.le_refl _) _) (Nat.le_refl _) _⟩

set_option maxRecDepth 100000 in
set_option maxHeartbeats 1000000 in
theorem end_ok {w : World} {g : Nat} {bs : List UInt8} {at_ bg : Nat} (h : Rdr w g bs at_ bg) (ha : at_ = bs.length) :
    Calls Tryd.prog 29 #[.pointer (some ⟨g, 0, none⟩)] w fun e w' => e = .returned .nilIface ∧ w.grownBy w' none := by
  have hmf : ∀ (fn : Fn) (first cap : Array Value) (w : World), (Instr.makeFunc fn first cap).run Tryd.prog w = .ok (.func fn first cap) w := fun _ _ _ _ => rfl
  have hR : Rdr (w.alloc (.cells #[.nilIface] 44)) g bs at_ bg := h.kept (only_alloc (only_refl _ _) _)
  have d1 : decide (0 < (bs.length : Int) - (at_ : Int)) = false := by simp; omega
  have d2 : decide ((at_ : Int) < (bs.length : Int)) = false := by simp; omega
  have d3 : decide (at_ < bs.length) = false := by simp; omega
  clear ha
  have hcl := Lib.hid (end_close w)
  go_enter_defers Tryd.func29, Tryd.ntmps29
  go_wp2_with (first
    | (go_at_call 51; ((with_reducible refine (refuse_not _ _ _).mono ?_); rintro e w' ⟨rfl, rfl⟩))
    | (go_at_call 30; ((with_reducible refine (left_rdr hR).mono ?_); rintro e w' ⟨rfl, k, rfl⟩)))
  refine leaves_cons (f := 49) (args := #[.pointer (some ⟨w.heap.size, 0, none⟩)]) (by simp) (by simp [go_sem]) ?_
  refine (end_idle ⟨w.heap.size, 0, none⟩ .nilIface _ ?_ ?_).mono ?_
  · simp [go_sem]
  · simp [go_sem]
  rintro e u' w'' ⟨rfl, rfl, rfl⟩
  simp [Leaves, settle, results, Tryd.results29, go_sem]
  exact (hcl.out k).2
end Go.Proofs.YtmbdaenjeeklfaaDoor

/- octets: Byte, Take, Part and End of a reader: what each answers, and what it leaves. -/
import Derived.Test.YtmbdaenjeeklfaaDoorOctB
namespace Go.Proofs.YtmbdaenjeeklfaaDoor
open Go.RowKit

/-- A fault beside the value v: its number c, its place a; nothing that was there has turned. -/
def ToldFault (v : Value) (c a : Int) (w : World) (e : Ending) (w' : World) : Prop :=
  ∃ fb, e = .returned (.tuple #[v, .iface 91 (.pointer (some ⟨fb, 0, none⟩))]) ∧ Flt w' fb c a ∧ w.heap.size ≤ fb ∧ w.grownBy w' none

/-- What the closure's catch leaves behind a call that gave up. -/
theorem caught {w w1 w2 : World} {c a : Int} {fb : Nat} (hw1 : w1 = w.alloc (.cells #[.nilIface] 44)) (h1 : Flt w2 fb c a) (h2 : w1.heap.size ≤ fb) (h3 : w1.grownBy w2 none) :
    w2.cell? ⟨w.heap.size, 0, none⟩ = some .nilIface ∧ w2.frozen? ⟨w.heap.size, 0, none⟩ = false ∧
    Flt (w2.setCell ⟨w.heap.size, 0, none⟩ (.iface 91 (.pointer (some ⟨fb, 0, none⟩)))) fb c a ∧ w.heap.size ≤ fb ∧ w.grownBy (w2.setCell ⟨w.heap.size, 0, none⟩ (.iface 91 (.pointer (some ⟨fb, 0, none⟩)))) none := by
  subst hw1
  have hb := (Blk.new w 44 #[.nilIface]).kept h3
  have hs : (w.alloc (.cells #[.nilIface] 44)).heap.size = w.heap.size + 1 := by simp
  rw [hs] at h2
  exact ⟨hb.cell 0, hb.frozen 0, Blk.far h1 (p := ⟨w.heap.size, 0, none⟩) (by show fb ≠ w.heap.size; omega) _, by omega, only_setNew (only_trans (only_alloc (only_refl w none) _) h3) (Nat.le_refl _) _⟩

theorem byte_read {w w1 : World} {g bb off at_ : Nat} {bs : List UInt8} {u : UInt8} (hlt : g < w.heap.size) (hu : bs[at_]? = some u) (hg1 : (w.alloc (.cells #[.nilIface] 44)).grownBy w1 (some g)) (hy1 : Byts w1 bb off ((bs.drop at_).take 1)) :
    w1.cell? ⟨w.heap.size, 0, none⟩ = some .nilIface ∧ w1.frozen? ⟨w.heap.size, 0, none⟩ = false ∧ w1.cell? ⟨bb, off, none⟩ = some (.int .u8 (u.toNat : Int)) := by
  have hb := (Blk.new w 44 #[.nilIface]).grown hg1 (fun e => by injection e with e; omega)
  exact ⟨hb.cell 0, hb.frozen 0, hy1.cell (j := 0) (u := u) (by simp [hu])⟩

/-- The world behind the closure's call, where the call did not give up. -/
def okWorld (w w1 : World) : World := (w1.setCell ⟨w.heap.size, 0, none⟩ .nilIface).setCell ⟨w.heap.size, 0, none⟩ .nilIface
theorem ok_end {w w1 : World} {g a bg : Nat} {bs : List UInt8} (hlt : g < w.heap.size) (hg1 : (w.alloc (.cells #[.nilIface] 44)).grownBy w1 (some g)) (hr1 : Rdr w1 g bs a bg) :
    (okWorld w w1).cell? ⟨w.heap.size, 0, none⟩ = some .nilIface ∧ w.grownBy (okWorld w w1) (some g) ∧ Rdr (okWorld w w1) g bs a bg := by
  have hb := (Blk.new w 44 #[.nilIface]).grown hg1 (fun e => by injection e with e; omega)
  have hk : w1.grownBy (okWorld w w1) (some w.heap.size) := only_setCell (only_setCell (only_refl _ _) rfl _) rfl _
  have hb2 := (hb.set_ 0 .nilIface).set_ 0 .nilIface
  refine ⟨hb2.cell 0, ?_, ?_⟩
  · exact only_setNew (only_setNew (only_trans (only_weak (only_alloc (only_refl w none) _) _) hg1) (Nat.le_refl _) _) (Nat.le_refl _) _
  · exact hr1.grown hk (fun e => by injection e with e; omega) (fun k e => by
      injection e with e
      subst e
      exact ⟨_, _, hb, by decide⟩)
/-- The same for a byte slice that was handed out. -/
theorem ok_byts {w w1 : World} {g bb off : Nat} {bs : List UInt8} (hlt : g < w.heap.size) (hg1 : (w.alloc (.cells #[.nilIface] 44)).grownBy w1 (some g)) (hy : Byts w1 bb off bs) : Byts (okWorld w w1) bb off bs := by
  have hb := (Blk.new w 44 #[.nilIface]).grown hg1 (fun e => by injection e with e; omega)
  have hk : w1.grownBy (okWorld w w1) (some w.heap.size) := only_setCell (only_setCell (only_refl _ _) rfl _) rfl _
  exact hy.grown hk (fun e => (hy.ne_ hb (by decide)) (by injection e))

set_option maxRecDepth 100000 in
set_option maxHeartbeats 1000000 in
theorem byte_ok {w : World} {g : Nat} {bs : List UInt8} {at_ bg : Nat} (h : Rdr w g bs at_ bg) (u : UInt8) (hu : bs[at_]? = some u) :
    Calls Tryd.prog 43 #[.pointer (some ⟨g, 0, none⟩)] w fun e w' => e = .returned (.tuple #[.int .u8 (u.toNat : Int), .nilIface]) ∧ w.grownBy w' (some g) ∧ Rdr w' g bs (at_ + 1) bg := by
  have hmf : ∀ (fn : Fn) (first cap : Array Value) (w : World), (Instr.makeFunc fn first cap).run Tryd.prog w = .ok (.func fn first cap) w := fun _ _ _ _ => rfl
  have hR : Rdr (w.alloc (.cells #[.nilIface] 44)) g bs at_ bg := h.kept (only_alloc (only_refl _ _) _)
  have hn : at_ + 1 ≤ bs.length := by
    have := (List.getElem?_eq_some_iff.1 hu).1
    omega
  have hlt := h.lt
  have H : Calls Tryd.prog 60 #[.pointer (some ⟨g, 0, none⟩), .int .i64 1] (w.alloc (.cells #[.nilIface] 44)) (NextOk g bs at_ bg 1 (w.alloc (.cells #[.nilIface] 44))) := next_ok hR 1 hn
  go_enter_defers Tryd.func43, Tryd.ntmps43
  go_wp2_with (go_at_call 60; ((with_reducible refine H.mono ?_); rintro e w1 ⟨bb, off, rfl, hg1, hr1, hy1⟩); obtain ⟨ce, fe, cu⟩ := byte_read hlt hu hg1 hy1)
  refine leaves_cons (f := 59) (args := #[.pointer (some ⟨w.heap.size, 0, none⟩)]) (by simp) (by simp [go_sem]) ?_
  refine (byte_idle ⟨w.heap.size, 0, none⟩ .nilIface _ ?_ ?_).mono ?_
  · simp [go_sem, ce]
  · simp [go_sem, fe]
  rintro e u' w'' ⟨rfl, rfl, rfl⟩
  obtain ⟨e1, e2, e3⟩ := ok_end hlt hg1 hr1
  unfold okWorld at e1 e2 e3
  simp [Leaves, settle, results, Tryd.results43, go_sem, e1, e2, e3]

set_option maxRecDepth 100000 in
set_option maxHeartbeats 1000000 in
theorem byte_short {w : World} {g : Nat} {bs : List UInt8} {at_ bg : Nat} (h : Rdr w g bs at_ bg) (ha : at_ = bs.length) :
    Calls Tryd.prog 43 #[.pointer (some ⟨g, 0, none⟩)] w (ToldFault (.int .u8 0) 3 ((bg : Int) + (at_ : Int)) w) := by
  have hmf : ∀ (fn : Fn) (first cap : Array Value) (w : World), (Instr.makeFunc fn first cap).run Tryd.prog w = .ok (.func fn first cap) w := fun _ _ _ _ => rfl
  have hR : Rdr (w.alloc (.cells #[.nilIface] 44)) g bs at_ bg := h.kept (only_alloc (only_refl _ _) _)
  have H := next_short hR 1 (by omega)
  clear ha
  go_enter_defers Tryd.func43, Tryd.ntmps43
  go_wp2_with (go_at_call 60; ((with_reducible refine H.mono ?_); rintro e w1 ⟨fb, rfl, h1, h2, h3⟩); obtain ⟨ce, fe, hF⟩ := caught rfl h1 h2 h3)
  refine leaves_cons (f := 59) (args := #[.pointer (some ⟨w.heap.size, 0, none⟩)]) (by simp) (by simp [go_sem]) ?_
  refine (byte_catch ⟨w.heap.size, 0, none⟩ .nilIface ⟨fb, 0, none⟩ [] _ ce fe).mono ?_
  rintro e u' w'' ⟨rfl, rfl, rfl⟩
  have hc := World.cell?_setCell_same w1 ⟨w.heap.size, 0, none⟩ (.iface 91 (.pointer (some ⟨fb, 0, none⟩))) ce
  simp [Leaves, settle, results, Tryd.results43, go_sem, hc]
  exact ⟨fb, rfl, hF⟩

set_option maxRecDepth 100000 in
set_option maxHeartbeats 1000000 in
theorem byte_none (w : World) :
    Calls Tryd.prog 43 #[.pointer none] w (ToldFault (.int .u8 0) 1 0 w) := by
  have hmf : ∀ (fn : Fn) (first cap : Array Value) (w : World), (Instr.makeFunc fn first cap).run Tryd.prog w = .ok (.func fn first cap) w := fun _ _ _ _ => rfl
  have H := next_none 1 (w.alloc (.cells #[.nilIface] 44))
  go_enter_defers Tryd.func43, Tryd.ntmps43
  go_wp2_with (go_at_call 60; ((with_reducible refine H.mono ?_); rintro e w1 ⟨fb, rfl, h1, h2, h3⟩); obtain ⟨ce, fe, hF⟩ := caught rfl h1 h2 h3)
  refine leaves_cons (f := 59) (args := #[.pointer (some ⟨w.heap.size, 0, none⟩)]) (by simp) (by simp [go_sem]) ?_
  refine (byte_catch ⟨w.heap.size, 0, none⟩ .nilIface ⟨fb, 0, none⟩ [] _ ce fe).mono ?_
  rintro e u' w'' ⟨rfl, rfl, rfl⟩
  have hc := World.cell?_setCell_same w1 ⟨w.heap.size, 0, none⟩ (.iface 91 (.pointer (some ⟨fb, 0, none⟩))) ce
  simp [Leaves, settle, results, Tryd.results43, go_sem, hc]
  exact ⟨fb, rfl, hF⟩

end Go.Proofs.YtmbdaenjeeklfaaDoor

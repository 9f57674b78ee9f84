/- Texts joined for the claim's sake: OctD, OctE, OctW, Any. -/
import Derived.Test.YtohhojbeclbedaaGreatDoorZMKnwRow0
import Derived.Laws.IdiomStrings
import Derived.Lib.AppendStr
import Derived.Lib.BufferRead
import Derived.Deep.AppendLies
import Derived.Deep.Onto
import Derived.OwnWalk
import Derived.Orders
import Derived.Laws.Tables
import Derived.Laws.MakeOwn
import Derived.Great.BuildSlice
namespace Go.Proofs.YtohhojbeclbedaaGreatDoor
open Go.RowKit

/-- What Part leaves: a new reader of the next n bytes, and the old one behind them. -/
def PartOk (g : Nat) (bs : List UInt8) (at_ bg n : Nat) (w : World) (e : Ending) (w' : World) : Prop :=
  ∃ p, e = .returned (.tuple #[.pointer (some ⟨p, 0, none⟩), .nilIface]) ∧ w.heap.size ≤ p ∧ w.grownBy w' (some g) ∧ Rdr w' g bs (at_ + n) bg ∧ Rdr w' p ((bs.drop at_).take n) 0 (bg + at_)

/-- The world behind the closure's call of Part. -/
def partWorld (w w1 : World) (o : Obj) : World := ((w1.setCell ⟨w.heap.size, 0, none⟩ .nilIface).alloc o).setCell ⟨w.heap.size, 0, none⟩ .nilIface
theorem part_end {w w1 : World} {k g bb off n at_ bg : Nat} {bs : List UInt8} (hlt : g < w.heap.size) (hg1 : ((w.alloc (.cells #[.nilIface] 43)).drewN k).grownBy w1 (some g)) (hr1 : Rdr w1 g bs (at_ + n) bg) (hy1 : Byts w1 bb off ((bs.drop at_).take n)) :
    ((w1.setCell ⟨w.heap.size, 0, none⟩ .nilIface).alloc (.cells #[.slice (some ⟨bb, off, none⟩) n n, .int .i64 0, .int .i64 ((bg : Int) + (at_ : Int))] 111)).cell? ⟨w.heap.size, 0, none⟩ = some .nilIface ∧
    ((w1.setCell ⟨w.heap.size, 0, none⟩ .nilIface).alloc (.cells #[.slice (some ⟨bb, off, none⟩) n n, .int .i64 0, .int .i64 ((bg : Int) + (at_ : Int))] 111)).frozen? ⟨w.heap.size, 0, none⟩ = false ∧
    (partWorld w w1 (.cells #[.slice (some ⟨bb, off, none⟩) n n, .int .i64 0, .int .i64 ((bg : Int) + (at_ : Int))] 111)).cell? ⟨w.heap.size, 0, none⟩ = some .nilIface ∧
    PartOk g bs at_ bg n w (.returned (.tuple #[.pointer (some ⟨w1.heap.size, 0, none⟩), .nilIface])) (partWorld w w1 (.cells #[.slice (some ⟨bb, off, none⟩) n n, .int .i64 0, .int .i64 ((bg : Int) + (at_ : Int))] 111)) := by
  have hle := hr1.le
  have hbd := hr1.bound
  have hlen : ((bs.drop at_).take n).length = n := by simp; omega
  unfold PartOk
  generalize hl : (bs.drop at_).take n = l at *
  have hb := ((Blk.new w 43 #[.nilIface]).drewN k).grown hg1 (fun e => by injection e with e; omega)
  have hsz := hb.lt
  have hb1 := hb.set_ 0 .nilIface
  have hs1 : (w1.setCell ⟨w.heap.size, 0, none⟩ .nilIface).heap.size = w1.heap.size := by simp [World.setCell]
  have hro : ∀ (v : World) cs, Blk v w.heap.size 43 cs → ∀ j, some w.heap.size = some j → ∃ t cs, Blk v j t cs ∧ t ≠ 5 := fun v cs hv j e => by
    injection e with e
    subst e
    exact ⟨_, _, hv, by decide⟩
  have hk1 : w1.grownBy (w1.setCell ⟨w.heap.size, 0, none⟩ .nilIface) (some w.heap.size) := only_setCell (only_refl _ _) rfl _
  have hr2 := hr1.grown hk1 (fun e => by injection e with e; omega) (hro _ _ hb)
  have hy2 := hy1.grown hk1 (fun e => (hy1.ne_ hb (by decide)) (by injection e))
  have hg2 : w.grownBy (w1.setCell ⟨w.heap.size, 0, none⟩ .nilIface) (some g) := only_setNew (only_trans (only_weak (only_drewN (only_alloc (only_refl w none) _) k) _) hg1) (Nat.le_refl _) _
  unfold partWorld
  generalize w1.setCell ⟨w.heap.size, 0, none⟩ .nilIface = w2 at *
  have hnew := Blk.new w2 111 #[.slice (some ⟨bb, off, none⟩) n n, .int .i64 0, .int .i64 ((bg : Int) + (at_ : Int))]
  generalize hob : (Obj.cells #[.slice (some ⟨bb, off, none⟩) n n, .int .i64 0, .int .i64 ((bg : Int) + (at_ : Int))] 111) = ob at *
  have hk0 : w2.grownBy (w2.alloc ob) none := only_alloc (only_refl _ _) _
  have hk : (w2.alloc ob).grownBy ((w2.alloc ob).setCell ⟨w.heap.size, 0, none⟩ .nilIface) (some w.heap.size) := only_setCell (only_refl _ _) rfl _
  have hb' := hb1.kept hk0
  have hb2 := hb'.set_ 0 .nilIface
  have hpr : Rdr (w2.alloc ob) w1.heap.size l 0 (bg + at_) := by
    refine ⟨bb, off, n, ?_, hy2.grown hk0 (fun e => by cases e), by omega, by omega, by omega⟩
    rw [hlen, Int.natCast_add, ← hs1]
    exact hnew
  refine ⟨hb'.cell 0, hb'.frozen 0, hb2.cell 0, w1.heap.size, rfl, by omega, ?_, ?_, ?_⟩
  · exact only_setNew (only_alloc hg2 _) (Nat.le_refl _) _
  · exact (hr2.kept hk0).grown hk (fun e => by injection e with e; omega) (hro _ _ hb')
  · exact hpr.grown hk (fun e => by injection e with e; omega) (hro _ _ hb')

theorem part_read {w w1 : World} {g k : Nat} (hlt : g < w.heap.size) (hg1 : ((w.alloc (.cells #[.nilIface] 43)).drewN k).grownBy w1 (some g)) :
    w1.cell? ⟨w.heap.size, 0, none⟩ = some .nilIface ∧ w1.frozen? ⟨w.heap.size, 0, none⟩ = false ∧ w.heap.size < w1.heap.size := by
  have hb := ((Blk.new w 43 #[.nilIface]).drewN k).grown hg1 (fun e => by injection e with e; omega)
  exact ⟨hb.cell 0, hb.frozen 0, hb.lt⟩

set_option maxRecDepth 100000 in
set_option maxHeartbeats 1000000 in
theorem part_ok {w : World} {g : Nat} {bs : List UInt8} {at_ bg : Nat} (h : Rdr w g bs at_ bg) (n : Nat) (hn : at_ + n ≤ bs.length) :
    Calls Tryz.prog 198 #[.pointer (some ⟨g, 0, none⟩), .int .i64 (n : Int)] w (PartOk g bs at_ bg n w) := by
  have hmf : ∀ (fn : Fn) (first cap : Array Value) (w : World), (Instr.makeFunc fn first cap).run Tryz.prog w = .ok (.func fn first cap) w := fun _ _ _ _ => rfl
  have hR : Rdr (w.alloc (.cells #[.nilIface] 43)) g bs at_ bg := h.kept (only_alloc (only_refl _ _) _)
  have hlt := h.lt
  have HP := place_rdr hR
  have H := fun k => next_ok (hR.kept (only_drewN (only_refl _ _) k)) n hn
  clear hn
  go_enter_defers Tryz.func198, Tryz.ntmps198
  go_wp2_with (first
    | (go_at_call 110; ((with_reducible refine HP.mono ?_); rintro e w' ⟨rfl, k, rfl⟩))
    | (go_at_call 58; ((with_reducible refine (H _).mono ?_); rintro e w1 ⟨bb, off, rfl, hg1, hr1, hy1⟩); obtain ⟨ce, fe, cz⟩ := part_read hlt hg1))
  refine leaves_cons (f := 205) (args := #[.pointer (some ⟨w.heap.size, 0, none⟩)]) (by simp) (by simp [go_sem]) ?_
  obtain ⟨e0, f0, e1, e2⟩ := part_end hlt hg1 hr1 hy1
  refine (part_idle ⟨w.heap.size, 0, none⟩ .nilIface _ e0 f0).mono ?_
  rintro e u' w'' ⟨rfl, rfl, rfl⟩
  unfold partWorld at e1 e2
  simp [Leaves, settle, results, Tryz.results198, go_sem, e1, e2]

end Go.Proofs.YtohhojbeclbedaaGreatDoor

namespace Go.Proofs.YtohhojbeclbedaaGreatDoor
open Go.RowKit

set_option maxRecDepth 100000 in
set_option maxHeartbeats 1000000 in
theorem part_short {w : World} {g : Nat} {bs : List UInt8} {at_ bg : Nat} (h : Rdr w g bs at_ bg) (n : Int) (hn : (bs.length : Int) - (at_ : Int) < n) :
    Calls Tryz.prog 198 #[.pointer (some ⟨g, 0, none⟩), .int .i64 n] w (ToldFault (.pointer none) 3 ((bg : Int) + (at_ : Int)) w) := by
  have hmf : ∀ (fn : Fn) (first cap : Array Value) (w : World), (Instr.makeFunc fn first cap).run Tryz.prog w = .ok (.func fn first cap) w := fun _ _ _ _ => rfl
  have hR : Rdr (w.alloc (.cells #[.nilIface] 43)) g bs at_ bg := h.kept (only_alloc (only_refl _ _) _)
  have H := fun k => next_short (hR.kept (only_drewN (only_refl _ _) k)) n hn
  clear hn
  go_enter_defers Tryz.func198, Tryz.ntmps198
  go_wp2_with (first
    | (go_at_call 110; ((with_reducible refine (place_rdr hR).mono ?_); rintro e w' ⟨rfl, k, rfl⟩))
    | (go_at_call 58; ((with_reducible refine (H _).mono ?_); rintro e w1 ⟨fb, rfl, h1, h2, h3⟩); obtain ⟨ce, fe, hF⟩ := caught rfl h1 h2 (only_trans (only_drewN (only_refl _ _) k) h3)))
  refine leaves_cons (f := 205) (args := #[.pointer (some ⟨w.heap.size, 0, none⟩)]) (by simp) (by simp [go_sem]) ?_
  refine (part_catch ⟨w.heap.size, 0, none⟩ .nilIface ⟨fb, 0, none⟩ [] _ ce fe).mono ?_
  rintro e u' w'' ⟨rfl, rfl, rfl⟩
  have hc := World.cell?_setCell_same w1 ⟨w.heap.size, 0, none⟩ (.iface 94 (.pointer (some ⟨fb, 0, none⟩))) ce
  simp [Leaves, settle, results, Tryz.results198, go_sem, hc]
  exact ⟨fb, rfl, hF⟩

/-- A fault alone: its number c, its place a; nothing that was there has turned. -/
def ToldFault1 (c a : Int) (w : World) (e : Ending) (w' : World) : Prop :=
  ∃ fb, e = .returned (.iface 94 (.pointer (some ⟨fb, 0, none⟩))) ∧ Flt w' fb c a ∧ w.heap.size ≤ fb ∧ w.grownBy w' none

set_option maxRecDepth 100000 in
set_option maxHeartbeats 1000000 in
theorem end_long {w : World} {g : Nat} {bs : List UInt8} {at_ bg : Nat} (h : Rdr w g bs at_ bg) (ha : at_ < bs.length) :
    Calls Tryz.prog 47 #[.pointer (some ⟨g, 0, none⟩)] w (ToldFault1 4 ((bg : Int) + (at_ : Int)) w) := by
  have hmf : ∀ (fn : Fn) (first cap : Array Value) (w : World), (Instr.makeFunc fn first cap).run Tryz.prog w = .ok (.func fn first cap) w := fun _ _ _ _ => rfl
  have hR : Rdr (w.alloc (.cells #[.nilIface] 43)) g bs at_ bg := h.kept (only_alloc (only_refl _ _) _)
  have hR' := fun k => hR.kept (only_drewN (only_refl _ _) k)
  have d1 : decide (0 < (bs.length : Int) - (at_ : Int)) = true := by simp; omega
  go_enter_defers Tryz.func47, Tryz.ntmps47
  go_wp2_with (first
    | (go_at_call 122; ((with_reducible refine (refuse_not _ _ _).mono ?_); rintro e w' ⟨rfl, rfl⟩))
    | (go_at_call 18; ((with_reducible refine (left_rdr hR).mono ?_); rintro e w' ⟨rfl, k, rfl⟩))
    | (go_at_call 122; ((with_reducible refine (refuse_rdr (hR' _) _).mono ?_); rintro e w1 ⟨fb, rfl, h1, h2, h3⟩); obtain ⟨ce, fe, hF⟩ := caught rfl h1 h2 (only_trans (only_drewN (only_refl _ _) k) h3)))
  refine leaves_cons (f := 121) (args := #[.pointer (some ⟨w.heap.size, 0, none⟩)]) (by simp) (by simp [go_sem]) ?_
  refine (end_catch ⟨w.heap.size, 0, none⟩ .nilIface ⟨fb, 0, none⟩ [] _ ce fe).mono ?_
  rintro e u' w'' ⟨rfl, rfl, rfl⟩
  have hc := World.cell?_setCell_same w1 ⟨w.heap.size, 0, none⟩ (.iface 94 (.pointer (some ⟨fb, 0, none⟩))) ce
  simp [Leaves, settle, results, Tryz.results47, go_sem, hc]
  exact ⟨fb, rfl, hF⟩

theorem end_close (w : World) (k : Nat) :
    ((((w.alloc (.cells #[.nilIface] 43)).drewN k).setCell ⟨w.heap.size, 0, none⟩ .nilIface).setCell ⟨w.heap.size, 0, none⟩ .nilIface).cell? ⟨w.heap.size, 0, none⟩ = some .nilIface ∧
    w.grownBy ((((w.alloc (.cells #[.nilIface] 43)).drewN k).setCell ⟨w.heap.size, 0, none⟩ .nilIface).setCell ⟨w.heap.size, 0, none⟩ .nilIface) none := by
  have hb := (((Blk.new w 43 #[.nilIface]).drewN k).set_ 0 .nilIface).set_ 0 .nilIface
  exact ⟨hb.cell 0, only_setNew (only_setNew (only_drewN (only_alloc (only_refl w none) _) k) (Nat.le_refl _) _) (Nat.le_refl _) _⟩

set_option maxRecDepth 100000 in
set_option maxHeartbeats 1000000 in
theorem end_ok {w : World} {g : Nat} {bs : List UInt8} {at_ bg : Nat} (h : Rdr w g bs at_ bg) (ha : at_ = bs.length) :
    Calls Tryz.prog 47 #[.pointer (some ⟨g, 0, none⟩)] w fun e w' => e = .returned .nilIface ∧ w.grownBy w' none := by
  have hmf : ∀ (fn : Fn) (first cap : Array Value) (w : World), (Instr.makeFunc fn first cap).run Tryz.prog w = .ok (.func fn first cap) w := fun _ _ _ _ => rfl
  have hR : Rdr (w.alloc (.cells #[.nilIface] 43)) g bs at_ bg := h.kept (only_alloc (only_refl _ _) _)
  have d1 : decide (0 < (bs.length : Int) - (at_ : Int)) = false := by simp; omega
  have d2 : decide ((at_ : Int) < (bs.length : Int)) = false := by simp; omega
  have d3 : decide (at_ < bs.length) = false := by simp; omega
  clear ha
  have hcl := Lib.hid (end_close w)
  go_enter_defers Tryz.func47, Tryz.ntmps47
  go_wp2_with (first
    | (go_at_call 122; ((with_reducible refine (refuse_not _ _ _).mono ?_); rintro e w' ⟨rfl, rfl⟩))
    | (go_at_call 18; ((with_reducible refine (left_rdr hR).mono ?_); rintro e w' ⟨rfl, k, rfl⟩)))
  refine leaves_cons (f := 121) (args := #[.pointer (some ⟨w.heap.size, 0, none⟩)]) (by simp) (by simp [go_sem]) ?_
  refine (end_idle ⟨w.heap.size, 0, none⟩ .nilIface _ ?_ ?_).mono ?_
  · simp [go_sem]
  · simp [go_sem]
  rintro e u' w'' ⟨rfl, rfl, rfl⟩
  simp [Leaves, settle, results, Tryz.results47, go_sem]
  exact (hcl.out k).2
end Go.Proofs.YtohhojbeclbedaaGreatDoor

namespace Go.Proofs.YtohhojbeclbedaaGreatDoor
open Go.RowKit

theorem bytes_len (s : ByteArray) : s.data.toList.length = s.size := by rw [Array.length_toList]; rfl

theorem reader_end (s : ByteArray) (w : World) (hs : s.size ≤ 4611686018427387904) (cap : Nat) (hc : s.size ≤ cap) :
    w.grownBy (((w.alloc (.cells (bytesRow s cap) 5 ((bytesRow s cap).size, (bytesRow s cap).size + 1))).alloc (.cells #[.slice (some ⟨w.heap.size, 0, none⟩) s.size cap, .int .i64 0, .int .i64 0] 111)).drew) none ∧
    Rdr (((w.alloc (.cells (bytesRow s cap) 5 ((bytesRow s cap).size, (bytesRow s cap).size + 1))).alloc (.cells #[.slice (some ⟨w.heap.size, 0, none⟩) s.size cap, .int .i64 0, .int .i64 0] 111)).drew) (w.heap.size + 1) s.data.toList 0 0 := by
  have hsz : s.size = s.data.toList.length := (bytes_len s).symm
  generalize hw1 : w.alloc (.cells (bytesRow s cap) 5 ((bytesRow s cap).size, (bytesRow s cap).size + 1)) = w1
  have h1 : w.grownBy w1 none := by subst hw1; exact only_alloc (only_refl _ _) _
  have hz : w1.heap.size = w.heap.size + 1 := by subst hw1; simp
  have hb : Byts w1 w.heap.size 0 s.data.toList := by
    refine ⟨bytesRow s cap, ((bytesRow s cap).size, (bytesRow s cap).size + 1), ?_, fun j u hj => ?_⟩
    · subst hw1; exact heap_alloc_new w _
    · have hjl : j < s.data.size := by simpa using (List.getElem?_eq_some_iff.1 hj).1
      rw [Nat.zero_add, bytesRow_at s cap j hjl]
      have : s.data[j] = u := by
        have h2 := (List.getElem?_eq_some_iff.1 hj).2
        simpa using h2
      rw [this]
  have hnew := Blk.new w1 111 #[.slice (some ⟨w.heap.size, 0, none⟩) s.size cap, .int .i64 0, .int .i64 0]
  rw [hz] at hnew
  refine ⟨only_drew (only_alloc h1 _), w.heap.size, 0, cap, ?_, ?_, by omega, by omega, by omega⟩
  · rw [← hsz]; exact hnew.drew
  · exact (hb.grown (only_alloc (only_refl _ none) _) (fun e => by cases e)).keep rfl

set_option maxHeartbeats 400000 in
/-- NewReader: a reader of the string's bytes, at its beginning. -/
theorem newReader_any (s : ByteArray) (w : World) (hs : s.size ≤ 4611686018427387904) :
    Calls Tryz.prog 49 #[.string s] w fun e w' => ∃ g, e = .returned (.pointer (some ⟨g, 0, none⟩)) ∧ w.heap.size ≤ g ∧ w.grownBy w' none ∧ Rdr w' g s.data.toList 0 0 := by
  have hcv := fun W : World => run_bytes_of_string (P := Tryz.prog) W 9 93 5 s Tryz.underlying9 Tryz.underlying93 Tryz.underlying5
  have hend := Lib.hid (reader_end s w hs (grownCap w s.size 0 5) (grownCap_ge w s.size 0 5))
  go_enter Tryz.func49, Tryz.ntmps49
  go_wp2
  go_ret
  exact ⟨w.heap.size + 1, rfl, by omega, hend.out⟩

/-! ### WRITERS -/

/-- A block of bytes. -/
def IsU8 (w : World) (i : Nat) : Prop := ∃ cs fr, w.heap[i]? = some (.cells cs 5 fr)
/-- A step that turns no block of w but those in S. -/
structure Turn (S : Nat → Prop) (w w' : World) : Prop where
  os : w'.os = w.os
  tape : w'.tape = w.tape
  output : w'.output = w.output
  size : w.heap.size ≤ w'.heap.size
  block : ∀ i, i < w.heap.size → ¬ S i → w'.heap[i]? = w.heap[i]?
/-- The blocks that a writer at g turns: its own, and bytes from block B on. -/
def WS (B : Nat) (w : World) (g i : Nat) : Prop := i = g ∨ (B ≤ i ∧ IsU8 w i)
theorem Turn.of_only {S : Nat → Prop} {w w' : World} {row : Option Nat} (h : w.grownBy w' row) (hr : ∀ g, row = some g → S g) : Turn S w w' :=
  ⟨h.os, h.tape, h.output, h.size, fun i hi hn => h.block i hi (fun e => hn (hr i e.symm))⟩
theorem Turn.below {S : Nat → Prop} {w w' : World} (h : Turn S w w') {B : Nat} (hB : B ≤ w.heap.size) (hS : ∀ i, S i → B ≤ i) : Below B w w' :=
  ⟨h.os, h.tape, h.output, h.size, fun k hk => h.block k (by omega) (fun hs => by have := hS k hs; omega)⟩
theorem Blk.turn {S : Nat → Prop} {w w' : World} {g : Nat} {t : TypeId} {cs : Array Value} (h : Blk w g t cs) (ht : Turn S w w') (hn : ¬ S g) : Blk w' g t cs := (ht.block g h.lt hn).trans h
theorem Blk.not_u8 {w : World} {g : Nat} {t : TypeId} {cs : Array Value} (h : Blk w g t cs) (ht : t ≠ 5) : ¬ IsU8 w g := by
  rintro ⟨cs', fr, h'⟩
  unfold Blk at h
  rw [h] at h'
  injection h' with h'
  injection h' with _ h2
  exact ht h2

/-- Block g is a writer of the bytes bs; all that it owns lies from block B on. -/
def Wtr (B : Nat) (w : World) (g : Nat) (bs : List UInt8) : Prop :=
  B ≤ g ∧ ∃ v, Blk w g 182 #[v] ∧ w.ownsRow B 5 1 v bs.length (bs.map fun u => .int .u8 (u.toNat : Int))
theorem Wtr.lt {B : Nat} {w : World} {g : Nat} {bs : List UInt8} (h : Wtr B w g bs) : g < w.heap.size := by obtain ⟨_, _, h, _⟩ := h; exact h.lt
theorem own_u8 {w : World} {B n : Nat} {v : Value} {xs : List Value} (h : w.ownsRow B 5 1 v n xs) {k : Nat} (hk : v.ownBlock = some k) : B ≤ k ∧ IsU8 w k := by
  refine ⟨(h.lt k hk).1, ?_⟩
  rcases h.2 with ⟨rfl, _⟩ | ⟨g, cap, cur, rfl, _, hh, _⟩
  · simp [Value.ownBlock] at hk
  · simp [Value.ownBlock] at hk
    subst hk
    exact ⟨_, _, hh⟩
theorem own_shape {w : World} {B n : Nat} {e : TypeId} {size : Nat} {v : Value} {xs : List Value} (h : w.ownsRow B e size v n xs) : ∃ A c, v = .slice A n c := by
  rcases h.2 with ⟨rfl, rfl⟩ | ⟨g, cap, cur, rfl, _⟩
  · exact ⟨_, _, rfl⟩
  · exact ⟨_, _, rfl⟩
theorem Wtr.kept {B : Nat} {w w' : World} {g : Nat} {bs : List UInt8} (h : Wtr B w g bs) (hg : w.grownBy w' none) : Wtr B w' g bs := by
  obtain ⟨hB, v, hb, ho⟩ := h
  exact ⟨hB, v, hb.kept hg, ho.kept hg (by cases hv : v.ownBlock <;> simp)⟩

theorem u8_info : (Tryz.prog.info? 5).map (fun i => (i.zero, i.size, i.bytes)) = some (some (.int .u8 0), 1, 1) := by kernel_rfl

set_option maxHeartbeats 400000 in
theorem newWriter_any (B : Nat) (w : World) (hB : B ≤ w.heap.size) :
    Calls Tryz.prog 59 #[] w fun e w' => ∃ g, e = .returned (.pointer (some ⟨g, 0, none⟩)) ∧ w.heap.size ≤ g ∧ w.grownBy w' none ∧ Wtr B w' g [] := by
  go_enter Tryz.func59, Tryz.ntmps59
  go_wp2
  go_ret
  exact ⟨w.heap.size, rfl, Nat.le_refl _, only_alloc (only_refl _ _) _, hB, .slice none 0 0, Blk.new w _ _, World.ownsRow_nil _ _ _ _⟩

/-- Behind an append the row is stored back into the writer's block. -/
theorem write_end {B g n m : Nat} {w w1 : World} {v v' : Value} {xs ys : List Value} {bs : List UInt8} (hB : B ≤ g) (hb : Blk w g 182 #[v]) (ho : w.ownsRow B 5 1 v n xs) (hg : w.grownBy w1 v.ownBlock)
    (ho1 : w1.ownsRow B 5 1 v' (n + m) ys) (hys : ys = bs.map fun u => .int .u8 (u.toNat : Int)) (hn : n + m = bs.length) (k : Nat) :
    Blk w1 g 182 #[v] ∧ Wtr B ((w1.drewN k).setCell ⟨g, 0, none⟩ v') g bs ∧ Turn (WS B w g) w ((w1.drewN k).setCell ⟨g, 0, none⟩ v') := by
  have hne : v.ownBlock ≠ some g := fun e => hb.not_u8 (by decide) (own_u8 ho e).2
  have hb1 : Blk w1 g 182 #[v] := hb.grown hg (fun e => hne e.symm)
  have hne1 : v'.ownBlock ≠ some g := fun e => hb1.not_u8 (by decide) (own_u8 ho1 e).2
  have hs : (w1.drewN k).grownBy ((w1.drewN k).setCell ⟨g, 0, none⟩ v') (some g) := only_setCell (only_refl _ _) rfl _
  refine ⟨hb1, ⟨hB, v', (hb1.drewN k).set_ 0 v', ?_⟩, ?_⟩
  · rw [← hys, ← hn]
    exact World.ownsRow.kept (w := w1.drewN k) ho1 hs (.inr hne1)
  · have h1 : Turn (WS B w g) w w1 := Turn.of_only hg (fun j e => .inr (own_u8 ho e))
    exact ⟨h1.os, h1.tape, h1.output, by simpa [World.setCell] using h1.size, fun i hi hn => (Below.heap_setCell (w1.drewN k) _ _ i (fun e => hn (.inl e))).trans (h1.block i hi hn)⟩

set_option maxRecDepth 100000 in
set_option maxHeartbeats 1000000 in
theorem wput_any {B g : Nat} {w : World} {bs : List UInt8} (h : Wtr B w g bs) (hB : B ≤ w.heap.size) (s : ByteArray) (hl : bs.length + s.size ≤ 1099511627776) :
    Calls Tryz.prog 60 #[.pointer (some ⟨g, 0, none⟩), .string s] w fun e w' => e = .returned (.tuple #[]) ∧ Wtr B w' g (bs ++ s.data.toList) ∧ Turn (WS B w g) w w' := by
  obtain ⟨hBg, v, hb, ho⟩ := h
  have c0 : w.cell? ⟨g, 0, none⟩ = some v := hb.cell 0
  obtain ⟨i0, hi, hz0, hz1, hz2⟩ := info_parts u8_info
  have hend := Lib.hid (fun (w1 : World) v' k hg ho1 => write_end (w1 := w1) (v' := v') (m := s.size) (ys := (bs.map fun u => Value.int .u8 (u.toNat : Int)) ++ Lib.strCells s) (bs := bs ++ s.data.toList) hBg hb ho hg ho1 (by rw [List.map_append]; rfl) (by rw [List.length_append, bytes_len]) k)
  have H3 : Hid (bs.length + s.size ≤ maxLen) := by unfold maxLen; show _ ≤ _; omega
  have H4 : Hid (bs.length + s.size ≤ 140737488355328) := by show _ ≤ _; omega
  clear hl
  go_enter Tryz.func60, Tryz.ntmps60
  go_wp2_with (at_builtin; go_must (refine Lib.wpList_append_own_string _ rfl _ _ 93 9 rfl B 5 i0 Tryz.underlying93 Tryz.underlying9 hi hz0 hz1 hz2 _ _ _ rfl ho s rfl H3.out H4.out hB ?_); intro v' w1 ho1 hg1 _; obtain ⟨A, c, hv⟩ := own_shape ho1; subst hv; have hk := (hend.out w1 _ 0 hg1 ho1).1; have k0 : w1.cell? ⟨g, 0, none⟩ = some v := hk.cell 0; have k1 := hk.frozen 0; clear hk)
  go_end0
  obtain ⟨_, e1, e2⟩ := hend.out w1 _ 0 hg1 ho1
  exact ⟨rfl, e1, e2⟩

set_option maxRecDepth 100000 in
set_option maxHeartbeats 1000000 in
theorem wbyte_any {B g : Nat} {w : World} {bs : List UInt8} (h : Wtr B w g bs) (hB : B ≤ w.heap.size) (u : UInt8) (hl : bs.length + 1 ≤ 1099511627776) :
    Calls Tryz.prog 61 #[.pointer (some ⟨g, 0, none⟩), .int .u8 (u.toNat : Int)] w fun e w' => e = .returned (.tuple #[]) ∧ Wtr B w' g (bs ++ [u]) ∧ Turn (WS B w g) w w' := by
  have hgl := h.lt
  have hW : Wtr B (w.alloc (.cells #[.int .u8 (u.toNat : Int)] 5)) g bs := h.kept (only_alloc (only_refl _ _) _)
  have h0 : w.grownBy (w.alloc (.cells #[.int .u8 (u.toNat : Int)] 5)) none := only_alloc (only_refl _ _) _
  have hT : ∀ w2, Turn (WS B (w.alloc (.cells #[.int .u8 (u.toNat : Int)] 5)) g) (w.alloc (.cells #[.int .u8 (u.toNat : Int)] 5)) w2 → Turn (WS B w g) w w2 := fun w2 ht =>
    ⟨ht.os.trans h0.os, ht.tape.trans h0.tape, ht.output.trans h0.output, Nat.le_trans h0.size ht.size, fun i hi hn => by
      have hi' : (w.alloc (.cells #[.int .u8 (u.toNat : Int)] 5)).heap[i]? = w.heap[i]? := h0.block i hi (fun e => by cases e)
      refine (ht.block i (Nat.lt_of_lt_of_le hi h0.size) (fun hs => hn ?_)).trans hi'
      rcases hs with rfl | ⟨h1, cs, fr, h2⟩
      · exact .inl rfl
      · exact .inr ⟨h1, cs, fr, hi'.symm.trans h2⟩⟩
  have hB' : B ≤ (w.alloc (.cells #[.int .u8 (u.toNat : Int)] 5)).heap.size := by simp; omega
  obtain ⟨hBg, v, hb0, _⟩ := h
  have c0 : w.cell? ⟨g, 0, none⟩ = some v := hb0.cell 0
  obtain ⟨_, v2, hb, ho⟩ := hW
  obtain rfl : v = v2 := by
    have h3 := (hb0.kept h0).symm.trans hb
    injection h3 with h3
    injection h3 with h3
    injection h3 with h3
    injection h3
  obtain ⟨i0, hi, hz0, hz1, hz2⟩ := info_parts u8_info
  have H3 : Hid (bs.length + 1 ≤ maxLen) := by unfold maxLen; show _ ≤ _; omega
  have H4 : Hid ((bs.length + 1) * 1 ≤ 140737488355328) := by show _ ≤ _; omega
  have hc1 : ∀ j x, [Value.int .u8 (u.toNat : Int)][j]? = some x → (w.alloc (.cells #[.int .u8 (u.toNat : Int)] 5)).cell? ((⟨w.heap.size, 0, none⟩ : Addr).add j) = some x := cell_one_new _ _ _
  clear hl
  have hend := Lib.hid (fun (w1 : World) v' k hg ho1 => write_end (w1 := w1) (v' := v') (m := 1) (ys := (bs.map fun u => Value.int .u8 (u.toNat : Int)) ++ [Value.int .u8 (u.toNat : Int)]) (bs := bs ++ [u]) hBg hb ho hg ho1 (by rw [List.map_append]; rfl) (by rw [List.length_append]; rfl) k)
  have HT := Lib.hid hT
  clear hT h0 hb0
  go_enter Tryz.func61, Tryz.ntmps61
  go_wp2_with (at_builtin; go_loud (refine wpList_append_own _ rfl _ _ 93 rfl B 5 i0 (.int .u8 0) 1 1 Tryz.underlying93 hi hz0 hz1 hz2 rfl (by decide) _ _ _ rfl ho ⟨w.heap.size, 0, none⟩ 1 1 [.int .u8 (u.toNat : Int)] rfl rfl hc1 (by simp [Value.oneCell']) H3.out H4.out hB' ?_); intro v' w1 ho1 hg1 _; obtain ⟨A, c, hv⟩ := own_shape ho1; subst hv; have hk := (hend.out w1 _ 0 hg1 ho1).1; have k0 : w1.cell? ⟨g, 0, none⟩ = some v := hk.cell 0; have k1 := hk.frozen 0; clear hk)
  go_end0
  obtain ⟨_, e1, e2⟩ := hend.out w1 _ 0 hg1 ho1
  exact ⟨rfl, e1, HT.out _ e2⟩

theorem own_string {w : World} {B : Nat} {v : Value} {bs : List UInt8} (ho : w.ownsRow B 5 1 v bs.length (bs.map fun u => .int .u8 (u.toNat : Int))) :
    (convert 93 9 v).run Tryz.prog w = .ok (.string ⟨bs.toArray⟩) w := by
  rcases ho.2 with ⟨rfl, h0⟩ | ⟨g, cap, cur, rfl, _⟩
  · obtain rfl : bs = [] := List.eq_nil_of_length_eq_zero h0
    exact Lib.run_convert_nil_bytes w _ _ _ 0 Tryz.underlying93 Tryz.underlying5 Tryz.underlying9
  · have hc := ho.cells (g := g) rfl
    refine run_convert_bytes_back w _ _ _ ⟨g, 0, none⟩ cap bs Tryz.underlying93 Tryz.underlying5 Tryz.underlying9 fun j hj => ?_
    exact hc j _ (by simp [List.getElem?_eq_getElem hj])

set_option maxHeartbeats 400000 in
theorem wtext_any {B g : Nat} {w : World} {bs : List UInt8} (h : Wtr B w g bs) :
    Calls Tryz.prog 63 #[.pointer (some ⟨g, 0, none⟩)] w fun e w' => e = .returned (.string ⟨bs.toArray⟩) ∧ w = w' := by
  obtain ⟨_, v, hb, ho⟩ := h
  have hcv := own_string ho
  obtain ⟨A, c, rfl⟩ := own_shape ho
  have c0 : w.cell? ⟨g, 0, none⟩ = some (.slice A bs.length c) := hb.cell 0
  clear hb ho
  go_enter Tryz.func63, Tryz.ntmps63
  go_wp2
  go_ret
  exact ⟨rfl, rfl⟩
end Go.Proofs.YtohhojbeclbedaaGreatDoor

namespace Go.Proofs.YtohhojbeclbedaaGreatDoor
open Go.RowKit

section
variable {P : Program} {ops : Array Oper} {Q : Exit → Act → World → Prop} {md : Region.Mode}

theorem count_set {l : List Bool} {i : Nat} (h : l[i]? = some false) : (l.set i true).countP (! ·) + 1 = l.countP (! ·) := by
  induction l generalizing i with
  | nil => simp at h
  | cons b l ih =>
    cases i with
    | zero =>
      simp only [List.getElem?_cons_zero, Option.some.injEq] at h
      subst h
      simp
    | succ i =>
      rw [List.getElem?_cons_succ] at h
      have := ih h
      simp only [List.set_cons_succ, List.countP_cons]
      omega
/-- All orders, by what holds between two operations. -/
theorem wpAny_inv (I : Array Bool → Act → World → Prop)
    (hstep : ∀ listed a w, listed.size = ops.size → I listed a w → ∀ i ∈ Region.ready md ops listed, wpOp P ops Q i (I (listed.setIfInBounds i true)) a w)
    (hdone : ∀ listed a w, listed.size = ops.size → I listed a w → Region.ready md ops listed = [] → Q .normal a w) :
    ∀ (fuel : Nat) (listed : Array Bool) (a : Act) (w : World), listed.size = ops.size → listed.toList.countP (! ·) ≤ fuel → I listed a w → wpAny P md ops Q fuel listed a w
  | 0, listed, a, w, hs, hc, h => by
    have hr : Region.ready md ops listed = [] := by
      rw [List.eq_nil_iff_forall_not_mem]
      intro i hi
      obtain ⟨h0, _⟩ := mem_ready.1 hi
      rcases Nat.lt_or_ge i listed.size with hlt | hge
      · have h1 : listed[i] = false := by simpa [hlt] using h0
        have h2 : 0 < listed.toList.countP (! ·) := List.countP_pos_iff.2 ⟨false, by rw [← h1]; exact Array.getElem_mem_toList hlt, rfl⟩
        omega
      · simp [Array.getElem?_eq_none hge] at h0
    exact ⟨hr, hdone _ _ _ hs h hr⟩
  | fuel + 1, listed, a, w, hs, hc, h => by
    refine ⟨hdone _ _ _ hs h, fun i hi => wpOp_mono (fun a' w' h' => wpAny_inv I hstep hdone fuel _ _ _ (by simpa using hs) ?_ h') (hstep _ _ _ hs h i hi)⟩
    obtain ⟨h0, _⟩ := mem_ready.1 hi
    rcases Nat.lt_or_ge i listed.size with hlt | hge
    · have h1 : listed.toList[i]? = some false := by
        have : listed[i] = false := by simpa [hlt] using h0
        rw [Array.getElem?_toList, Array.getElem?_eq_getElem hlt, this]
      have h2 := count_set h1
      rw [← Array.toList_setIfInBounds] at h2
      omega
    · simp [Array.getElem?_eq_none hge] at h0
end

/-- What a cell reads as: a value; or a slice whose row lies in a block of its own. -/
inductive Cl where
  | v (u : Value)
  | s (e : TypeId) (cs : List Cl) (n : Nat)
mutual
def Cell (W : World) : Cl → Value → Prop
  | .v u, x => x = u
  | .s e cs n, x => ∃ b us, x = .slice (some ⟨b, 0, none⟩) n n ∧ Blk W b e us ∧ Cells W cs us.toList
def Cells (W : World) : List Cl → List Value → Prop
  | [], [] => True
  | c :: cs, u :: us => Cell W c u ∧ Cells W cs us
  | [], _ :: _ => False
  | _ :: _, [] => False
end
mutual
theorem Cell.kept {W W' : World} (hg : W.grownBy W' none) : ∀ (c : Cl) (x : Value), Cell W c x → Cell W' c x
  | .v _, _, h => h
  | .s _ cs _, _, h => by
    simp only [Cell] at h ⊢
    obtain ⟨b, us, h1, h2, h3⟩ := h
    exact ⟨b, us, h1, h2.kept hg, Cells.kept hg cs us.toList h3⟩
theorem Cells.kept {W W' : World} (hg : W.grownBy W' none) : ∀ (cs : List Cl) (us : List Value), Cells W cs us → Cells W' cs us
  | [], [], _ => trivial
  | c :: cs, u :: us, h => ⟨Cell.kept hg c u h.1, Cells.kept hg cs us h.2⟩
end
theorem Cells.length {W : World} : ∀ {cs : List Cl} {us : List Value}, Cells W cs us → cs.length = us.length
  | [], [], _ => rfl
  | _ :: cs, _ :: us, h => by simp [Cells.length h.2]
theorem Cells.set {W : World} {c : Cl} {u : Value} (hc : Cell W c u) : ∀ {cs : List Cl} {us : List Value} (i : Nat), Cells W cs us → Cells W (cs.set i c) (us.set i u)
  | [], [], _, _ => trivial
  | _ :: _, _ :: _, 0, h => ⟨hc, h.2⟩
  | _ :: _, _ :: _, i + 1, h => ⟨h.1, Cells.set hc i h.2⟩
theorem Cells.at_ {W : World} : ∀ {cs : List Cl} {us : List Value} (i : Nat) (c : Cl), Cells W cs us → cs[i]? = some c → ∃ u, us[i]? = some u ∧ Cell W c u
  | [], [], _, _, _, h => by simp at h
  | c :: _, u :: _, 0, c', h, hc => by
    simp only [List.getElem?_cons_zero, Option.some.injEq] at hc
    subst hc
    exact ⟨u, rfl, h.1⟩
  | _ :: _, _ :: _, i + 1, c', h, hc => by
    rw [List.getElem?_cons_succ] at hc ⊢
    exact Cells.at_ i c' h.2 hc
/-- What a value reads as: one cell; or a struct's cells. -/
inductive Rd where
  | one (c : Cl)
  | agg (cs : List Cl)
def Rd.cells : Rd → List Cl
  | .one c => [c]
  | .agg cs => cs
def Reads (W : World) : Rd → Value → Prop
  | .one c, x => Cell W c x ∧ x.cells = #[x]
  | .agg cs, x => ∃ us, x = .agg us ∧ Cells W cs us.toList
theorem Reads.kept {W W' : World} (hg : W.grownBy W' none) : ∀ (d : Rd) (x : Value), Reads W d x → Reads W' d x
  | .one c, x, h => ⟨Cell.kept hg c x h.1, h.2⟩
  | .agg cs, _, ⟨us, h1, h2⟩ => ⟨us, h1, Cells.kept hg cs us.toList h2⟩
theorem Reads.cells {W : World} : ∀ {d : Rd} {x : Value}, Reads W d x → Cells W d.cells x.cells.toList
  | .one c, x, h => by rw [h.2]; exact ⟨h.1, trivial⟩
  | .agg cs, _, ⟨us, h1, h2⟩ => by subst h1; exact h2

/-! ### What an operation makes of what it is handed -/
/-- What a type is to a literal: a struct's places and zero cells; a slice's elements. -/
inductive Ty where
  | st (pl : List (Nat × Nat)) (zs : List Value)
  | sl (e : TypeId) (size : Nat) (zs : List Value)
section
variable {P : Program} {E : List (Tmp × Rd)} {W : World} {b : Act}
end

/-! ### All operations, in the text's order -/
def LeE (E E' : List (Tmp × Rd)) : Prop := ∀ t d, E.lookup t = some d → E'.lookup t = some d
theorem LeE.cons {E : List (Tmp × Rd)} {t : Tmp} {d : Rd} (h : (E.lookup t).isSome = false) : LeE E ((t, d) :: E) := fun t' d' h' => by
  rw [List.lookup_cons]
  by_cases e : (t' == t) = true
  · rw [eq_of_beq e, ] at h'
    rw [h'] at h; cases h
  · rw [Bool.not_eq_true] at e
    rw [e]; exact h'
/-! ### The region -/
def dstsOf (ops : Array Oper) : List Tmp := ops.toList.filterMap (·.dst)
def depsOk (ops : Array Oper) (o : Oper) : Bool := o.op.operands.toList.all fun
  | .tmp t => (ops.toList.all fun oj => oj.dst != some t) || o.after.toList.any fun e => Region.binds .any e && ((ops[e.on]?).bind (·.dst) == some t)
  | _ => true
def regOk (ops : Array Oper) : Bool := ops.toList.zipIdx.all fun (o, i) => o.guard.isNone && (o.after.toList.all fun e => decide (e.on < i)) && depsOk ops o
theorem foldSet {vs : Tmp → Value} : ∀ (l : List Tmp) (A : Array Value) (t : Nat), (l.foldl (fun (ts : Array Value) t => ts.setIfInBounds t (vs t)) A)[t]? = if t ∈ l ∧ t < A.size then some (vs t) else A[t]?
  | [], A, t => by simp
  | x :: l, A, t => by
    rw [List.foldl_cons, foldSet l]
    simp only [Array.size_setIfInBounds, List.mem_cons, Array.getElem?_setIfInBounds]
    by_cases h1 : t < A.size
    · by_cases h2 : t ∈ l
      · simp [h1, h2]
      · by_cases h3 : x = t
        · subst h3; simp [h1]
        · have h4 : ¬ t = x := fun e => h3 e.symm
          simp [h2, h3, h4]
    · simp [h1]
      intros
      omega
theorem mem_dsts {ops : Array Oper} {t : Tmp} : t ∈ dstsOf ops ↔ ∃ (i : Nat) (o : Oper), ops[i]? = some o ∧ o.dst = some t := by
  unfold dstsOf
  rw [List.mem_filterMap]
  constructor
  · rintro ⟨o, ho, h⟩
    obtain ⟨i, hi⟩ := List.mem_iff_getElem?.1 ho
    exact ⟨i, o, by rw [← Array.getElem?_toList]; exact hi, h⟩
  · rintro ⟨i, o, ho, h⟩
    exact ⟨o, List.mem_iff_getElem?.2 ⟨i, by rw [Array.getElem?_toList]; exact ho⟩, h⟩

end Go.Proofs.YtohhojbeclbedaaGreatDoor

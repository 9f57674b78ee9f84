/- Texts joined for the claim's sake: Words, OctA, OctB, OctC, Num, IMm. -/
import Derived.Test.YtohhojbeclbedaaGreatDoorProg
import Derived.WalkKit
import Derived.WalkSpells
import Derived.WalkLawsBesides
import Derived.Below
import Derived.Laws.OwnMore
import Derived.Deep.Draws
import Derived.Laws.Rows
import Derived.RegionTactic
import Derived.ChangeAlike
import Derived.Deep.RegionWith
import Derived.Deep.QuietTactic
import Derived.BigQuiet
import Derived.Defers
import Derived.Recover
import Derived.Lib.Hide
import Derived.RangeFuncOwn
namespace Go.Proofs.YtohhojbeclbedaaGreatDoor
open Go.RowKit

def Blk (w : World) (g : Nat) (t : TypeId) (cs : Array Value) : Prop := w.heap[g]? = some (.cells cs t (0, 0))

section
variable {w w' : World} {g : Nat} {t : TypeId} {cs : Array Value}
theorem Blk.lt (h : Blk w g t cs) : g < w.heap.size := by
  rcases Nat.lt_or_ge g w.heap.size with hlt | hge
  · exact hlt
  · unfold Blk at h; rw [Array.getElem?_eq_none hge] at h; cases h
theorem Blk.cell (h : Blk w g t cs) (i : Nat) : w.cell? ⟨g, i, none⟩ = cs[i]? := cell_of_row w g i cs t (0, 0) h
theorem Blk.frozen (h : Blk w g t cs) (i : Nat) : w.frozen? ⟨g, i, none⟩ = false := by
  unfold Blk at h
  simp [World.frozen?, h]
theorem Blk.new (w : World) (t : TypeId) (cs : Array Value) : Blk (w.alloc (.cells cs t)) w.heap.size t cs := heap_alloc_new w _
theorem Blk.drew (h : Blk w g t cs) : Blk w.drew g t cs := h
theorem Blk.drewN (h : Blk w g t cs) (n : Nat) : Blk (w.drewN n) g t cs := h
theorem Blk.alloc (h : Blk w g t cs) (o : Obj) : Blk (w.alloc o) g t cs := (Below.heap_alloc w o g h.lt).trans h
theorem Blk.set_ (h : Blk w g t cs) (i : Nat) (u : Value) : Blk (w.setCell ⟨g, i, none⟩ u) g t (cs.setIfInBounds i u) := by
  unfold Blk at h ⊢
  simp [World.setCell, Array.getElem?_modify, h]
theorem Blk.far (h : Blk w g t cs) {p : Addr} (hp : g ≠ p.block) (u : Value) : Blk (w.setCell p u) g t cs := (Below.heap_setCell w p u g hp).trans h
theorem Blk.below {B : Nat} (h : Blk w g t cs) (hb : Below B w w') (hg : g < B) : Blk w' g t cs := (hb.block g hg).trans h
theorem Blk.grown {row : Option Nat} (h : Blk w g t cs) (hb : w.grownBy w' row) (hg : some g ≠ row) : Blk w' g t cs := (hb.block g h.lt hg).trans h
theorem Blk.kept (h : Blk w g t cs) (hb : w.grownBy w' none) : Blk w' g t cs := h.grown hb (fun e => by cases e)
theorem Blk.ne_ {g' : Nat} {t' : TypeId} {cs' : Array Value} (h : Blk w g t cs) (h' : Blk w g' t' cs') (hne : t ≠ t') : g ≠ g' := by
  rintro rfl
  unfold Blk at h h'
  rw [h] at h'
  injection h' with h'
  injection h' with _ ht
  exact hne ht
end

section
variable {a b c : World}
theorem only_refl (w : World) (row : Option Nat) : w.grownBy w row := ⟨rfl, rfl, rfl, Nat.le_refl _, fun _ _ _ => rfl⟩
theorem only_drewN {row : Option Nat} (h : a.grownBy b row) (n : Nat) : a.grownBy (b.drewN n) row := ⟨h.os, h.tape, h.output, h.size, h.block⟩
theorem only_drew {row : Option Nat} (h : a.grownBy b row) : a.grownBy b.drew row := ⟨h.os, h.tape, h.output, h.size, h.block⟩
theorem only_alloc {row : Option Nat} (h : a.grownBy b row) (o : Obj) : a.grownBy (b.alloc o) row :=
  ⟨h.os, h.tape, h.output, Nat.le_trans h.size (by simp), fun i hi hne => (Below.heap_alloc b o i (Nat.lt_of_lt_of_le hi h.size)).trans (h.block i hi hne)⟩
theorem only_setNew {row : Option Nat} (h : a.grownBy b row) {p : Addr} (hp : a.heap.size ≤ p.block) (u : Value) : a.grownBy (b.setCell p u) row :=
  ⟨h.os, h.tape, h.output, by simpa [World.setCell] using h.size, fun i hi hne => (Below.heap_setCell b p u i (by rintro rfl; omega)).trans (h.block i hi hne)⟩
theorem only_setCell {g : Nat} (h : a.grownBy b (some g)) {p : Addr} (hp : p.block = g) (u : Value) : a.grownBy (b.setCell p u) (some g) :=
  ⟨h.os, h.tape, h.output, by simpa [World.setCell] using h.size, fun i hi hne => (Below.heap_setCell b p u i (by
    rintro rfl
    exact hne (by rw [hp]))).trans (h.block i hi hne)⟩
theorem only_weak (h : a.grownBy b none) (row : Option Nat) : a.grownBy b row := ⟨h.os, h.tape, h.output, h.size, fun i hi _ => h.block i hi (fun e => by cases e)⟩
theorem only_trans {row : Option Nat} (h : a.grownBy b row) (k : b.grownBy c row) : a.grownBy c row :=
  ⟨k.os.trans h.os, k.tape.trans h.tape, k.output.trans h.output, Nat.le_trans h.size k.size, fun i hi hne => (k.block i (Nat.lt_of_lt_of_le hi h.size) hne).trans (h.block i hi hne)⟩
/-- A step that turns one block of those that are new since 'a' turns nothing of 'a'. -/
theorem only_new {g : Nat} (h : a.grownBy b none) (k : b.grownBy c (some g)) (hg : a.heap.size ≤ g) : a.grownBy c none :=
  ⟨k.os.trans h.os, k.tape.trans h.tape, k.output.trans h.output, Nat.le_trans h.size k.size, fun i hi hne => (k.block i (Nat.lt_of_lt_of_le hi h.size) (fun e => by injection e with e; omega)).trans (h.block i hi hne)⟩
theorem only_new' {g : Nat} {row : Option Nat} (h : a.grownBy b row) (k : b.grownBy c (some g)) (hg : a.heap.size ≤ g) : a.grownBy c row :=
  ⟨k.os.trans h.os, k.tape.trans h.tape, k.output.trans h.output, Nat.le_trans h.size k.size, fun i hi hne => (k.block i (Nat.lt_of_lt_of_le hi h.size) (fun e => by injection e with e; omega)).trans (h.block i hi hne)⟩
theorem below_of_only (h : a.grownBy b none) : Below a.heap.size a b := ⟨h.os, h.tape, h.output, h.size, fun k hk => h.block k hk (fun e => by cases e)⟩
theorem only_of_below (h : Below a.heap.size a b) (row : Option Nat) : a.grownBy b row := ⟨h.os, h.tape, h.output, h.size, fun i hi _ => h.block i hi⟩
end
end Go.Proofs.YtohhojbeclbedaaGreatDoor

namespace Go.Proofs.YtohhojbeclbedaaGreatDoor
open Go.RowKit

/-- The bytes bs lie in block bb from cell off on. -/
def Byts (w : World) (bb off : Nat) (bs : List UInt8) : Prop :=
  ∃ cs fr, w.heap[bb]? = some (.cells cs 5 fr) ∧ ∀ j u, bs[j]? = some u → cs[off + j]? = some (.int .u8 (u.toNat : Int))
section
variable {w w' : World} {bb off : Nat} {bs : List UInt8}
theorem Byts.lt (h : Byts w bb off bs) : bb < w.heap.size := by
  obtain ⟨cs, fr, h, _⟩ := h
  rcases Nat.lt_or_ge bb w.heap.size with hlt | hge
  · exact hlt
  · rw [Array.getElem?_eq_none hge] at h; cases h
theorem Byts.cell (h : Byts w bb off bs) {j : Nat} {u : UInt8} (hj : bs[j]? = some u) : w.cell? ⟨bb, off + j, none⟩ = some (.int .u8 (u.toNat : Int)) := by
  obtain ⟨cs, fr, h, hc⟩ := h
  simp [World.cell?, h, hc j u hj]
theorem Byts.ne_ {g : Nat} {t : TypeId} {cs : Array Value} (h : Byts w bb off bs) (hb : Blk w g t cs) (ht : t ≠ 5) : bb ≠ g := by
  rintro rfl
  obtain ⟨cs, fr, h, _⟩ := h
  unfold Blk at hb
  rw [h] at hb
  injection hb with hb
  injection hb with _ h2
  exact ht h2.symm
theorem Byts.keep (h : Byts w bb off bs) (e : w'.heap[bb]? = w.heap[bb]?) : Byts w' bb off bs := by
  obtain ⟨cs, fr, h, hc⟩ := h
  exact ⟨cs, fr, e.trans h, hc⟩
theorem Byts.grown (h : Byts w bb off bs) {row : Option Nat} (hg : w.grownBy w' row) (hr : some bb ≠ row) : Byts w' bb off bs := h.keep (hg.block bb h.lt hr)
theorem Byts.part (h : Byts w bb off bs) (k n : Nat) : Byts w bb (off + k) ((bs.drop k).take n) := by
  obtain ⟨cs, fr, h, hc⟩ := h
  refine ⟨cs, fr, h, fun j u hj => ?_⟩
  have h1 : bs[k + j]? = some u := by
    rw [List.getElem?_take] at hj
    split at hj
    · rw [List.getElem?_drop] at hj; exact hj
    · cases hj
  rw [Nat.add_assoc]
  exact hc _ u h1
theorem Byts.nil {off' : Nat} (h : Byts w bb off bs) : Byts w bb off' [] := by
  obtain ⟨cs, fr, h, hc⟩ := h
  exact ⟨cs, fr, h, fun j u hj => by simp at hj⟩
end

/-- Block g is a reader of the bytes bs, at place at_, whose bytes begin at bg. -/
def Rdr (w : World) (g : Nat) (bs : List UInt8) (at_ bg : Nat) : Prop :=
  ∃ bb off cap, Blk w g 111 #[.slice (some ⟨bb, off, none⟩) bs.length cap, .int .i64 (at_ : Int), .int .i64 (bg : Int)] ∧ Byts w bb off bs ∧ bs.length ≤ cap ∧ at_ ≤ bs.length ∧ bg + bs.length ≤ 4611686018427387904
section
variable {w w' : World} {g at_ bg : Nat} {bs : List UInt8}
theorem Rdr.lt (h : Rdr w g bs at_ bg) : g < w.heap.size := by obtain ⟨_, _, _, h, _⟩ := h; exact h.lt
theorem Rdr.le (h : Rdr w g bs at_ bg) : at_ ≤ bs.length := by obtain ⟨_, _, _, _, _, _, h, _⟩ := h; exact h
theorem Rdr.bound (h : Rdr w g bs at_ bg) : bg + bs.length ≤ 4611686018427387904 := by obtain ⟨_, _, _, _, _, _, _, h⟩ := h; exact h
theorem Rdr.grown (h : Rdr w g bs at_ bg) {row : Option Nat} (hg : w.grownBy w' row) (hr : some g ≠ row) (hu : ∀ k, row = some k → ∃ t cs, Blk w k t cs ∧ t ≠ 5) : Rdr w' g bs at_ bg := by
  obtain ⟨bb, off, cap, h, hb, r⟩ := h
  refine ⟨bb, off, cap, h.grown hg hr, hb.grown hg (fun e => ?_), r⟩
  obtain ⟨t, cs, hk, ht⟩ := hu bb e.symm
  exact hb.ne_ hk ht rfl
theorem Rdr.kept (h : Rdr w g bs at_ bg) (hg : w.grownBy w' none) : Rdr w' g bs at_ bg := h.grown hg (fun e => by cases e) (fun _ e => by cases e)
theorem Rdr.blk (h : Rdr w g bs at_ bg) : ∃ cs, Blk w g 111 cs := by obtain ⟨_, _, _, h, _⟩ := h; exact ⟨_, h⟩
/-- A reader stays when another reader's block turns. -/
theorem Rdr.other (h : Rdr w g bs at_ bg) {k : Nat} {cs : Array Value} (hg : w.grownBy w' (some k)) (hk : Blk w k 111 cs) (hne : g ≠ k) : Rdr w' g bs at_ bg :=
  h.grown hg (fun e => hne (by injection e)) (fun j e => by
    have : k = j := by injection e
    subst this
    exact ⟨_, _, hk, by decide⟩)
end

/-- Block fb is a fault, its number c and its place a. -/
def Flt (w : World) (fb : Nat) (c a : Int) : Prop := Blk w fb 89 #[.int .i64 c, .int .i64 a]

set_option maxHeartbeats 400000 in
theorem place_cells (a : Nat) (at_ bg : Nat) (w : World) (h1 : w.cell? ⟨a, 1, none⟩ = some (.int .i64 at_)) (h2 : w.cell? ⟨a, 2, none⟩ = some (.int .i64 bg)) (hs : (bg : Int) + at_ ≤ 9223372036854775807) :
    Calls Tryz.prog 110 #[.pointer (some ⟨a, 0, none⟩)] w fun e w' => e = .returned (.int .i64 ((bg : Int) + (at_ : Int))) ∧ ∃ n, w' = w.drewN n := by
  go_enter Tryz.func110, Tryz.ntmps110
  go_wp2
  go_quiet (fail)
  go_wp2
  go_ret
  exact ⟨rfl, _, rfl⟩

theorem place_rdr {w : World} {g : Nat} {bs : List UInt8} {at_ bg : Nat} (h : Rdr w g bs at_ bg) :
    Calls Tryz.prog 110 #[.pointer (some ⟨g, 0, none⟩)] w fun e w' => e = .returned (.int .i64 ((bg : Int) + (at_ : Int))) ∧ ∃ n, w' = w.drewN n := by
  obtain ⟨bb, off, cap, hb, _, _, h1, h2⟩ := h
  exact place_cells g at_ bg w (hb.cell 1) (hb.cell 2) (by omega)

set_option maxHeartbeats 400000 in
theorem left_cells (a len cap at_ : Nat) (A : Option Addr) (w : World) (h0 : w.cell? ⟨a, 0, none⟩ = some (.slice A len cap)) (h1 : w.cell? ⟨a, 1, none⟩ = some (.int .i64 at_)) (hs : at_ ≤ len) (hl : len ≤ 4611686018427387904) :
    Calls Tryz.prog 18 #[.pointer (some ⟨a, 0, none⟩)] w fun e w' => e = .returned (.int .i64 ((len : Int) - (at_ : Int))) ∧ ∃ n, w' = w.drewN n := by
  go_enter Tryz.func18, Tryz.ntmps18
  go_wp2
  go_quiet (fail)
  go_wp2
  go_ret
  exact ⟨rfl, _, rfl⟩

theorem left_rdr {w : World} {g : Nat} {bs : List UInt8} {at_ bg : Nat} (h : Rdr w g bs at_ bg) :
    Calls Tryz.prog 18 #[.pointer (some ⟨g, 0, none⟩)] w fun e w' => e = .returned (.int .i64 ((bs.length : Int) - (at_ : Int))) ∧ ∃ n, w' = w.drewN n := by
  obtain ⟨bb, off, cap, hb, _, _, h1, h2⟩ := h
  exact left_cells g bs.length cap at_ _ w (hb.cell 0) (hb.cell 1) h1 (by omega)

set_option maxHeartbeats 400000 in
theorem refuse_not (r : Value) (c : Int) (w : World) :
    Calls Tryz.prog 122 #[r, .bool false, .int .i64 c] w fun e w' => e = .returned (.tuple #[]) ∧ w = w' := by
  go_enter Tryz.func122, Tryz.ntmps122
  go_wp2
  go_end0
  exact ⟨rfl, rfl⟩

/-- What a call that gives up leaves: a new fault, and nothing else has turned. -/
def GaveUp (c a : Int) (w : World) (e : Ending) (w' : World) : Prop :=
  ∃ fb, e = .panicked [{ v := .iface 94 (.pointer (some ⟨fb, 0, none⟩)), recovered := false }] ∧ Flt w' fb c a ∧ w.heap.size ≤ fb ∧ w.grownBy w' none

set_option maxHeartbeats 400000 in
theorem refuse_rdr {w : World} {g : Nat} {bs : List UInt8} {at_ bg : Nat} (h : Rdr w g bs at_ bg) (c : Int) :
    Calls Tryz.prog 122 #[.pointer (some ⟨g, 0, none⟩), .bool true, .int .i64 c] w (GaveUp c ((bg : Int) + (at_ : Int)) w) := by
  go_enter Tryz.func122, Tryz.ntmps122
  go_wp2_with (first | (go_at_call 110; refine (place_rdr h).mono ?_; rintro e w' ⟨rfl, n, rfl⟩))
  exact ⟨rfl, w.heap.size, rfl, Blk.new (w.drewN n) _ _, Nat.le_refl _, only_alloc (only_drewN (only_refl _ _) n) _⟩

theorem assert_nil (w : World) : (Instr.typeAssert .nilIface 20 94 true).run Tryz.prog w = .ok (.tuple #[.pointer none, .bool false]) w := by kernel_rfl
theorem assert_fault (v : Value) (w : World) : (Instr.typeAssert (.iface 94 v) 20 94 true).run Tryz.prog w = .ok (.tuple #[v, .bool true]) w := by kernel_rfl

set_option maxRecDepth 100000 in
set_option maxHeartbeats 400000 in
theorem faultOf_nil (w : World) :
    Calls Tryz.prog 57 #[.nilIface] w fun e w' => e = .returned .nilIface ∧ w = w' := by
  have h := assert_nil
  go_enter Tryz.func57, Tryz.ntmps57
  go_wp2
  go_ret
  exact ⟨rfl, rfl⟩

set_option maxRecDepth 100000 in
set_option maxHeartbeats 400000 in
theorem faultOf_some (p : Addr) (w : World) :
    Calls Tryz.prog 57 #[.iface 94 (.pointer (some p))] w fun e w' => e = .returned (.iface 94 (.pointer (some p))) ∧ w = w' := by
  have h := assert_fault
  go_enter Tryz.func57, Tryz.ntmps57
  go_wp2
  go_ret
  exact ⟨rfl, rfl⟩
end Go.Proofs.YtohhojbeclbedaaGreatDoor

namespace Go.Proofs.YtohhojbeclbedaaGreatDoor
open Go.RowKit

set_option maxRecDepth 100000 in
set_option maxHeartbeats 400000 in
theorem byte_catch (p : Addr) (old : Value) (fb : Addr) (older : List PanicEntry) (w : World) (hc : w.cell? p = some old) (hz : w.frozen? p = false) :
    CallsD Tryz.prog 194 #[.pointer (some p)] (.panicking ({ v := .iface 94 (.pointer (some fb)), recovered := false } :: older)) w fun e u' w' =>
      e = .returned (.tuple #[]) ∧ u' = .panicking ({ v := .iface 94 (.pointer (some fb)), recovered := true } :: older) ∧ w' = w.setCell p (.iface 94 (.pointer (some fb))) := by
  refine callsD_of_wpS Tryz.func194 rfl fun c₀ cs hu => ?_
  apply wpS_region
  simp [wpOpsS, go_sem, recoverD, hu, Tryz.ntmps194]
  refine (faultOf_some fb _).mono ?_
  rintro e w' ⟨rfl, rfl⟩
  simp [go_sem, hc, hz, bodyPostS, results, Tryz.results194]

set_option maxRecDepth 100000 in
set_option maxHeartbeats 400000 in
theorem byte_idle (p : Addr) (old : Value) (w : World) (hc : w.cell? p = some old) (hz : w.frozen? p = false) :
    CallsD Tryz.prog 194 #[.pointer (some p)] .returning w fun e u' w' => e = .returned (.tuple #[]) ∧ u' = .returning ∧ w' = w.setCell p .nilIface := by
  refine callsD_of_wpS Tryz.func194 rfl fun c₀ cs hu => ?_
  apply wpS_region
  simp [wpOpsS, go_sem, recoverD, hu, Tryz.ntmps194]
  refine (faultOf_nil _).mono ?_
  rintro e w' ⟨rfl, rfl⟩
  simp [go_sem, hc, hz, bodyPostS, results, Tryz.results194]
  cases c₀
  simp_all

set_option maxRecDepth 100000 in
set_option maxHeartbeats 400000 in
theorem part_catch (p : Addr) (old : Value) (fb : Addr) (older : List PanicEntry) (w : World) (hc : w.cell? p = some old) (hz : w.frozen? p = false) :
    CallsD Tryz.prog 205 #[.pointer (some p)] (.panicking ({ v := .iface 94 (.pointer (some fb)), recovered := false } :: older)) w fun e u' w' =>
      e = .returned (.tuple #[]) ∧ u' = .panicking ({ v := .iface 94 (.pointer (some fb)), recovered := true } :: older) ∧ w' = w.setCell p (.iface 94 (.pointer (some fb))) := by
  refine callsD_of_wpS Tryz.func205 rfl fun c₀ cs hu => ?_
  apply wpS_region
  simp [wpOpsS, go_sem, recoverD, hu, Tryz.ntmps205]
  refine (faultOf_some fb _).mono ?_
  rintro e w' ⟨rfl, rfl⟩
  simp [go_sem, hc, hz, bodyPostS, results, Tryz.results205]

set_option maxRecDepth 100000 in
set_option maxHeartbeats 400000 in
theorem part_idle (p : Addr) (old : Value) (w : World) (hc : w.cell? p = some old) (hz : w.frozen? p = false) :
    CallsD Tryz.prog 205 #[.pointer (some p)] .returning w fun e u' w' => e = .returned (.tuple #[]) ∧ u' = .returning ∧ w' = w.setCell p .nilIface := by
  refine callsD_of_wpS Tryz.func205 rfl fun c₀ cs hu => ?_
  apply wpS_region
  simp [wpOpsS, go_sem, recoverD, hu, Tryz.ntmps205]
  refine (faultOf_nil _).mono ?_
  rintro e w' ⟨rfl, rfl⟩
  simp [go_sem, hc, hz, bodyPostS, results, Tryz.results205]
  cases c₀
  simp_all

set_option maxRecDepth 100000 in
set_option maxHeartbeats 400000 in
theorem end_catch (p : Addr) (old : Value) (fb : Addr) (older : List PanicEntry) (w : World) (hc : w.cell? p = some old) (hz : w.frozen? p = false) :
    CallsD Tryz.prog 121 #[.pointer (some p)] (.panicking ({ v := .iface 94 (.pointer (some fb)), recovered := false } :: older)) w fun e u' w' =>
      e = .returned (.tuple #[]) ∧ u' = .panicking ({ v := .iface 94 (.pointer (some fb)), recovered := true } :: older) ∧ w' = w.setCell p (.iface 94 (.pointer (some fb))) := by
  refine callsD_of_wpS Tryz.func121 rfl fun c₀ cs hu => ?_
  apply wpS_region
  simp [wpOpsS, go_sem, recoverD, hu, Tryz.ntmps121]
  refine (faultOf_some fb _).mono ?_
  rintro e w' ⟨rfl, rfl⟩
  simp [go_sem, hc, hz, bodyPostS, results, Tryz.results121]

set_option maxRecDepth 100000 in
set_option maxHeartbeats 400000 in
theorem end_idle (p : Addr) (old : Value) (w : World) (hc : w.cell? p = some old) (hz : w.frozen? p = false) :
    CallsD Tryz.prog 121 #[.pointer (some p)] .returning w fun e u' w' => e = .returned (.tuple #[]) ∧ u' = .returning ∧ w' = w.setCell p .nilIface := by
  refine callsD_of_wpS Tryz.func121 rfl fun c₀ cs hu => ?_
  apply wpS_region
  simp [wpOpsS, go_sem, recoverD, hu, Tryz.ntmps121]
  refine (faultOf_nil _).mono ?_
  rintro e w' ⟨rfl, rfl⟩
  simp [go_sem, hc, hz, bodyPostS, results, Tryz.results121]
  cases c₀
  simp_all

/-- What next leaves where there are n bytes: they are told, and the place is behind them. -/
def NextOk (g : Nat) (bs : List UInt8) (at_ bg n : Nat) (w : World) (e : Ending) (w' : World) : Prop :=
  ∃ bb off, e = .returned (.slice (some ⟨bb, off, none⟩) n n) ∧ w.grownBy w' (some g) ∧ Rdr w' g bs (at_ + n) bg ∧ Byts w' bb off ((bs.drop at_).take n)

theorem next_close {w : World} {g bb off cap at_ bg n : Nat} {bs : List UInt8} (hb : Blk w g 111 #[.slice (some ⟨bb, off, none⟩) bs.length cap, .int .i64 (at_ : Int), .int .i64 (bg : Int)]) (hy : Byts w bb off bs)
    (h1 : bs.length ≤ cap) (h3 : bg + bs.length ≤ 4611686018427387904) (hn : at_ + n ≤ bs.length) (k off' : Nat) (ho : off' = off + at_ ∨ n = 0) :
    NextOk g bs at_ bg n w (.returned (.slice (some ⟨bb, off', none⟩) n n)) ((w.drewN k).setCell ⟨g, 1, none⟩ (.int .i64 ((at_ : Int) + (n : Int)))) := by
  have hg : w.grownBy ((w.drewN k).setCell ⟨g, 1, none⟩ (.int .i64 ((at_ : Int) + (n : Int)))) (some g) := only_setCell (only_drewN (only_refl _ _) k) rfl _
  have hne : bb ≠ g := hy.ne_ hb (by decide)
  have hy' := hy.grown hg (fun e => hne (by injection e))
  refine ⟨bb, off', rfl, hg, ⟨bb, off, cap, ?_, hy', h1, hn, h3⟩, ?_⟩
  · have := (hb.drewN k).set_ 1 (.int .i64 ((at_ : Int) + (n : Int)))
    rw [Int.natCast_add]
    exact this
  · rcases ho with rfl | rfl
    · exact hy'.part at_ n
    · rw [List.take_zero]; exact hy'.nil

set_option maxHeartbeats 400000 in
theorem next_ok {w : World} {g : Nat} {bs : List UInt8} {at_ bg : Nat} (h : Rdr w g bs at_ bg) (n : Nat) (hn : at_ + n ≤ bs.length) :
    Calls Tryz.prog 58 #[.pointer (some ⟨g, 0, none⟩), .int .i64 (n : Int)] w (NextOk g bs at_ bg n w) := by
  have hr := h
  have hl := h.bound
  obtain ⟨bb, off, cap, hb, hy, h1, h2, h3⟩ := h
  have hend := Lib.hid (fun k off' ho => next_close hb hy h1 h3 hn k off' ho)
  have c0 : ∀ k, (w.drewN k).cell? ⟨g, 0, none⟩ = some (.slice (some ⟨bb, off, none⟩) bs.length cap) := fun k => (hb.drewN k).cell 0
  have c1 : ∀ k, (w.drewN k).cell? ⟨g, 1, none⟩ = some (.int .i64 (at_ : Int)) := fun k => (hb.drewN k).cell 1
  have f1 : ∀ k, (w.drewN k).frozen? ⟨g, 1, none⟩ = false := fun k => (hb.drewN k).frozen 1
  have d1 : decide ((n : Int) < 0) = false := by simp
  have d2 : decide ((bs.length : Int) - (at_ : Int) < (n : Int)) = false := by simp; omega
  have hw : IntKind.i64.wrap ((at_ : Int) + (n : Int)) = (at_ : Int) + (n : Int) := IntWalk.i64_in _ ⟨by omega, by omega⟩
  go_enter Tryz.func58, Tryz.ntmps58
  go_wp2_with (first
    | (go_at_call 122; ((with_reducible refine (refuse_not _ _ _).mono ?_); rintro e w' ⟨rfl, rfl⟩))
    | (go_at_call 18; ((with_reducible refine (left_rdr hr).mono ?_); rintro e w' ⟨rfl, k, rfl⟩)))
  go_quiet (fail)
  go_wp2
  all_goals (go_ret; first | exact hend.out _ _ (Or.inl rfl) | ((obtain rfl : n = 0 := (by omega)); exact hend.out _ _ (Or.inr rfl)))

theorem next_short {w : World} {g : Nat} {bs : List UInt8} {at_ bg : Nat} (h : Rdr w g bs at_ bg) (n : Int) (hn : ((bs.length : Int) - (at_ : Int)) < n) :
    Calls Tryz.prog 58 #[.pointer (some ⟨g, 0, none⟩), .int .i64 n] w (GaveUp 3 ((bg : Int) + (at_ : Int)) w) := by
  have hl := h.le
  have d1 : decide (n < 0) = false := by simp; omega
  have d2 : decide ((bs.length : Int) - (at_ : Int) < n) = true := by simpa using hn
  clear hn
  have hR : ∀ k, Rdr (w.drewN k) g bs at_ bg := fun k => h.kept (only_drewN (only_refl _ _) k)
  go_enter Tryz.func58, Tryz.ntmps58
  go_wp2_with (first
    | (go_at_call 122; ((with_reducible refine (refuse_not _ _ _).mono ?_); rintro e w' ⟨rfl, rfl⟩))
    | (go_at_call 18; ((with_reducible refine (left_rdr h).mono ?_); rintro e w' ⟨rfl, k, rfl⟩))
    | (go_at_call 122; ((with_reducible refine (refuse_rdr (hR k) _).mono ?_); rintro e w' ⟨fb, rfl, h1, h2, h3⟩)))
  exact ⟨rfl, fb, rfl, h1, h2, only_trans (only_drewN (only_refl _ _) k) h3⟩
end Go.Proofs.YtohhojbeclbedaaGreatDoor

namespace Go.Proofs.YtohhojbeclbedaaGreatDoor
open Go.RowKit

/-- A fault beside the value v: its number c, its place a; nothing that was there has turned. -/
def ToldFault (v : Value) (c a : Int) (w : World) (e : Ending) (w' : World) : Prop :=
  ∃ fb, e = .returned (.tuple #[v, .iface 94 (.pointer (some ⟨fb, 0, none⟩))]) ∧ Flt w' fb c a ∧ w.heap.size ≤ fb ∧ w.grownBy w' none

/-- What the closure's catch leaves behind a call that gave up. -/
theorem caught {w w1 w2 : World} {c a : Int} {fb : Nat} (hw1 : w1 = w.alloc (.cells #[.nilIface] 43)) (h1 : Flt w2 fb c a) (h2 : w1.heap.size ≤ fb) (h3 : w1.grownBy w2 none) :
    w2.cell? ⟨w.heap.size, 0, none⟩ = some .nilIface ∧ w2.frozen? ⟨w.heap.size, 0, none⟩ = false ∧
    Flt (w2.setCell ⟨w.heap.size, 0, none⟩ (.iface 94 (.pointer (some ⟨fb, 0, none⟩)))) fb c a ∧ w.heap.size ≤ fb ∧ w.grownBy (w2.setCell ⟨w.heap.size, 0, none⟩ (.iface 94 (.pointer (some ⟨fb, 0, none⟩)))) none := by
  subst hw1
  have hb := (Blk.new w 43 #[.nilIface]).kept h3
  have hs : (w.alloc (.cells #[.nilIface] 43)).heap.size = w.heap.size + 1 := by simp
  rw [hs] at h2
  exact ⟨hb.cell 0, hb.frozen 0, Blk.far h1 (p := ⟨w.heap.size, 0, none⟩) (by show fb ≠ w.heap.size; omega) _, by omega, only_setNew (only_trans (only_alloc (only_refl w none) _) h3) (Nat.le_refl _) _⟩

theorem byte_read {w w1 : World} {g bb off at_ : Nat} {bs : List UInt8} {u : UInt8} (hlt : g < w.heap.size) (hu : bs[at_]? = some u) (hg1 : (w.alloc (.cells #[.nilIface] 43)).grownBy w1 (some g)) (hy1 : Byts w1 bb off ((bs.drop at_).take 1)) :
    w1.cell? ⟨w.heap.size, 0, none⟩ = some .nilIface ∧ w1.frozen? ⟨w.heap.size, 0, none⟩ = false ∧ w1.cell? ⟨bb, off, none⟩ = some (.int .u8 (u.toNat : Int)) := by
  have hb := (Blk.new w 43 #[.nilIface]).grown hg1 (fun e => by injection e with e; omega)
  exact ⟨hb.cell 0, hb.frozen 0, hy1.cell (j := 0) (u := u) (by simp [hu])⟩

/-- The world behind the closure's call, where the call did not give up. -/
def okWorld (w w1 : World) : World := (w1.setCell ⟨w.heap.size, 0, none⟩ .nilIface).setCell ⟨w.heap.size, 0, none⟩ .nilIface
theorem ok_end {w w1 : World} {g a bg : Nat} {bs : List UInt8} (hlt : g < w.heap.size) (hg1 : (w.alloc (.cells #[.nilIface] 43)).grownBy w1 (some g)) (hr1 : Rdr w1 g bs a bg) :
    (okWorld w w1).cell? ⟨w.heap.size, 0, none⟩ = some .nilIface ∧ w.grownBy (okWorld w w1) (some g) ∧ Rdr (okWorld w w1) g bs a bg := by
  have hb := (Blk.new w 43 #[.nilIface]).grown hg1 (fun e => by injection e with e; omega)
  have hk : w1.grownBy (okWorld w w1) (some w.heap.size) := only_setCell (only_setCell (only_refl _ _) rfl _) rfl _
  have hb2 := (hb.set_ 0 .nilIface).set_ 0 .nilIface
  refine ⟨hb2.cell 0, ?_, ?_⟩
  · exact only_setNew (only_setNew (only_trans (only_weak (only_alloc (only_refl w none) _) _) hg1) (Nat.le_refl _) _) (Nat.le_refl _) _
  · exact hr1.grown hk (fun e => by injection e with e; omega) (fun k e => by
      injection e with e
      subst e
      exact ⟨_, _, hb, by decide⟩)
set_option maxRecDepth 100000 in
set_option maxHeartbeats 1000000 in
theorem byte_ok {w : World} {g : Nat} {bs : List UInt8} {at_ bg : Nat} (h : Rdr w g bs at_ bg) (u : UInt8) (hu : bs[at_]? = some u) :
    Calls Tryz.prog 169 #[.pointer (some ⟨g, 0, none⟩)] w fun e w' => e = .returned (.tuple #[.int .u8 (u.toNat : Int), .nilIface]) ∧ w.grownBy w' (some g) ∧ Rdr w' g bs (at_ + 1) bg := by
  have hmf : ∀ (fn : Fn) (first cap : Array Value) (w : World), (Instr.makeFunc fn first cap).run Tryz.prog w = .ok (.func fn first cap) w := fun _ _ _ _ => rfl
  have hR : Rdr (w.alloc (.cells #[.nilIface] 43)) g bs at_ bg := h.kept (only_alloc (only_refl _ _) _)
  have hn : at_ + 1 ≤ bs.length := by
    have := (List.getElem?_eq_some_iff.1 hu).1
    omega
  have hlt := h.lt
  have H : Calls Tryz.prog 58 #[.pointer (some ⟨g, 0, none⟩), .int .i64 1] (w.alloc (.cells #[.nilIface] 43)) (NextOk g bs at_ bg 1 (w.alloc (.cells #[.nilIface] 43))) := next_ok hR 1 hn
  go_enter_defers Tryz.func169, Tryz.ntmps169
  go_wp2_with (go_at_call 58; ((with_reducible refine H.mono ?_); rintro e w1 ⟨bb, off, rfl, hg1, hr1, hy1⟩); obtain ⟨ce, fe, cu⟩ := byte_read hlt hu hg1 hy1)
  refine leaves_cons (f := 194) (args := #[.pointer (some ⟨w.heap.size, 0, none⟩)]) (by simp) (by simp [go_sem]) ?_
  refine (byte_idle ⟨w.heap.size, 0, none⟩ .nilIface _ ?_ ?_).mono ?_
  · simp [go_sem, ce]
  · simp [go_sem, fe]
  rintro e u' w'' ⟨rfl, rfl, rfl⟩
  obtain ⟨e1, e2, e3⟩ := ok_end hlt hg1 hr1
  unfold okWorld at e1 e2 e3
  simp [Leaves, settle, results, Tryz.results169, go_sem, e1, e2, e3]

set_option maxRecDepth 100000 in
set_option maxHeartbeats 1000000 in
theorem byte_short {w : World} {g : Nat} {bs : List UInt8} {at_ bg : Nat} (h : Rdr w g bs at_ bg) (ha : at_ = bs.length) :
    Calls Tryz.prog 169 #[.pointer (some ⟨g, 0, none⟩)] w (ToldFault (.int .u8 0) 3 ((bg : Int) + (at_ : Int)) w) := by
  have hmf : ∀ (fn : Fn) (first cap : Array Value) (w : World), (Instr.makeFunc fn first cap).run Tryz.prog w = .ok (.func fn first cap) w := fun _ _ _ _ => rfl
  have hR : Rdr (w.alloc (.cells #[.nilIface] 43)) g bs at_ bg := h.kept (only_alloc (only_refl _ _) _)
  have H := next_short hR 1 (by omega)
  clear ha
  go_enter_defers Tryz.func169, Tryz.ntmps169
  go_wp2_with (go_at_call 58; ((with_reducible refine H.mono ?_); rintro e w1 ⟨fb, rfl, h1, h2, h3⟩); obtain ⟨ce, fe, hF⟩ := caught rfl h1 h2 h3)
  refine leaves_cons (f := 194) (args := #[.pointer (some ⟨w.heap.size, 0, none⟩)]) (by simp) (by simp [go_sem]) ?_
  refine (byte_catch ⟨w.heap.size, 0, none⟩ .nilIface ⟨fb, 0, none⟩ [] _ ce fe).mono ?_
  rintro e u' w'' ⟨rfl, rfl, rfl⟩
  have hc := World.cell?_setCell_same w1 ⟨w.heap.size, 0, none⟩ (.iface 94 (.pointer (some ⟨fb, 0, none⟩))) ce
  simp [Leaves, settle, results, Tryz.results169, go_sem, hc]
  exact ⟨fb, rfl, hF⟩

end Go.Proofs.YtohhojbeclbedaaGreatDoor

namespace Go.Proofs.YtohhojbeclbedaaGreatDoor

/-- The bytes of a number. -/
def sev (n : Nat) : List UInt8 := if n < 128 then [UInt8.ofNat n] else UInt8.ofNat (n % 128 + 128) :: sev (n / 128)
termination_by n
decreasing_by omega
theorem sev_lt {n : Nat} (h : n < 128) : sev n = [UInt8.ofNat n] := by rw [sev, if_pos h]
theorem sev_ge {n : Nat} (h : 128 ≤ n) : sev n = UInt8.ofNat (n % 128 + 128) :: sev (n / 128) := by rw [sev, if_neg (by omega)]
/-- The number of bytes. -/
def num (l : List UInt8) : Nat := l.foldr (fun b n => n * 128 + b.toNat % 128) 0
theorem num_cons (b : UInt8) (l : List UInt8) : num (b :: l) = num l * 128 + b.toNat % 128 := rfl
theorem num_nil : num [] = 0 := rfl

/-- Bytes end before the number does. -/
def Short (l : List UInt8) : Prop := l.length < 10 ∧ ∀ (j : Nat) (u : UInt8), l[j]? = some u → 128 ≤ u.toNat
/-- k bytes are taken. -/
structure Taken (l : List UInt8) (k : Nat) : Prop where
  pos : 1 ≤ k
  le : k ≤ 10
  len : k ≤ l.length
  high : ∀ (j : Nat) (u : UInt8), j + 1 < k → l[j]? = some u → 128 ≤ u.toNat
  last : ∀ u : UInt8, l[k - 1]? = some u → u.toNat < 128 ∨ k = 10
theorem taken_or (l : List UInt8) : Short l ∨ ∃ k, Taken l k := by
  have H : ∀ c, c ≤ 10 → c ≤ l.length → (∀ j u, j < c → l[j]? = some u → 128 ≤ u.toNat) → Short l ∨ ∃ k, Taken l k := by
    intro c
    induction hm : 10 - c generalizing c with
    | zero =>
      intro h1 h2 h3
      have hc : c = 10 := by omega
      subst hc
      exact .inr ⟨10, by omega, by omega, h2, fun j u hj => h3 j u (by omega), fun _ _ => .inr rfl⟩
    | succ m ih =>
      intro h1 h2 h3
      by_cases hl : c = l.length
      · exact .inl ⟨by omega, fun j u hj => h3 j u (by have := (List.getElem?_eq_some_iff.1 hj).1; omega) hj⟩
      · have hlt : c < l.length := by omega
        by_cases hb : (l[c]'hlt).toNat < 128
        · refine .inr ⟨c + 1, by omega, by omega, by omega, fun j u hj => h3 j u (by omega), fun u hu => .inl ?_⟩
          rw [Nat.add_sub_cancel, List.getElem?_eq_getElem hlt] at hu
          injection hu with hu
          rw [← hu]; exact hb
        · refine ih (c + 1) (by omega) (by omega) (by omega) (fun j u hj hu => ?_)
          by_cases he : j = c
          · subst he
            rw [List.getElem?_eq_getElem hlt] at hu
            injection hu with hu
            rw [← hu]; omega
          · exact h3 j u (by omega) hu
  exact H 0 (by omega) (by omega) (fun j u hj => by omega)
/-- The bytes that were taken are no number's, or not those that it has. -/
def Bad (t : List UInt8) : Prop := ∃ u, t[t.length - 1]? = some u ∧ (128 ≤ u.toNat ∨ (t.length = 10 ∧ 1 < u.toNat) ∨ (1 < t.length ∧ u.toNat = 0))

theorem u8_ofNat {n : Nat} (h : n < 256) : (UInt8.ofNat n).toNat = n := by simp [UInt8.toNat_ofNat']; omega
theorem sev_pos (n : Nat) : 1 ≤ (sev n).length := by
  by_cases h : n < 128
  · rw [sev_lt h]; simp
  · rw [sev_ge (by omega)]; simp
theorem sev_len : ∀ (k n : Nat), 1 ≤ k → n < 128 ^ k → (sev n).length ≤ k := by
  intro k
  induction k with
  | zero => intro n h; omega
  | succ k ih =>
    intro n _ hn
    by_cases h : n < 128
    · rw [sev_lt h]; simp
    · rw [sev_ge (by omega), List.length_cons]
      by_cases hk : k = 0
      · subst hk; simp at hn; omega
      · have := ih (n / 128) (by omega) (by rw [Nat.pow_succ] at hn; omega)
        omega
theorem sev_len10 {n : Nat} (h : n < 18446744073709551616) : (sev n).length ≤ 10 := sev_len 10 n (by omega) (by omega)
theorem num_sev (n : Nat) : num (sev n) = n := by
  induction n using Nat.strongRecOn with
  | _ n ih =>
    by_cases h : n < 128
    · rw [sev_lt h, num_cons, num_nil, u8_ofNat (by omega)]; omega
    · rw [sev_ge (by omega), num_cons, ih (n / 128) (by omega), u8_ofNat (by omega)]; omega
theorem sev_high (n : Nat) : ∀ j u, j + 1 < (sev n).length → (sev n)[j]? = some u → 128 ≤ u.toNat := by
  induction n using Nat.strongRecOn with
  | _ n ih =>
    intro j u hj hu
    by_cases h : n < 128
    · rw [sev_lt h] at hj; simp at hj
    · rw [sev_ge (by omega)] at hj hu
      cases j with
      | zero =>
        rw [List.getElem?_cons_zero] at hu
        injection hu with hu
        rw [← hu, u8_ofNat (by omega)]; omega
      | succ j =>
        rw [List.length_cons] at hj
        rw [List.getElem?_cons_succ] at hu
        exact ih (n / 128) (by omega) j u (by omega) hu
theorem sev_last (n : Nat) : ∀ u, (sev n)[(sev n).length - 1]? = some u → u.toNat < 128 ∧ (1 < (sev n).length → u.toNat ≠ 0) := by
  induction n using Nat.strongRecOn with
  | _ n ih =>
    intro u hu
    by_cases h : n < 128
    · rw [sev_lt h] at hu ⊢
      simp at hu
      rw [← hu, u8_ofNat (by omega)]
      exact ⟨h, by simp⟩
    · have hp := sev_pos (n / 128)
      have h1 := ih (n / 128) (by omega)
      rw [sev_ge (by omega), List.length_cons] at hu
      rw [show (sev (n / 128)).length + 1 - 1 = ((sev (n / 128)).length - 1) + 1 by omega, List.getElem?_cons_succ] at hu
      refine ⟨(h1 u hu).1, fun _ h0 => ?_⟩
      by_cases hl : 1 < (sev (n / 128)).length
      · exact (h1 u hu).2 hl h0
      · -- ONE BYTE: the number behind is below 128, and not 0
        by_cases h2 : n / 128 < 128
        · rw [sev_lt h2] at hu
          simp at hu
          rw [← hu, u8_ofNat (by omega)] at h0
          omega
        · rw [sev_ge (by omega), List.length_cons] at hl
          have := sev_pos (n / 128 / 128)
          omega
theorem pow_num : ∀ (l : List UInt8), num l < 128 ^ l.length := by
  intro l
  induction l with
  | nil => simp [num]
  | cons b l ih =>
    rw [num_cons, List.length_cons, Nat.pow_succ]
    have : b.toNat % 128 < 128 := Nat.mod_lt _ (by omega)
    omega
/-- The tenth byte of a number that fits is 0 or 1. -/
theorem sev_tenth : ∀ (k n : Nat), n < 2 * 128 ^ k → (sev n).length = k + 1 → ∀ u, (sev n)[k]? = some u → u.toNat ≤ 1 := by
  intro k
  induction k with
  | zero =>
    intro n hn _ u hu
    simp at hn
    rw [sev_lt (by omega)] at hu
    simp at hu
    rw [← hu, u8_ofNat (by omega)]; omega
  | succ k ih =>
    intro n hn hl u hu
    by_cases h : n < 128
    · rw [sev_lt h] at hl; simp at hl
    · rw [sev_ge (by omega)] at hl hu
      rw [List.length_cons] at hl
      rw [List.getElem?_cons_succ] at hu
      exact ih (n / 128) (by rw [Nat.pow_succ] at hn; omega) (by omega) u hu

/-- **What is laid for a number is taken, is not bad, and is that number.** -/
theorem taken_sev {n : Nat} (hn : n < 18446744073709551616) (rest : List UInt8) : Taken (sev n ++ rest) (sev n).length := by
  have hp := sev_pos n
  refine ⟨hp, sev_len10 hn, by rw [List.length_append]; omega, fun j u hj hu => ?_, fun u hu => .inl ?_⟩
  · rw [List.getElem?_append_left (by omega)] at hu
    exact sev_high n j u hj hu
  · rw [List.getElem?_append_left (by omega)] at hu
    exact (sev_last n u hu).1
theorem good_sev {n : Nat} (hn : n < 18446744073709551616) : ¬ Bad (sev n) := by
  rintro ⟨u, hu, h⟩
  have h1 := sev_last n u hu
  rcases h with h | ⟨hl, h⟩ | ⟨hl, h⟩
  · omega
  · have := sev_tenth 9 n (by omega) hl u (by rw [hl] at hu; exact hu)
    omega
  · exact h1.2 hl h

/-- **The bytes from which a number is read are those that are laid for it.** -/
theorem sev_num : ∀ (t : List UInt8), 1 ≤ t.length → (∀ j u, j + 1 < t.length → t[j]? = some u → 128 ≤ u.toNat) → (∀ u, t[t.length - 1]? = some u → u.toNat < 128 ∧ (1 < t.length → u.toNat ≠ 0)) → sev (num t) = t := by
  intro t
  induction t with
  | nil => intro h; simp at h
  | cons b l ih =>
    intro _ hh hl
    cases l with
    | nil =>
      have := (hl b (by simp)).1
      rw [num_cons, num_nil, sev_lt (by omega)]
      congr 1
      apply UInt8.toNat_inj.1
      rw [u8_ofNat (by omega)]; omega
    | cons c l =>
      have hb : 128 ≤ b.toNat := hh 0 b (by simp) rfl
      have h256 := b.toNat_lt
      have hih : sev (num (c :: l)) = c :: l := by
        refine ih (by simp) (fun j u hj hu => hh (j + 1) u (by simp at hj ⊢; omega) (by simpa using hu)) (fun u hu => ?_)
        have h1 := hl u (by simpa using hu)
        exact ⟨h1.1, fun _ => h1.2 (by simp)⟩
      have hpos : 1 ≤ num (c :: l) := by
        rcases Nat.eq_zero_or_pos (num (c :: l)) with h0 | h0
        · exfalso
          rw [h0, sev_lt (by omega)] at hih
          injection hih with h1 h2
          subst h2
          have := (hl c (by simp)).2 (by simp)
          apply this
          rw [← h1]; rfl
        · exact h0
      rw [num_cons, sev_ge (by omega)]
      have e1 : (num (c :: l) * 128 + b.toNat % 128) % 128 + 128 = b.toNat := by omega
      have e2 : (num (c :: l) * 128 + b.toNat % 128) / 128 = num (c :: l) := by omega
      rw [e1, e2, hih]
      congr 1
      apply UInt8.toNat_inj.1
      rw [u8_ofNat (by omega)]
/-- A number whose bytes are good has 64 bits. -/
theorem num_lt {t : List UInt8} (hl : t.length ≤ 10) (hp : 1 ≤ t.length) (hb : ¬ Bad t) : num t < 18446744073709551616 := by
  by_cases h9 : t.length ≤ 9
  · have h1 := pow_num t
    have h2 : 128 ^ t.length ≤ 128 ^ 9 := Nat.pow_le_pow_right (by omega) h9
    omega
  · have h10 : t.length = 10 := by omega
    have hsplit : t = t.take 9 ++ t.drop 9 := (List.take_append_drop 9 t).symm
    obtain ⟨u, hu⟩ : ∃ u, t.drop 9 = [u] := List.length_eq_one_iff.1 (by rw [List.length_drop]; omega)
    have hu2 : t[t.length - 1]? = some u := by
      rw [h10]
      have : (t.drop 9)[0]? = some u := by rw [hu]; rfl
      rw [List.getElem?_drop] at this
      exact this
    have hu1 : u.toNat ≤ 1 := by
      rcases Nat.lt_or_ge 1 u.toNat with h | h
      · exact absurd ⟨u, hu2, .inr (.inl ⟨h10, h⟩)⟩ hb
      · exact h
    have hn : ∀ (a : List UInt8) (b : Nat), (a.foldr (fun b n => n * 128 + b.toNat % 128) b) = num a + b * 128 ^ a.length := by
      intro a
      induction a with
      | nil => intro b; simp [num]
      | cons x a ih =>
        intro b
        rw [List.foldr_cons, ih, num_cons, List.length_cons, Nat.pow_succ]
        rw [Nat.add_mul, Nat.mul_assoc]; omega
    have h3 : num t = num (t.take 9) + (u.toNat % 128) * 128 ^ 9 := by
      have h4 : num t = (t.take 9).foldr (fun b n => n * 128 + b.toNat % 128) (num (t.drop 9)) := by
        rw [hsplit] 
        unfold num
        rw [List.foldr_append]
        rw [← hsplit]
      rw [h4, hn, hu, num_cons, num_nil, List.length_take]
      rw [show min 9 t.length = 9 by omega]
      omega
    have h5 := pow_num (t.take 9)
    rw [List.length_take, show min 9 t.length = 9 by omega] at h5
    rw [h3]
    have h6 : u.toNat % 128 ≤ 1 := by omega
    have h7 : (u.toNat % 128) * 128 ^ 9 ≤ 1 * 128 ^ 9 := Nat.mul_le_mul_right _ h6
    omega
/-- Of the bytes that were taken and are good. -/
theorem sev_of_taken {l : List UInt8} {k : Nat} (h : Taken l k) (hb : ¬ Bad (l.take k)) : sev (num (l.take k)) = l.take k ∧ num (l.take k) < 18446744073709551616 := by
  have hl : (l.take k).length = k := by rw [List.length_take]; have := h.len; omega
  have hp := h.pos
  have hk := h.le
  refine ⟨sev_num _ (by omega) (fun j u hj hu => ?_) (fun u hu => ?_), num_lt (by omega) (by omega) hb⟩
  · rw [hl] at hj
    rw [List.getElem?_take_of_lt (by omega)] at hu
    exact h.high j u hj hu
  · have hu2 := hu
    rw [hl, List.getElem?_take_of_lt (by omega)] at hu2
    have h1 : u.toNat < 128 := by
      rcases Nat.lt_or_ge u.toNat 128 with h | h
      · exact h
      · exact absurd ⟨u, hu, .inl h⟩ hb
    exact ⟨h1, fun hl1 h0 => hb ⟨u, hu, .inr (.inr ⟨hl1, h0⟩)⟩⟩
end Go.Proofs.YtohhojbeclbedaaGreatDoor

namespace Go.Proofs.YtohhojbeclbedaaGreatDoor
open Go.RowKit

/-- A slice that reads as a list of numbers; the block of its row is one of S. -/
def IntsA (S : Nat → Prop) (W : World) (v : Value) (zs : List Int) : Prop := ∃ (A : Option Addr) (c : Nat), v = .slice A zs.length c ∧ (zs ≠ [] → ∃ b off, A = some ⟨b, off, none⟩ ∧ S b ∧ ∀ (i : Nat) (z : Int), zs[i]? = some z → W.cell? ⟨b, off + i, none⟩ = some (.int .i64 z))
def Whole (z : Int) : Prop := -9223372036854775808 ≤ z ∧ z ≤ 9223372036854775807
structure Sg where
  a : Int
  b : Int
  c : Int
  d : Int
  lv : Value
  l : List Int
def Sg.cells (s : Sg) (op : Int) : Array Value := #[.int .i64 op, .int .i64 s.a, .int .i64 s.b, .int .i64 s.c, .int .i64 s.d, s.lv]
theorem cell_row {W W' : World} {p : Addr} {v : Value} {row : Option Nat} (h : W.cell? p = some v) (hg : W.grownBy W' row) (hr : some p.block ≠ row) : W'.cell? p = some v := by
  have hlt : p.block < W.heap.size := by
    rcases Nat.lt_or_ge p.block W.heap.size with hl | hl
    · exact hl
    · unfold World.cell? at h
      rw [Array.getElem?_eq_none hl] at h
      simp at h
  rw [World.cell?_of_block (hg.block _ hlt hr)]
  exact h
theorem cell_own {W W' : World} {p : Addr} {v : Value} {row : Option Nat} (h : W.cell? p = some v) (hg : W.grownBy W' row) (hr : ∀ r, row = some r → ∃ o : Obj, W.heap[r]? = some o ∧ o.isCells = false) : W'.cell? p = some v := by
  refine cell_row h hg (fun e => ?_)
  obtain ⟨o, ho, hc⟩ := hr _ e.symm
  unfold World.cell? at h
  rw [ho] at h
  cases o <;> simp_all [Obj.isCells]
theorem IntsA.row {S : Nat → Prop} {W W' : World} {v : Value} {zs : List Int} {row : Option Nat} (h : IntsA S W v zs) (hg : W.grownBy W' row) (hr : ∀ b, S b → some b ≠ row) : IntsA S W' v zs := by
  obtain ⟨A, c, h1, h2⟩ := h
  refine ⟨A, c, h1, fun hn => ?_⟩
  obtain ⟨b, off, h3, h4, h5⟩ := h2 hn
  exact ⟨b, off, h3, h4, fun i z hz => cell_row (h5 i z hz) hg (hr b h4)⟩
theorem IntsA.own {S : Nat → Prop} {W W' : World} {v : Value} {zs : List Int} {row : Option Nat} (h : IntsA S W v zs) (hg : W.grownBy W' row) (hr : ∀ r, row = some r → ∃ o : Obj, W.heap[r]? = some o ∧ o.isCells = false) : IntsA S W' v zs := by
  obtain ⟨A, c, h1, h2⟩ := h
  refine ⟨A, c, h1, fun hn => ?_⟩
  obtain ⟨b, off, h3, h4, h5⟩ := h2 hn
  exact ⟨b, off, h3, h4, fun i z hz => cell_own (h5 i z hz) hg hr⟩
end Go.Proofs.YtohhojbeclbedaaGreatDoor

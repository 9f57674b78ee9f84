/- Texts joined for the claim's sake: Words, OctA, IMm. -/
import Derived.Test.YtohhojbeclbedaaGreatDoorProg
import Derived.WalkKit
import Derived.WalkSpells
import Derived.WalkLawsBesides
import Derived.Below
import Derived.Laws.OwnMore
import Derived.Deep.Draws
import Derived.Laws.Rows
import Derived.RegionTactic
import Derived.ChangeAlike
import Derived.Deep.RegionWith
import Derived.Deep.QuietTactic
import Derived.BigQuiet
import Derived.Defers
import Derived.Recover
import Derived.RangeFuncOwn
namespace Go.Proofs.YtohhojbeclbedaaGreatDoor
open Go.RowKit

def Blk (w : World) (g : Nat) (t : TypeId) (cs : Array Value) : Prop := w.heap[g]? = some (.cells cs t (0, 0))

section
variable {w w' : World} {g : Nat} {t : TypeId} {cs : Array Value}
theorem Blk.lt (h : Blk w g t cs) : g < w.heap.size := by
  rcases Nat.lt_or_ge g w.heap.size with hlt | hge
  · exact hlt
  · unfold Blk at h; rw [Array.getElem?_eq_none hge] at h; cases h
theorem Blk.cell (h : Blk w g t cs) (i : Nat) : w.cell? ⟨g, i, none⟩ = cs[i]? := cell_of_row w g i cs t (0, 0) h
theorem Blk.frozen (h : Blk w g t cs) (i : Nat) : w.frozen? ⟨g, i, none⟩ = false := by
  unfold Blk at h
  simp [World.frozen?, h]
theorem Blk.new (w : World) (t : TypeId) (cs : Array Value) : Blk (w.alloc (.cells cs t)) w.heap.size t cs := heap_alloc_new w _
theorem Blk.drew (h : Blk w g t cs) : Blk w.drew g t cs := h
theorem Blk.drewN (h : Blk w g t cs) (n : Nat) : Blk (w.drewN n) g t cs := h
theorem Blk.alloc (h : Blk w g t cs) (o : Obj) : Blk (w.alloc o) g t cs := (Below.heap_alloc w o g h.lt).trans h
theorem Blk.set_ (h : Blk w g t cs) (i : Nat) (u : Value) : Blk (w.setCell ⟨g, i, none⟩ u) g t (cs.setIfInBounds i u) := by
  unfold Blk at h ⊢
  simp [World.setCell, Array.getElem?_modify, h]
theorem Blk.far (h : Blk w g t cs) {p : Addr} (hp : g ≠ p.block) (u : Value) : Blk (w.setCell p u) g t cs := (Below.heap_setCell w p u g hp).trans h
theorem Blk.below {B : Nat} (h : Blk w g t cs) (hb : Below B w w') (hg : g < B) : Blk w' g t cs := (hb.block g hg).trans h
theorem Blk.grown {row : Option Nat} (h : Blk w g t cs) (hb : w.grownBy w' row) (hg : some g ≠ row) : Blk w' g t cs := (hb.block g h.lt hg).trans h
theorem Blk.kept (h : Blk w g t cs) (hb : w.grownBy w' none) : Blk w' g t cs := h.grown hb (fun e => by cases e)
theorem Blk.ne_ {g' : Nat} {t' : TypeId} {cs' : Array Value} (h : Blk w g t cs) (h' : Blk w g' t' cs') (hne : t ≠ t') : g ≠ g' := by
  rintro rfl
  unfold Blk at h h'
  rw [h] at h'
  injection h' with h'
  injection h' with _ ht
  exact hne ht
end

section
variable {a b c : World}
theorem only_refl (w : World) (row : Option Nat) : w.grownBy w row := ⟨rfl, rfl, rfl, Nat.le_refl _, fun _ _ _ => rfl⟩
theorem only_drewN {row : Option Nat} (h : a.grownBy b row) (n : Nat) : a.grownBy (b.drewN n) row := ⟨h.os, h.tape, h.output, h.size, h.block⟩
theorem only_drew {row : Option Nat} (h : a.grownBy b row) : a.grownBy b.drew row := ⟨h.os, h.tape, h.output, h.size, h.block⟩
theorem only_alloc {row : Option Nat} (h : a.grownBy b row) (o : Obj) : a.grownBy (b.alloc o) row :=
  ⟨h.os, h.tape, h.output, Nat.le_trans h.size (by simp), fun i hi hne => (Below.heap_alloc b o i (Nat.lt_of_lt_of_le hi h.size)).trans (h.block i hi hne)⟩
theorem only_setNew {row : Option Nat} (h : a.grownBy b row) {p : Addr} (hp : a.heap.size ≤ p.block) (u : Value) : a.grownBy (b.setCell p u) row :=
  ⟨h.os, h.tape, h.output, by simpa [World.setCell] using h.size, fun i hi hne => (Below.heap_setCell b p u i (by rintro rfl; omega)).trans (h.block i hi hne)⟩
theorem only_setCell {g : Nat} (h : a.grownBy b (some g)) {p : Addr} (hp : p.block = g) (u : Value) : a.grownBy (b.setCell p u) (some g) :=
  ⟨h.os, h.tape, h.output, by simpa [World.setCell] using h.size, fun i hi hne => (Below.heap_setCell b p u i (by
    rintro rfl
    exact hne (by rw [hp]))).trans (h.block i hi hne)⟩
theorem only_weak (h : a.grownBy b none) (row : Option Nat) : a.grownBy b row := ⟨h.os, h.tape, h.output, h.size, fun i hi _ => h.block i hi (fun e => by cases e)⟩
theorem only_trans {row : Option Nat} (h : a.grownBy b row) (k : b.grownBy c row) : a.grownBy c row :=
  ⟨k.os.trans h.os, k.tape.trans h.tape, k.output.trans h.output, Nat.le_trans h.size k.size, fun i hi hne => (k.block i (Nat.lt_of_lt_of_le hi h.size) hne).trans (h.block i hi hne)⟩
/-- A step that turns one block of those that are new since 'a' turns nothing of 'a'. -/
theorem only_new {g : Nat} (h : a.grownBy b none) (k : b.grownBy c (some g)) (hg : a.heap.size ≤ g) : a.grownBy c none :=
  ⟨k.os.trans h.os, k.tape.trans h.tape, k.output.trans h.output, Nat.le_trans h.size k.size, fun i hi hne => (k.block i (Nat.lt_of_lt_of_le hi h.size) (fun e => by injection e with e; omega)).trans (h.block i hi hne)⟩
theorem only_new' {g : Nat} {row : Option Nat} (h : a.grownBy b row) (k : b.grownBy c (some g)) (hg : a.heap.size ≤ g) : a.grownBy c row :=
  ⟨k.os.trans h.os, k.tape.trans h.tape, k.output.trans h.output, Nat.le_trans h.size k.size, fun i hi hne => (k.block i (Nat.lt_of_lt_of_le hi h.size) (fun e => by injection e with e; omega)).trans (h.block i hi hne)⟩
theorem below_of_only (h : a.grownBy b none) : Below a.heap.size a b := ⟨h.os, h.tape, h.output, h.size, fun k hk => h.block k hk (fun e => by cases e)⟩
theorem only_of_below (h : Below a.heap.size a b) (row : Option Nat) : a.grownBy b row := ⟨h.os, h.tape, h.output, h.size, fun i hi _ => h.block i hi⟩
end
end Go.Proofs.YtohhojbeclbedaaGreatDoor

namespace Go.Proofs.YtohhojbeclbedaaGreatDoor
open Go.RowKit

/-- The bytes bs lie in block bb from cell off on. -/
def Byts (w : World) (bb off : Nat) (bs : List UInt8) : Prop :=
  ∃ cs fr, w.heap[bb]? = some (.cells cs 5 fr) ∧ ∀ j u, bs[j]? = some u → cs[off + j]? = some (.int .u8 (u.toNat : Int))
section
variable {w w' : World} {bb off : Nat} {bs : List UInt8}
theorem Byts.lt (h : Byts w bb off bs) : bb < w.heap.size := by
  obtain ⟨cs, fr, h, _⟩ := h
  rcases Nat.lt_or_ge bb w.heap.size with hlt | hge
  · exact hlt
  · rw [Array.getElem?_eq_none hge] at h; cases h
theorem Byts.cell (h : Byts w bb off bs) {j : Nat} {u : UInt8} (hj : bs[j]? = some u) : w.cell? ⟨bb, off + j, none⟩ = some (.int .u8 (u.toNat : Int)) := by
  obtain ⟨cs, fr, h, hc⟩ := h
  simp [World.cell?, h, hc j u hj]
theorem Byts.ne_ {g : Nat} {t : TypeId} {cs : Array Value} (h : Byts w bb off bs) (hb : Blk w g t cs) (ht : t ≠ 5) : bb ≠ g := by
  rintro rfl
  obtain ⟨cs, fr, h, _⟩ := h
  unfold Blk at hb
  rw [h] at hb
  injection hb with hb
  injection hb with _ h2
  exact ht h2.symm
theorem Byts.keep (h : Byts w bb off bs) (e : w'.heap[bb]? = w.heap[bb]?) : Byts w' bb off bs := by
  obtain ⟨cs, fr, h, hc⟩ := h
  exact ⟨cs, fr, e.trans h, hc⟩
theorem Byts.grown (h : Byts w bb off bs) {row : Option Nat} (hg : w.grownBy w' row) (hr : some bb ≠ row) : Byts w' bb off bs := h.keep (hg.block bb h.lt hr)
theorem Byts.part (h : Byts w bb off bs) (k n : Nat) : Byts w bb (off + k) ((bs.drop k).take n) := by
  obtain ⟨cs, fr, h, hc⟩ := h
  refine ⟨cs, fr, h, fun j u hj => ?_⟩
  have h1 : bs[k + j]? = some u := by
    rw [List.getElem?_take] at hj
    split at hj
    · rw [List.getElem?_drop] at hj; exact hj
    · cases hj
  rw [Nat.add_assoc]
  exact hc _ u h1
theorem Byts.nil {off' : Nat} (h : Byts w bb off bs) : Byts w bb off' [] := by
  obtain ⟨cs, fr, h, hc⟩ := h
  exact ⟨cs, fr, h, fun j u hj => by simp at hj⟩
end

/-- Block g is a reader of the bytes bs, at place at_, whose bytes begin at bg. -/
def Rdr (w : World) (g : Nat) (bs : List UInt8) (at_ bg : Nat) : Prop :=
  ∃ bb off cap, Blk w g 111 #[.slice (some ⟨bb, off, none⟩) bs.length cap, .int .i64 (at_ : Int), .int .i64 (bg : Int)] ∧ Byts w bb off bs ∧ bs.length ≤ cap ∧ at_ ≤ bs.length ∧ bg + bs.length ≤ 4611686018427387904
section
variable {w w' : World} {g at_ bg : Nat} {bs : List UInt8}
theorem Rdr.lt (h : Rdr w g bs at_ bg) : g < w.heap.size := by obtain ⟨_, _, _, h, _⟩ := h; exact h.lt
theorem Rdr.le (h : Rdr w g bs at_ bg) : at_ ≤ bs.length := by obtain ⟨_, _, _, _, _, _, h, _⟩ := h; exact h
theorem Rdr.bound (h : Rdr w g bs at_ bg) : bg + bs.length ≤ 4611686018427387904 := by obtain ⟨_, _, _, _, _, _, _, h⟩ := h; exact h
theorem Rdr.grown (h : Rdr w g bs at_ bg) {row : Option Nat} (hg : w.grownBy w' row) (hr : some g ≠ row) (hu : ∀ k, row = some k → ∃ t cs, Blk w k t cs ∧ t ≠ 5) : Rdr w' g bs at_ bg := by
  obtain ⟨bb, off, cap, h, hb, r⟩ := h
  refine ⟨bb, off, cap, h.grown hg hr, hb.grown hg (fun e => ?_), r⟩
  obtain ⟨t, cs, hk, ht⟩ := hu bb e.symm
  exact hb.ne_ hk ht rfl
theorem Rdr.kept (h : Rdr w g bs at_ bg) (hg : w.grownBy w' none) : Rdr w' g bs at_ bg := h.grown hg (fun e => by cases e) (fun _ e => by cases e)
theorem Rdr.blk (h : Rdr w g bs at_ bg) : ∃ cs, Blk w g 111 cs := by obtain ⟨_, _, _, h, _⟩ := h; exact ⟨_, h⟩
/-- A reader stays when another reader's block turns. -/
theorem Rdr.other (h : Rdr w g bs at_ bg) {k : Nat} {cs : Array Value} (hg : w.grownBy w' (some k)) (hk : Blk w k 111 cs) (hne : g ≠ k) : Rdr w' g bs at_ bg :=
  h.grown hg (fun e => hne (by injection e)) (fun j e => by
    have : k = j := by injection e
    subst this
    exact ⟨_, _, hk, by decide⟩)
end

/-- Block fb is a fault, its number c and its place a. -/
def Flt (w : World) (fb : Nat) (c a : Int) : Prop := Blk w fb 89 #[.int .i64 c, .int .i64 a]

set_option maxHeartbeats 400000 in
theorem place_cells (a : Nat) (at_ bg : Nat) (w : World) (h1 : w.cell? ⟨a, 1, none⟩ = some (.int .i64 at_)) (h2 : w.cell? ⟨a, 2, none⟩ = some (.int .i64 bg)) (hs : (bg : Int) + at_ ≤ 9223372036854775807) :
    Calls Tryz.prog 110 #[.pointer (some ⟨a, 0, none⟩)] w fun e w' => e = .returned (.int .i64 ((bg : Int) + (at_ : Int))) ∧ ∃ n, w' = w.drewN n := by
  go_enter Tryz.func110, Tryz.ntmps110
  go_wp2
  go_quiet (fail)
  go_wp2
  go_ret
  exact ⟨rfl, _, rfl⟩

theorem place_rdr {w : World} {g : Nat} {bs : List UInt8} {at_ bg : Nat} (h : Rdr w g bs at_ bg) :
    Calls Tryz.prog 110 #[.pointer (some ⟨g, 0, none⟩)] w fun e w' => e = .returned (.int .i64 ((bg : Int) + (at_ : Int))) ∧ ∃ n, w' = w.drewN n := by
  obtain ⟨bb, off, cap, hb, _, _, h1, h2⟩ := h
  exact place_cells g at_ bg w (hb.cell 1) (hb.cell 2) (by omega)

set_option maxHeartbeats 400000 in
theorem left_cells (a len cap at_ : Nat) (A : Option Addr) (w : World) (h0 : w.cell? ⟨a, 0, none⟩ = some (.slice A len cap)) (h1 : w.cell? ⟨a, 1, none⟩ = some (.int .i64 at_)) (hs : at_ ≤ len) (hl : len ≤ 4611686018427387904) :
    Calls Tryz.prog 18 #[.pointer (some ⟨a, 0, none⟩)] w fun e w' => e = .returned (.int .i64 ((len : Int) - (at_ : Int))) ∧ ∃ n, w' = w.drewN n := by
  go_enter Tryz.func18, Tryz.ntmps18
  go_wp2
  go_quiet (fail)
  go_wp2
  go_ret
  exact ⟨rfl, _, rfl⟩

theorem left_rdr {w : World} {g : Nat} {bs : List UInt8} {at_ bg : Nat} (h : Rdr w g bs at_ bg) :
    Calls Tryz.prog 18 #[.pointer (some ⟨g, 0, none⟩)] w fun e w' => e = .returned (.int .i64 ((bs.length : Int) - (at_ : Int))) ∧ ∃ n, w' = w.drewN n := by
  obtain ⟨bb, off, cap, hb, _, _, h1, h2⟩ := h
  exact left_cells g bs.length cap at_ _ w (hb.cell 0) (hb.cell 1) h1 (by omega)

set_option maxHeartbeats 400000 in
theorem refuse_not (r : Value) (c : Int) (w : World) :
    Calls Tryz.prog 122 #[r, .bool false, .int .i64 c] w fun e w' => e = .returned (.tuple #[]) ∧ w = w' := by
  go_enter Tryz.func122, Tryz.ntmps122
  go_wp2
  go_end0
  exact ⟨rfl, rfl⟩

/-- What a call that gives up leaves: a new fault, and nothing else has turned. -/
def GaveUp (c a : Int) (w : World) (e : Ending) (w' : World) : Prop :=
  ∃ fb, e = .panicked [{ v := .iface 94 (.pointer (some ⟨fb, 0, none⟩)), recovered := false }] ∧ Flt w' fb c a ∧ w.heap.size ≤ fb ∧ w.grownBy w' none

set_option maxHeartbeats 400000 in
theorem refuse_rdr {w : World} {g : Nat} {bs : List UInt8} {at_ bg : Nat} (h : Rdr w g bs at_ bg) (c : Int) :
    Calls Tryz.prog 122 #[.pointer (some ⟨g, 0, none⟩), .bool true, .int .i64 c] w (GaveUp c ((bg : Int) + (at_ : Int)) w) := by
  go_enter Tryz.func122, Tryz.ntmps122
  go_wp2_with (first | (go_at_call 110; refine (place_rdr h).mono ?_; rintro e w' ⟨rfl, n, rfl⟩))
  exact ⟨rfl, w.heap.size, rfl, Blk.new (w.drewN n) _ _, Nat.le_refl _, only_alloc (only_drewN (only_refl _ _) n) _⟩

theorem assert_nil (w : World) : (Instr.typeAssert .nilIface 20 94 true).run Tryz.prog w = .ok (.tuple #[.pointer none, .bool false]) w := by kernel_rfl
theorem assert_fault (v : Value) (w : World) : (Instr.typeAssert (.iface 94 v) 20 94 true).run Tryz.prog w = .ok (.tuple #[v, .bool true]) w := by kernel_rfl

set_option maxRecDepth 100000 in
set_option maxHeartbeats 400000 in
theorem faultOf_nil (w : World) :
    Calls Tryz.prog 57 #[.nilIface] w fun e w' => e = .returned .nilIface ∧ w = w' := by
  have h := assert_nil
  go_enter Tryz.func57, Tryz.ntmps57
  go_wp2
  go_ret
  exact ⟨rfl, rfl⟩

set_option maxRecDepth 100000 in
set_option maxHeartbeats 400000 in
theorem faultOf_some (p : Addr) (w : World) :
    Calls Tryz.prog 57 #[.iface 94 (.pointer (some p))] w fun e w' => e = .returned (.iface 94 (.pointer (some p))) ∧ w = w' := by
  have h := assert_fault
  go_enter Tryz.func57, Tryz.ntmps57
  go_wp2
  go_ret
  exact ⟨rfl, rfl⟩
end Go.Proofs.YtohhojbeclbedaaGreatDoor

namespace Go.Proofs.YtohhojbeclbedaaGreatDoor
open Go.RowKit

/-- A slice that reads as a list of numbers; the block of its row is one of S. -/
def IntsA (S : Nat → Prop) (W : World) (v : Value) (zs : List Int) : Prop := ∃ (A : Option Addr) (c : Nat), v = .slice A zs.length c ∧ (zs ≠ [] → ∃ b off, A = some ⟨b, off, none⟩ ∧ S b ∧ ∀ (i : Nat) (z : Int), zs[i]? = some z → W.cell? ⟨b, off + i, none⟩ = some (.int .i64 z))
def Whole (z : Int) : Prop := -9223372036854775808 ≤ z ∧ z ≤ 9223372036854775807
structure Sg where
  a : Int
  b : Int
  c : Int
  d : Int
  lv : Value
  l : List Int
def Sg.cells (s : Sg) (op : Int) : Array Value := #[.int .i64 op, .int .i64 s.a, .int .i64 s.b, .int .i64 s.c, .int .i64 s.d, s.lv]
theorem cell_row {W W' : World} {p : Addr} {v : Value} {row : Option Nat} (h : W.cell? p = some v) (hg : W.grownBy W' row) (hr : some p.block ≠ row) : W'.cell? p = some v := by
  have hlt : p.block < W.heap.size := by
    rcases Nat.lt_or_ge p.block W.heap.size with hl | hl
    · exact hl
    · unfold World.cell? at h
      rw [Array.getElem?_eq_none hl] at h
      simp at h
  rw [World.cell?_of_block (hg.block _ hlt hr)]
  exact h
theorem cell_own {W W' : World} {p : Addr} {v : Value} {row : Option Nat} (h : W.cell? p = some v) (hg : W.grownBy W' row) (hr : ∀ r, row = some r → ∃ o : Obj, W.heap[r]? = some o ∧ o.isCells = false) : W'.cell? p = some v := by
  refine cell_row h hg (fun e => ?_)
  obtain ⟨o, ho, hc⟩ := hr _ e.symm
  unfold World.cell? at h
  rw [ho] at h
  cases o <;> simp_all [Obj.isCells]
theorem IntsA.row {S : Nat → Prop} {W W' : World} {v : Value} {zs : List Int} {row : Option Nat} (h : IntsA S W v zs) (hg : W.grownBy W' row) (hr : ∀ b, S b → some b ≠ row) : IntsA S W' v zs := by
  obtain ⟨A, c, h1, h2⟩ := h
  refine ⟨A, c, h1, fun hn => ?_⟩
  obtain ⟨b, off, h3, h4, h5⟩ := h2 hn
  exact ⟨b, off, h3, h4, fun i z hz => cell_row (h5 i z hz) hg (hr b h4)⟩
theorem IntsA.own {S : Nat → Prop} {W W' : World} {v : Value} {zs : List Int} {row : Option Nat} (h : IntsA S W v zs) (hg : W.grownBy W' row) (hr : ∀ r, row = some r → ∃ o : Obj, W.heap[r]? = some o ∧ o.isCells = false) : IntsA S W' v zs := by
  obtain ⟨A, c, h1, h2⟩ := h
  refine ⟨A, c, h1, fun hn => ?_⟩
  obtain ⟨b, off, h3, h4, h5⟩ := h2 hn
  exact ⟨b, off, h3, h4, fun i z hz => cell_own (h5 i z hz) hg hr⟩
end Go.Proofs.YtohhojbeclbedaaGreatDoor

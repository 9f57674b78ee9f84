/- octets: what a reader is in memory; Place, Left, refuse, faultOf, and the four closures that recover. -/
import Derived.Test.YtmbdaenjeeklfaaDoorWords
import Derived.RegionTactic
import Derived.ChangeAlike
import Derived.Deep.RegionWith
import Derived.Deep.QuietTactic
import Derived.BigQuiet
import Derived.Defers
import Derived.Recover
namespace Go.Proofs.YtmbdaenjeeklfaaDoor
open Go.RowKit

/-- The bytes bs lie in block bb from cell off on. -/
def Byts (w : World) (bb off : Nat) (bs : List UInt8) : Prop :=
  ∃ cs fr, w.heap[bb]? = some (.cells cs 5 fr) ∧ ∀ j u, bs[j]? = some u → cs[off + j]? = some (.int .u8 (u.toNat : Int))
section
variable {w w' : World} {bb off : Nat} {bs : List UInt8}
theorem Byts.lt (h : Byts w bb off bs) : bb < w.heap.size := by
  obtain ⟨cs, fr, h, _⟩ := h
  rcases Nat.lt_or_ge bb w.heap.size with hlt | hge
  · exact hlt
  · rw [Array.getElem?_eq_none hge] at h; cases h
theorem Byts.cell (h : Byts w bb off bs) {j : Nat} {u : UInt8} (hj : bs[j]? = some u) : w.cell? ⟨bb, off + j, none⟩ = some (.int .u8 (u.toNat : Int)) := by
  obtain ⟨cs, fr, h, hc⟩ := h
  simp [World.cell?, h, hc j u hj]
theorem Byts.ne_ {g : Nat} {t : TypeId} {cs : Array Value} (h : Byts w bb off bs) (hb : Blk w g t cs) (ht : t ≠ 5) : bb ≠ g := by
  rintro rfl
  obtain ⟨cs, fr, h, _⟩ := h
  unfold Blk at hb
  rw [h] at hb
  injection hb with hb
  injection hb with _ h2
  exact ht h2.symm
theorem Byts.keep (h : Byts w bb off bs) (e : w'.heap[bb]? = w.heap[bb]?) : Byts w' bb off bs := by
  obtain ⟨cs, fr, h, hc⟩ := h
  exact ⟨cs, fr, e.trans h, hc⟩
theorem Byts.grown (h : Byts w bb off bs) {row : Option Nat} (hg : w.grownBy w' row) (hr : some bb ≠ row) : Byts w' bb off bs := h.keep (hg.block bb h.lt hr)
theorem Byts.part (h : Byts w bb off bs) (k n : Nat) : Byts w bb (off + k) ((bs.drop k).take n) := by
  obtain ⟨cs, fr, h, hc⟩ := h
  refine ⟨cs, fr, h, fun j u hj => ?_⟩
  have h1 : bs[k + j]? = some u := by
    rw [List.getElem?_take] at hj
    split at hj
    · rw [List.getElem?_drop] at hj; exact hj
    · cases hj
  rw [Nat.add_assoc]
  exact hc _ u h1
theorem Byts.nil {off' : Nat} (h : Byts w bb off bs) : Byts w bb off' [] := by
  obtain ⟨cs, fr, h, hc⟩ := h
  exact ⟨cs, fr, h, fun j u hj => by simp at hj⟩
end

/-- Block g is a reader of the bytes bs, at place at_, whose bytes begin at bg. -/
def Rdr (w : World) (g : Nat) (bs : List UInt8) (at_ bg : Nat) : Prop :=
  ∃ bb off cap, Blk w g 87 #[.slice (some ⟨bb, off, none⟩) bs.length cap, .int .i64 (at_ : Int), .int .i64 (bg : Int)] ∧ Byts w bb off bs ∧ bs.length ≤ cap ∧ at_ ≤ bs.length ∧ bg + bs.length ≤ 4611686018427387904
section
variable {w w' : World} {g at_ bg : Nat} {bs : List UInt8}
theorem Rdr.lt (h : Rdr w g bs at_ bg) : g < w.heap.size := by obtain ⟨_, _, _, h, _⟩ := h; exact h.lt
theorem Rdr.le (h : Rdr w g bs at_ bg) : at_ ≤ bs.length := by obtain ⟨_, _, _, _, _, _, h, _⟩ := h; exact h
theorem Rdr.bound (h : Rdr w g bs at_ bg) : bg + bs.length ≤ 4611686018427387904 := by obtain ⟨_, _, _, _, _, _, _, h⟩ := h; exact h
theorem Rdr.grown (h : Rdr w g bs at_ bg) {row : Option Nat} (hg : w.grownBy w' row) (hr : some g ≠ row) (hu : ∀ k, row = some k → ∃ t cs, Blk w k t cs ∧ t ≠ 5) : Rdr w' g bs at_ bg := by
  obtain ⟨bb, off, cap, h, hb, r⟩ := h
  refine ⟨bb, off, cap, h.grown hg hr, hb.grown hg (fun e => ?_), r⟩
  obtain ⟨t, cs, hk, ht⟩ := hu bb e.symm
  exact hb.ne_ hk ht rfl
theorem Rdr.kept (h : Rdr w g bs at_ bg) (hg : w.grownBy w' none) : Rdr w' g bs at_ bg := h.grown hg (fun e => by cases e) (fun _ e => by cases e)
theorem Rdr.blk (h : Rdr w g bs at_ bg) : ∃ cs, Blk w g 87 cs := by obtain ⟨_, _, _, h, _⟩ := h; exact ⟨_, h⟩
/-- A reader stays when another reader's block turns. -/
theorem Rdr.other (h : Rdr w g bs at_ bg) {k : Nat} {cs : Array Value} (hg : w.grownBy w' (some k)) (hk : Blk w k 87 cs) (hne : g ≠ k) : Rdr w' g bs at_ bg :=
  h.grown hg (fun e => hne (by injection e)) (fun j e => by
    have : k = j := by injection e
    subst this
    exact ⟨_, _, hk, by decide⟩)
end

/-- Block fb is a fault, its number c and its place a. -/
def Flt (w : World) (fb : Nat) (c a : Int) : Prop := Blk w fb 48 #[.int .i64 c, .int .i64 a]

set_option maxHeartbeats 400000 in
theorem place_none (w : World) :
    Calls Tryd.prog 25 #[.pointer none] w fun e w' => e = .returned (.int .i64 0) ∧ w = w' := by
  go_enter Tryd.func25, Tryd.ntmps25
  go_wp2
  go_ret
  exact ⟨rfl, rfl⟩

set_option maxHeartbeats 400000 in
theorem place_cells (a : Nat) (at_ bg : Nat) (w : World) (h1 : w.cell? ⟨a, 1, none⟩ = some (.int .i64 at_)) (h2 : w.cell? ⟨a, 2, none⟩ = some (.int .i64 bg)) (hs : (bg : Int) + at_ ≤ 9223372036854775807) :
    Calls Tryd.prog 25 #[.pointer (some ⟨a, 0, none⟩)] w fun e w' => e = .returned (.int .i64 ((bg : Int) + (at_ : Int))) ∧ ∃ n, w' = w.drewN n := by
  go_enter Tryd.func25, Tryd.ntmps25
  go_wp2
  go_quiet (fail)
  go_wp2
  go_ret
  exact ⟨rfl, _, rfl⟩

theorem place_rdr {w : World} {g : Nat} {bs : List UInt8} {at_ bg : Nat} (h : Rdr w g bs at_ bg) :
    Calls Tryd.prog 25 #[.pointer (some ⟨g, 0, none⟩)] w fun e w' => e = .returned (.int .i64 ((bg : Int) + (at_ : Int))) ∧ ∃ n, w' = w.drewN n := by
  obtain ⟨bb, off, cap, hb, _, _, h1, h2⟩ := h
  exact place_cells g at_ bg w (hb.cell 1) (hb.cell 2) (by omega)

set_option maxHeartbeats 400000 in
theorem left_none (w : World) :
    Calls Tryd.prog 30 #[.pointer none] w fun e w' => e = .returned (.int .i64 0) ∧ w = w' := by
  go_enter Tryd.func30, Tryd.ntmps30
  go_wp2
  go_ret
  exact ⟨rfl, rfl⟩

set_option maxHeartbeats 400000 in
theorem left_cells (a len cap at_ : Nat) (A : Option Addr) (w : World) (h0 : w.cell? ⟨a, 0, none⟩ = some (.slice A len cap)) (h1 : w.cell? ⟨a, 1, none⟩ = some (.int .i64 at_)) (hs : at_ ≤ len) (hl : len ≤ 4611686018427387904) :
    Calls Tryd.prog 30 #[.pointer (some ⟨a, 0, none⟩)] w fun e w' => e = .returned (.int .i64 ((len : Int) - (at_ : Int))) ∧ ∃ n, w' = w.drewN n := by
  go_enter Tryd.func30, Tryd.ntmps30
  go_wp2
  go_quiet (fail)
  go_wp2
  go_ret
  exact ⟨rfl, _, rfl⟩

theorem left_rdr {w : World} {g : Nat} {bs : List UInt8} {at_ bg : Nat} (h : Rdr w g bs at_ bg) :
    Calls Tryd.prog 30 #[.pointer (some ⟨g, 0, none⟩)] w fun e w' => e = .returned (.int .i64 ((bs.length : Int) - (at_ : Int))) ∧ ∃ n, w' = w.drewN n := by
  obtain ⟨bb, off, cap, hb, _, _, h1, h2⟩ := h
  exact left_cells g bs.length cap at_ _ w (hb.cell 0) (hb.cell 1) h1 (by omega)

set_option maxHeartbeats 400000 in
theorem refuse_not (r : Value) (c : Int) (w : World) :
    Calls Tryd.prog 51 #[r, .bool false, .int .i64 c] w fun e w' => e = .returned (.tuple #[]) ∧ w = w' := by
  go_enter Tryd.func51, Tryd.ntmps51
  go_wp2
  go_end0
  exact ⟨rfl, rfl⟩

/-- What a call that gives up leaves: a new fault, and nothing else has turned. -/
def GaveUp (c a : Int) (w : World) (e : Ending) (w' : World) : Prop :=
  ∃ fb, e = .panicked [{ v := .iface 91 (.pointer (some ⟨fb, 0, none⟩)), recovered := false }] ∧ Flt w' fb c a ∧ w.heap.size ≤ fb ∧ w.grownBy w' none

set_option maxHeartbeats 400000 in
theorem refuse_none (c : Int) (w : World) :
    Calls Tryd.prog 51 #[.pointer none, .bool true, .int .i64 c] w (GaveUp c 0 w) := by
  go_enter Tryd.func51, Tryd.ntmps51
  go_wp2_with (first | (go_at_call 25; refine (place_none _).mono ?_; rintro e w' ⟨rfl, rfl⟩))
  exact ⟨rfl, w.heap.size, rfl, Blk.new w _ _, Nat.le_refl _, only_alloc (only_refl _ _) _⟩

set_option maxHeartbeats 400000 in
theorem refuse_rdr {w : World} {g : Nat} {bs : List UInt8} {at_ bg : Nat} (h : Rdr w g bs at_ bg) (c : Int) :
    Calls Tryd.prog 51 #[.pointer (some ⟨g, 0, none⟩), .bool true, .int .i64 c] w (GaveUp c ((bg : Int) + (at_ : Int)) w) := by
  go_enter Tryd.func51, Tryd.ntmps51
  go_wp2_with (first | (go_at_call 25; refine (place_rdr h).mono ?_; rintro e w' ⟨rfl, n, rfl⟩))
  exact ⟨rfl, w.heap.size, rfl, Blk.new (w.drewN n) _ _, Nat.le_refl _, only_alloc (only_drewN (only_refl _ _) n) _⟩

theorem assert_nil (w : World) : (Instr.typeAssert .nilIface 20 91 true).run Tryd.prog w = .ok (.tuple #[.pointer none, .bool false]) w := by kernel_rfl
theorem assert_fault (v : Value) (w : World) : (Instr.typeAssert (.iface 91 v) 20 91 true).run Tryd.prog w = .ok (.tuple #[v, .bool true]) w := by kernel_rfl

set_option maxRecDepth 100000 in
set_option maxHeartbeats 400000 in
theorem faultOf_nil (w : World) :
    Calls Tryd.prog 50 #[.nilIface] w fun e w' => e = .returned .nilIface ∧ w = w' := by
  have h := assert_nil
  go_enter Tryd.func50, Tryd.ntmps50
  go_wp2
  go_ret
  exact ⟨rfl, rfl⟩

set_option maxRecDepth 100000 in
set_option maxHeartbeats 400000 in
theorem faultOf_some (p : Addr) (w : World) :
    Calls Tryd.prog 50 #[.iface 91 (.pointer (some p))] w fun e w' => e = .returned (.iface 91 (.pointer (some p))) ∧ w = w' := by
  have h := assert_fault
  go_enter Tryd.func50, Tryd.ntmps50
  go_wp2
  go_ret
  exact ⟨rfl, rfl⟩
end Go.Proofs.YtmbdaenjeeklfaaDoor

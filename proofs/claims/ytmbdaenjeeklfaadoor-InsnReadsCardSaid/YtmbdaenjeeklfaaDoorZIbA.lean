/- Texts joined for the claim's sake: OctA, OctB, OctC, OctD, OctE, OctW. -/
import Derived.Test.YtmbdaenjeeklfaaDoorWords
import Derived.RegionTactic
import Derived.ChangeAlike
import Derived.Deep.RegionWith
import Derived.Deep.QuietTactic
import Derived.BigQuiet
import Derived.Defers
import Derived.Recover
import Derived.Lib.Hide
import Derived.Laws.IdiomStrings
import Derived.Lib.AppendStr
import Derived.Lib.BufferRead
import Derived.Deep.AppendLies
import Derived.Deep.Onto
import Derived.OwnWalk
/- octets: what a reader is in memory; Place, Left, refuse, faultOf, and the four closures that recover. -/
namespace Go.Proofs.YtmbdaenjeeklfaaDoor
open Go.RowKit

/-- The bytes bs lie in block bb from cell off on. -/
def Byts (w : World) (bb off : Nat) (bs : List UInt8) : Prop :=
  ∃ cs fr, w.heap[bb]? = some (.cells cs 5 fr) ∧ ∀ j u, bs[j]? = some u → cs[off + j]? = some (.int .u8 (u.toNat : Int))
section
variable {w w' : World} {bb off : Nat} {bs : List UInt8}
theorem Byts.lt (h : Byts w bb off bs) : bb < w.heap.size := by
  obtain ⟨cs, fr, h, _⟩ := h
  rcases Nat.lt_or_ge bb w.heap.size with hlt | hge
  · exact hlt
  · rw [Array.getElem?_eq_none hge] at h; cases h
theorem Byts.cell (h : Byts w bb off bs) {j : Nat} {u : UInt8} (hj : bs[j]? = some u) : w.cell? ⟨bb, off + j, none⟩ = some (.int .u8 (u.toNat : Int)) := by
  obtain ⟨cs, fr, h, hc⟩ := h
  simp [World.cell?, h, hc j u hj]
theorem Byts.ne_ {g : Nat} {t : TypeId} {cs : Array Value} (h : Byts w bb off bs) (hb : Blk w g t cs) (ht : t ≠ 5) : bb ≠ g := by
  rintro rfl
  obtain ⟨cs, fr, h, _⟩ := h
  unfold Blk at hb
  rw [h] at hb
  injection hb with hb
  injection hb with _ h2
  exact ht h2.symm
theorem Byts.keep (h : Byts w bb off bs) (e : w'.heap[bb]? = w.heap[bb]?) : Byts w' bb off bs := by
  obtain ⟨cs, fr, h, hc⟩ := h
  exact ⟨cs, fr, e.trans h, hc⟩
theorem Byts.grown (h : Byts w bb off bs) {row : Option Nat} (hg : w.grownBy w' row) (hr : some bb ≠ row) : Byts w' bb off bs := h.keep (hg.block bb h.lt hr)
theorem Byts.part (h : Byts w bb off bs) (k n : Nat) : Byts w bb (off + k) ((bs.drop k).take n) := by
  obtain ⟨cs, fr, h, hc⟩ := h
  refine ⟨cs, fr, h, fun j u hj => ?_⟩
  have h1 : bs[k + j]? = some u := by
    rw [List.getElem?_take] at hj
    split at hj
    · rw [List.getElem?_drop] at hj; exact hj
    · cases hj
  rw [Nat.add_assoc]
  exact hc _ u h1
theorem Byts.nil {off' : Nat} (h : Byts w bb off bs) : Byts w bb off' [] := by
  obtain ⟨cs, fr, h, hc⟩ := h
  exact ⟨cs, fr, h, fun j u hj => by simp at hj⟩
end

/-- Block g is a reader of the bytes bs, at place at_, whose bytes begin at bg. -/
def Rdr (w : World) (g : Nat) (bs : List UInt8) (at_ bg : Nat) : Prop :=
  ∃ bb off cap, Blk w g 87 #[.slice (some ⟨bb, off, none⟩) bs.length cap, .int .i64 (at_ : Int), .int .i64 (bg : Int)] ∧ Byts w bb off bs ∧ bs.length ≤ cap ∧ at_ ≤ bs.length ∧ bg + bs.length ≤ 4611686018427387904
section
variable {w w' : World} {g at_ bg : Nat} {bs : List UInt8}
theorem Rdr.lt (h : Rdr w g bs at_ bg) : g < w.heap.size := by obtain ⟨_, _, _, h, _⟩ := h; exact h.lt
theorem Rdr.le (h : Rdr w g bs at_ bg) : at_ ≤ bs.length := by obtain ⟨_, _, _, _, _, _, h, _⟩ := h; exact h
theorem Rdr.bound (h : Rdr w g bs at_ bg) : bg + bs.length ≤ 4611686018427387904 := by obtain ⟨_, _, _, _, _, _, _, h⟩ := h; exact h
theorem Rdr.grown (h : Rdr w g bs at_ bg) {row : Option Nat} (hg : w.grownBy w' row) (hr : some g ≠ row) (hu : ∀ k, row = some k → ∃ t cs, Blk w k t cs ∧ t ≠ 5) : Rdr w' g bs at_ bg := by
  obtain ⟨bb, off, cap, h, hb, r⟩ := h
  refine ⟨bb, off, cap, h.grown hg hr, hb.grown hg (fun e => ?_), r⟩
  obtain ⟨t, cs, hk, ht⟩ := hu bb e.symm
  exact hb.ne_ hk ht rfl
theorem Rdr.kept (h : Rdr w g bs at_ bg) (hg : w.grownBy w' none) : Rdr w' g bs at_ bg := h.grown hg (fun e => by cases e) (fun _ e => by cases e)
theorem Rdr.blk (h : Rdr w g bs at_ bg) : ∃ cs, Blk w g 87 cs := by obtain ⟨_, _, _, h, _⟩ := h; exact ⟨_, h⟩
/-- A reader stays when another reader's block turns. -/
theorem Rdr.other (h : Rdr w g bs at_ bg) {k : Nat} {cs : Array Value} (hg : w.grownBy w' (some k)) (hk : Blk w k 87 cs) (hne : g ≠ k) : Rdr w' g bs at_ bg :=
  h.grown hg (fun e => hne (by injection e)) (fun j e => by
    have : k = j := by injection e
    subst this
    exact ⟨_, _, hk, by decide⟩)
end

/-- Block fb is a fault, its number c and its place a. -/
def Flt (w : World) (fb : Nat) (c a : Int) : Prop := Blk w fb 48 #[.int .i64 c, .int .i64 a]

set_option maxHeartbeats 400000 in
theorem place_none (w : World) :
    Calls Tryd.prog 25 #[.pointer none] w fun e w' => e = .returned (.int .i64 0) ∧ w = w' := by
  go_enter Tryd.func25, Tryd.ntmps25
  go_wp2
  go_ret
  exact ⟨rfl, rfl⟩

set_option maxHeartbeats 400000 in
theorem place_cells (a : Nat) (at_ bg : Nat) (w : World) (h1 : w.cell? ⟨a, 1, none⟩ = some (.int .i64 at_)) (h2 : w.cell? ⟨a, 2, none⟩ = some (.int .i64 bg)) (hs : (bg : Int) + at_ ≤ 9223372036854775807) :
    Calls Tryd.prog 25 #[.pointer (some ⟨a, 0, none⟩)] w fun e w' => e = .returned (.int .i64 ((bg : Int) + (at_ : Int))) ∧ ∃ n, w' = w.drewN n := by
  go_enter Tryd.func25, Tryd.ntmps25
  go_wp2
  go_quiet (fail)
  go_wp2
  go_ret
  exact ⟨rfl, _, rfl⟩

theorem place_rdr {w : World} {g : Nat} {bs : List UInt8} {at_ bg : Nat} (h : Rdr w g bs at_ bg) :
    Calls Tryd.prog 25 #[.pointer (some ⟨g, 0, none⟩)] w fun e w' => e = .returned (.int .i64 ((bg : Int) + (at_ : Int))) ∧ ∃ n, w' = w.drewN n := by
  obtain ⟨bb, off, cap, hb, _, _, h1, h2⟩ := h
  exact place_cells g at_ bg w (hb.cell 1) (hb.cell 2) (by omega)

set_option maxHeartbeats 400000 in
theorem left_none (w : World) :
    Calls Tryd.prog 30 #[.pointer none] w fun e w' => e = .returned (.int .i64 0) ∧ w = w' := by
  go_enter Tryd.func30, Tryd.ntmps30
  go_wp2
  go_ret
  exact ⟨rfl, rfl⟩

set_option maxHeartbeats 400000 in
theorem left_cells (a len cap at_ : Nat) (A : Option Addr) (w : World) (h0 : w.cell? ⟨a, 0, none⟩ = some (.slice A len cap)) (h1 : w.cell? ⟨a, 1, none⟩ = some (.int .i64 at_)) (hs : at_ ≤ len) (hl : len ≤ 4611686018427387904) :
    Calls Tryd.prog 30 #[.pointer (some ⟨a, 0, none⟩)] w fun e w' => e = .returned (.int .i64 ((len : Int) - (at_ : Int))) ∧ ∃ n, w' = w.drewN n := by
  go_enter Tryd.func30, Tryd.ntmps30
  go_wp2
  go_quiet (fail)
  go_wp2
  go_ret
  exact ⟨rfl, _, rfl⟩

theorem left_rdr {w : World} {g : Nat} {bs : List UInt8} {at_ bg : Nat} (h : Rdr w g bs at_ bg) :
    Calls Tryd.prog 30 #[.pointer (some ⟨g, 0, none⟩)] w fun e w' => e = .returned (.int .i64 ((bs.length : Int) - (at_ : Int))) ∧ ∃ n, w' = w.drewN n := by
  obtain ⟨bb, off, cap, hb, _, _, h1, h2⟩ := h
  exact left_cells g bs.length cap at_ _ w (hb.cell 0) (hb.cell 1) h1 (by omega)

set_option maxHeartbeats 400000 in
theorem refuse_not (r : Value) (c : Int) (w : World) :
    Calls Tryd.prog 51 #[r, .bool false, .int .i64 c] w fun e w' => e = .returned (.tuple #[]) ∧ w = w' := by
  go_enter Tryd.func51, Tryd.ntmps51
  go_wp2
  go_end0
  exact ⟨rfl, rfl⟩

/-- What a call that gives up leaves: a new fault, and nothing else has turned. -/
def GaveUp (c a : Int) (w : World) (e : Ending) (w' : World) : Prop :=
  ∃ fb, e = .panicked [{ v := .iface 91 (.pointer (some ⟨fb, 0, none⟩)), recovered := false }] ∧ Flt w' fb c a ∧ w.heap.size ≤ fb ∧ w.grownBy w' none

set_option maxHeartbeats 400000 in
theorem refuse_none (c : Int) (w : World) :
    Calls Tryd.prog 51 #[.pointer none, .bool true, .int .i64 c] w (GaveUp c 0 w) := by
  go_enter Tryd.func51, Tryd.ntmps51
  go_wp2_with (first | (go_at_call 25; refine (place_none _).mono ?_; rintro e w' ⟨rfl, rfl⟩))
  exact ⟨rfl, w.heap.size, rfl, Blk.new w _ _, Nat.le_refl _, only_alloc (only_refl _ _) _⟩

set_option maxHeartbeats 400000 in
theorem refuse_rdr {w : World} {g : Nat} {bs : List UInt8} {at_ bg : Nat} (h : Rdr w g bs at_ bg) (c : Int) :
    Calls Tryd.prog 51 #[.pointer (some ⟨g, 0, none⟩), .bool true, .int .i64 c] w (GaveUp c ((bg : Int) + (at_ : Int)) w) := by
  go_enter Tryd.func51, Tryd.ntmps51
  go_wp2_with (first | (go_at_call 25; refine (place_rdr h).mono ?_; rintro e w' ⟨rfl, n, rfl⟩))
  exact ⟨rfl, w.heap.size, rfl, Blk.new (w.drewN n) _ _, Nat.le_refl _, only_alloc (only_drewN (only_refl _ _) n) _⟩

theorem assert_nil (w : World) : (Instr.typeAssert .nilIface 20 91 true).run Tryd.prog w = .ok (.tuple #[.pointer none, .bool false]) w := by kernel_rfl
theorem assert_fault (v : Value) (w : World) : (Instr.typeAssert (.iface 91 v) 20 91 true).run Tryd.prog w = .ok (.tuple #[v, .bool true]) w := by kernel_rfl

set_option maxRecDepth 100000 in
set_option maxHeartbeats 400000 in
theorem faultOf_nil (w : World) :
    Calls Tryd.prog 50 #[.nilIface] w fun e w' => e = .returned .nilIface ∧ w = w' := by
  have h := assert_nil
  go_enter Tryd.func50, Tryd.ntmps50
  go_wp2
  go_ret
  exact ⟨rfl, rfl⟩

set_option maxRecDepth 100000 in
set_option maxHeartbeats 400000 in
theorem faultOf_some (p : Addr) (w : World) :
    Calls Tryd.prog 50 #[.iface 91 (.pointer (some p))] w fun e w' => e = .returned (.iface 91 (.pointer (some p))) ∧ w = w' := by
  have h := assert_fault
  go_enter Tryd.func50, Tryd.ntmps50
  go_wp2
  go_ret
  exact ⟨rfl, rfl⟩
end Go.Proofs.YtmbdaenjeeklfaaDoor

/- octets: the closures that recover, and next. -/
namespace Go.Proofs.YtmbdaenjeeklfaaDoor
open Go.RowKit

set_option maxRecDepth 100000 in
set_option maxHeartbeats 400000 in
theorem byte_catch (p : Addr) (old : Value) (fb : Addr) (older : List PanicEntry) (w : World) (hc : w.cell? p = some old) (hz : w.frozen? p = false) :
    CallsD Tryd.prog 59 #[.pointer (some p)] (.panicking ({ v := .iface 91 (.pointer (some fb)), recovered := false } :: older)) w fun e u' w' =>
      e = .returned (.tuple #[]) ∧ u' = .panicking ({ v := .iface 91 (.pointer (some fb)), recovered := true } :: older) ∧ w' = w.setCell p (.iface 91 (.pointer (some fb))) := by
  refine callsD_of_wpS Tryd.func59 rfl fun c₀ cs hu => ?_
  apply wpS_region
  simp [wpOpsS, go_sem, recoverD, hu, Tryd.ntmps59]
  refine (faultOf_some fb _).mono ?_
  rintro e w' ⟨rfl, rfl⟩
  simp [go_sem, hc, hz, bodyPostS, results, Tryd.results59]

set_option maxRecDepth 100000 in
set_option maxHeartbeats 400000 in
theorem byte_idle (p : Addr) (old : Value) (w : World) (hc : w.cell? p = some old) (hz : w.frozen? p = false) :
    CallsD Tryd.prog 59 #[.pointer (some p)] .returning w fun e u' w' => e = .returned (.tuple #[]) ∧ u' = .returning ∧ w' = w.setCell p .nilIface := by
  refine callsD_of_wpS Tryd.func59 rfl fun c₀ cs hu => ?_
  apply wpS_region
  simp [wpOpsS, go_sem, recoverD, hu, Tryd.ntmps59]
  refine (faultOf_nil _).mono ?_
  rintro e w' ⟨rfl, rfl⟩
  simp [go_sem, hc, hz, bodyPostS, results, Tryd.results59]
  cases c₀
  simp_all

set_option maxRecDepth 100000 in
set_option maxHeartbeats 400000 in
theorem end_catch (p : Addr) (old : Value) (fb : Addr) (older : List PanicEntry) (w : World) (hc : w.cell? p = some old) (hz : w.frozen? p = false) :
    CallsD Tryd.prog 49 #[.pointer (some p)] (.panicking ({ v := .iface 91 (.pointer (some fb)), recovered := false } :: older)) w fun e u' w' =>
      e = .returned (.tuple #[]) ∧ u' = .panicking ({ v := .iface 91 (.pointer (some fb)), recovered := true } :: older) ∧ w' = w.setCell p (.iface 91 (.pointer (some fb))) := by
  refine callsD_of_wpS Tryd.func49 rfl fun c₀ cs hu => ?_
  apply wpS_region
  simp [wpOpsS, go_sem, recoverD, hu, Tryd.ntmps49]
  refine (faultOf_some fb _).mono ?_
  rintro e w' ⟨rfl, rfl⟩
  simp [go_sem, hc, hz, bodyPostS, results, Tryd.results49]

set_option maxRecDepth 100000 in
set_option maxHeartbeats 400000 in
theorem end_idle (p : Addr) (old : Value) (w : World) (hc : w.cell? p = some old) (hz : w.frozen? p = false) :
    CallsD Tryd.prog 49 #[.pointer (some p)] .returning w fun e u' w' => e = .returned (.tuple #[]) ∧ u' = .returning ∧ w' = w.setCell p .nilIface := by
  refine callsD_of_wpS Tryd.func49 rfl fun c₀ cs hu => ?_
  apply wpS_region
  simp [wpOpsS, go_sem, recoverD, hu, Tryd.ntmps49]
  refine (faultOf_nil _).mono ?_
  rintro e w' ⟨rfl, rfl⟩
  simp [go_sem, hc, hz, bodyPostS, results, Tryd.results49]
  cases c₀
  simp_all

/-- What next leaves where there are n bytes: they are told, and the place is behind them. -/
def NextOk (g : Nat) (bs : List UInt8) (at_ bg n : Nat) (w : World) (e : Ending) (w' : World) : Prop :=
  ∃ bb off, e = .returned (.slice (some ⟨bb, off, none⟩) n n) ∧ w.grownBy w' (some g) ∧ Rdr w' g bs (at_ + n) bg ∧ Byts w' bb off ((bs.drop at_).take n)

theorem next_close {w : World} {g bb off cap at_ bg n : Nat} {bs : List UInt8} (hb : Blk w g 87 #[.slice (some ⟨bb, off, none⟩) bs.length cap, .int .i64 (at_ : Int), .int .i64 (bg : Int)]) (hy : Byts w bb off bs)
    (h1 : bs.length ≤ cap) (h3 : bg + bs.length ≤ 4611686018427387904) (hn : at_ + n ≤ bs.length) (k off' : Nat) (ho : off' = off + at_ ∨ n = 0) :
    NextOk g bs at_ bg n w (.returned (.slice (some ⟨bb, off', none⟩) n n)) ((w.drewN k).setCell ⟨g, 1, none⟩ (.int .i64 ((at_ : Int) + (n : Int)))) := by
  have hg : w.grownBy ((w.drewN k).setCell ⟨g, 1, none⟩ (.int .i64 ((at_ : Int) + (n : Int)))) (some g) := only_setCell (only_drewN (only_refl _ _) k) rfl _
  have hne : bb ≠ g := hy.ne_ hb (by decide)
  have hy' := hy.grown hg (fun e => hne (by injection e))
  refine ⟨bb, off', rfl, hg, ⟨bb, off, cap, ?_, hy', h1, hn, h3⟩, ?_⟩
  · have := (hb.drewN k).set_ 1 (.int .i64 ((at_ : Int) + (n : Int)))
    rw [Int.natCast_add]
    exact this
  · rcases ho with rfl | rfl
    · exact hy'.part at_ n
    · rw [List.take_zero]; exact hy'.nil

set_option maxHeartbeats 400000 in
theorem next_ok {w : World} {g : Nat} {bs : List UInt8} {at_ bg : Nat} (h : Rdr w g bs at_ bg) (n : Nat) (hn : at_ + n ≤ bs.length) :
    Calls Tryd.prog 60 #[.pointer (some ⟨g, 0, none⟩), .int .i64 (n : Int)] w (NextOk g bs at_ bg n w) := by
  have hr := h
  have hl := h.bound
  obtain ⟨bb, off, cap, hb, hy, h1, h2, h3⟩ := h
  have hend := Lib.hid (fun k off' ho => next_close hb hy h1 h3 hn k off' ho)
  have c0 : ∀ k, (w.drewN k).cell? ⟨g, 0, none⟩ = some (.slice (some ⟨bb, off, none⟩) bs.length cap) := fun k => (hb.drewN k).cell 0
  have c1 : ∀ k, (w.drewN k).cell? ⟨g, 1, none⟩ = some (.int .i64 (at_ : Int)) := fun k => (hb.drewN k).cell 1
  have f1 : ∀ k, (w.drewN k).frozen? ⟨g, 1, none⟩ = false := fun k => (hb.drewN k).frozen 1
  have d1 : decide ((n : Int) < 0) = false := by simp
  have d2 : decide ((bs.length : Int) - (at_ : Int) < (n : Int)) = false := by simp; omega
  have hw : IntKind.i64.wrap ((at_ : Int) + (n : Int)) = (at_ : Int) + (n : Int) := IntWalk.i64_in _ ⟨by omega, by omega⟩
  go_enter Tryd.func60, Tryd.ntmps60
  go_wp2_with (first
    | (go_at_call 51; ((with_reducible refine (refuse_not _ _ _).mono ?_); rintro e w' ⟨rfl, rfl⟩))
    | (go_at_call 30; ((with_reducible refine (left_rdr hr).mono ?_); rintro e w' ⟨rfl, k, rfl⟩)))
  go_quiet (fail)
  go_wp2
  all_goals (go_ret; first | exact hend.out _ _ (Or.inl rfl) | ((obtain rfl : n = 0 := (by omega)); exact hend.out _ _ (Or.inr rfl)))

/-- next of a reader that is none. -/
theorem next_none (n : Int) (w : World) :
    Calls Tryd.prog 60 #[.pointer none, .int .i64 n] w (GaveUp 1 0 w) := by
  go_enter Tryd.func60, Tryd.ntmps60
  go_wp2_with (go_at_call 51; ((with_reducible refine (refuse_none _ _).mono ?_); rintro e w' ⟨fb, rfl, h1, h2, h3⟩))
  exact ⟨rfl, fb, rfl, h1, h2, h3⟩

theorem next_neg {w : World} {g : Nat} {bs : List UInt8} {at_ bg : Nat} (h : Rdr w g bs at_ bg) (n : Int) (hn : n < 0) :
    Calls Tryd.prog 60 #[.pointer (some ⟨g, 0, none⟩), .int .i64 n] w (GaveUp 2 ((bg : Int) + (at_ : Int)) w) := by
  have d1 : decide (n < 0) = true := by simpa using hn
  clear hn
  go_enter Tryd.func60, Tryd.ntmps60
  go_wp2_with (first
    | (go_at_call 51; ((with_reducible refine (refuse_not _ _ _).mono ?_); rintro e w' ⟨rfl, rfl⟩))
    | (go_at_call 51; ((with_reducible refine (refuse_rdr h _).mono ?_); rintro e w' ⟨fb, rfl, h1, h2, h3⟩)))
  exact ⟨rfl, fb, rfl, h1, h2, h3⟩

theorem next_short {w : World} {g : Nat} {bs : List UInt8} {at_ bg : Nat} (h : Rdr w g bs at_ bg) (n : Int) (hn : ((bs.length : Int) - (at_ : Int)) < n) :
    Calls Tryd.prog 60 #[.pointer (some ⟨g, 0, none⟩), .int .i64 n] w (GaveUp 3 ((bg : Int) + (at_ : Int)) w) := by
  have hl := h.le
  have d1 : decide (n < 0) = false := by simp; omega
  have d2 : decide ((bs.length : Int) - (at_ : Int) < n) = true := by simpa using hn
  clear hn
  have hR : ∀ k, Rdr (w.drewN k) g bs at_ bg := fun k => h.kept (only_drewN (only_refl _ _) k)
  go_enter Tryd.func60, Tryd.ntmps60
  go_wp2_with (first
    | (go_at_call 51; ((with_reducible refine (refuse_not _ _ _).mono ?_); rintro e w' ⟨rfl, rfl⟩))
    | (go_at_call 30; ((with_reducible refine (left_rdr h).mono ?_); rintro e w' ⟨rfl, k, rfl⟩))
    | (go_at_call 51; ((with_reducible refine (refuse_rdr (hR k) _).mono ?_); rintro e w' ⟨fb, rfl, h1, h2, h3⟩)))
  exact ⟨rfl, fb, rfl, h1, h2, only_trans (only_drewN (only_refl _ _) k) h3⟩
end Go.Proofs.YtmbdaenjeeklfaaDoor

/- octets: Byte, Take, Part and End of a reader: what each answers, and what it leaves. -/
namespace Go.Proofs.YtmbdaenjeeklfaaDoor
open Go.RowKit

/-- A fault beside the value v: its number c, its place a; nothing that was there has turned. -/
def ToldFault (v : Value) (c a : Int) (w : World) (e : Ending) (w' : World) : Prop :=
  ∃ fb, e = .returned (.tuple #[v, .iface 91 (.pointer (some ⟨fb, 0, none⟩))]) ∧ Flt w' fb c a ∧ w.heap.size ≤ fb ∧ w.grownBy w' none

/-- What the closure's catch leaves behind a call that gave up. -/
theorem caught {w w1 w2 : World} {c a : Int} {fb : Nat} (hw1 : w1 = w.alloc (.cells #[.nilIface] 44)) (h1 : Flt w2 fb c a) (h2 : w1.heap.size ≤ fb) (h3 : w1.grownBy w2 none) :
    w2.cell? ⟨w.heap.size, 0, none⟩ = some .nilIface ∧ w2.frozen? ⟨w.heap.size, 0, none⟩ = false ∧
    Flt (w2.setCell ⟨w.heap.size, 0, none⟩ (.iface 91 (.pointer (some ⟨fb, 0, none⟩)))) fb c a ∧ w.heap.size ≤ fb ∧ w.grownBy (w2.setCell ⟨w.heap.size, 0, none⟩ (.iface 91 (.pointer (some ⟨fb, 0, none⟩)))) none := by
  subst hw1
  have hb := (Blk.new w 44 #[.nilIface]).kept h3
  have hs : (w.alloc (.cells #[.nilIface] 44)).heap.size = w.heap.size + 1 := by simp
  rw [hs] at h2
  exact ⟨hb.cell 0, hb.frozen 0, Blk.far h1 (p := ⟨w.heap.size, 0, none⟩) (by show fb ≠ w.heap.size; omega) _, by omega, only_setNew (only_trans (only_alloc (only_refl w none) _) h3) (Nat.le_refl _) _⟩

theorem byte_read {w w1 : World} {g bb off at_ : Nat} {bs : List UInt8} {u : UInt8} (hlt : g < w.heap.size) (hu : bs[at_]? = some u) (hg1 : (w.alloc (.cells #[.nilIface] 44)).grownBy w1 (some g)) (hy1 : Byts w1 bb off ((bs.drop at_).take 1)) :
    w1.cell? ⟨w.heap.size, 0, none⟩ = some .nilIface ∧ w1.frozen? ⟨w.heap.size, 0, none⟩ = false ∧ w1.cell? ⟨bb, off, none⟩ = some (.int .u8 (u.toNat : Int)) := by
  have hb := (Blk.new w 44 #[.nilIface]).grown hg1 (fun e => by injection e with e; omega)
  exact ⟨hb.cell 0, hb.frozen 0, hy1.cell (j := 0) (u := u) (by simp [hu])⟩

/-- The world behind the closure's call, where the call did not give up. -/
def okWorld (w w1 : World) : World := (w1.setCell ⟨w.heap.size, 0, none⟩ .nilIface).setCell ⟨w.heap.size, 0, none⟩ .nilIface
theorem ok_end {w w1 : World} {g a bg : Nat} {bs : List UInt8} (hlt : g < w.heap.size) (hg1 : (w.alloc (.cells #[.nilIface] 44)).grownBy w1 (some g)) (hr1 : Rdr w1 g bs a bg) :
    (okWorld w w1).cell? ⟨w.heap.size, 0, none⟩ = some .nilIface ∧ w.grownBy (okWorld w w1) (some g) ∧ Rdr (okWorld w w1) g bs a bg := by
  have hb := (Blk.new w 44 #[.nilIface]).grown hg1 (fun e => by injection e with e; omega)
  have hk : w1.grownBy (okWorld w w1) (some w.heap.size) := only_setCell (only_setCell (only_refl _ _) rfl _) rfl _
  have hb2 := (hb.set_ 0 .nilIface).set_ 0 .nilIface
  refine ⟨hb2.cell 0, ?_, ?_⟩
  · exact only_setNew (only_setNew (only_trans (only_weak (only_alloc (only_refl w none) _) _) hg1) (Nat.le_refl _) _) (Nat.le_refl _) _
  · exact hr1.grown hk (fun e => by injection e with e; omega) (fun k e => by
      injection e with e
      subst e
      exact ⟨_, _, hb, by decide⟩)
/-- The same for a byte slice that was handed out. -/
theorem ok_byts {w w1 : World} {g bb off : Nat} {bs : List UInt8} (hlt : g < w.heap.size) (hg1 : (w.alloc (.cells #[.nilIface] 44)).grownBy w1 (some g)) (hy : Byts w1 bb off bs) : Byts (okWorld w w1) bb off bs := by
  have hb := (Blk.new w 44 #[.nilIface]).grown hg1 (fun e => by injection e with e; omega)
  have hk : w1.grownBy (okWorld w w1) (some w.heap.size) := only_setCell (only_setCell (only_refl _ _) rfl _) rfl _
  exact hy.grown hk (fun e => (hy.ne_ hb (by decide)) (by injection e))

set_option maxRecDepth 100000 in
set_option maxHeartbeats 1000000 in
theorem byte_ok {w : World} {g : Nat} {bs : List UInt8} {at_ bg : Nat} (h : Rdr w g bs at_ bg) (u : UInt8) (hu : bs[at_]? = some u) :
    Calls Tryd.prog 43 #[.pointer (some ⟨g, 0, none⟩)] w fun e w' => e = .returned (.tuple #[.int .u8 (u.toNat : Int), .nilIface]) ∧ w.grownBy w' (some g) ∧ Rdr w' g bs (at_ + 1) bg := by
  have hmf : ∀ (fn : Fn) (first cap : Array Value) (w : World), (Instr.makeFunc fn first cap).run Tryd.prog w = .ok (.func fn first cap) w := fun _ _ _ _ => rfl
  have hR : Rdr (w.alloc (.cells #[.nilIface] 44)) g bs at_ bg := h.kept (only_alloc (only_refl _ _) _)
  have hn : at_ + 1 ≤ bs.length := by
    have := (List.getElem?_eq_some_iff.1 hu).1
    omega
  have hlt := h.lt
  have H : Calls Tryd.prog 60 #[.pointer (some ⟨g, 0, none⟩), .int .i64 1] (w.alloc (.cells #[.nilIface] 44)) (NextOk g bs at_ bg 1 (w.alloc (.cells #[.nilIface] 44))) := next_ok hR 1 hn
  go_enter_defers Tryd.func43, Tryd.ntmps43
  go_wp2_with (go_at_call 60; ((with_reducible refine H.mono ?_); rintro e w1 ⟨bb, off, rfl, hg1, hr1, hy1⟩); obtain ⟨ce, fe, cu⟩ := byte_read hlt hu hg1 hy1)
  refine leaves_cons (f := 59) (args := #[.pointer (some ⟨w.heap.size, 0, none⟩)]) (by simp) (by simp [go_sem]) ?_
  refine (byte_idle ⟨w.heap.size, 0, none⟩ .nilIface _ ?_ ?_).mono ?_
  · simp [go_sem, ce]
  · simp [go_sem, fe]
  rintro e u' w'' ⟨rfl, rfl, rfl⟩
  obtain ⟨e1, e2, e3⟩ := ok_end hlt hg1 hr1
  unfold okWorld at e1 e2 e3
  simp [Leaves, settle, results, Tryd.results43, go_sem, e1, e2, e3]

set_option maxRecDepth 100000 in
set_option maxHeartbeats 1000000 in
theorem byte_short {w : World} {g : Nat} {bs : List UInt8} {at_ bg : Nat} (h : Rdr w g bs at_ bg) (ha : at_ = bs.length) :
    Calls Tryd.prog 43 #[.pointer (some ⟨g, 0, none⟩)] w (ToldFault (.int .u8 0) 3 ((bg : Int) + (at_ : Int)) w) := by
  have hmf : ∀ (fn : Fn) (first cap : Array Value) (w : World), (Instr.makeFunc fn first cap).run Tryd.prog w = .ok (.func fn first cap) w := fun _ _ _ _ => rfl
  have hR : Rdr (w.alloc (.cells #[.nilIface] 44)) g bs at_ bg := h.kept (only_alloc (only_refl _ _) _)
  have H := next_short hR 1 (by omega)
  clear ha
  go_enter_defers Tryd.func43, Tryd.ntmps43
  go_wp2_with (go_at_call 60; ((with_reducible refine H.mono ?_); rintro e w1 ⟨fb, rfl, h1, h2, h3⟩); obtain ⟨ce, fe, hF⟩ := caught rfl h1 h2 h3)
  refine leaves_cons (f := 59) (args := #[.pointer (some ⟨w.heap.size, 0, none⟩)]) (by simp) (by simp [go_sem]) ?_
  refine (byte_catch ⟨w.heap.size, 0, none⟩ .nilIface ⟨fb, 0, none⟩ [] _ ce fe).mono ?_
  rintro e u' w'' ⟨rfl, rfl, rfl⟩
  have hc := World.cell?_setCell_same w1 ⟨w.heap.size, 0, none⟩ (.iface 91 (.pointer (some ⟨fb, 0, none⟩))) ce
  simp [Leaves, settle, results, Tryd.results43, go_sem, hc]
  exact ⟨fb, rfl, hF⟩

set_option maxRecDepth 100000 in
set_option maxHeartbeats 1000000 in
theorem byte_none (w : World) :
    Calls Tryd.prog 43 #[.pointer none] w (ToldFault (.int .u8 0) 1 0 w) := by
  have hmf : ∀ (fn : Fn) (first cap : Array Value) (w : World), (Instr.makeFunc fn first cap).run Tryd.prog w = .ok (.func fn first cap) w := fun _ _ _ _ => rfl
  have H := next_none 1 (w.alloc (.cells #[.nilIface] 44))
  go_enter_defers Tryd.func43, Tryd.ntmps43
  go_wp2_with (go_at_call 60; ((with_reducible refine H.mono ?_); rintro e w1 ⟨fb, rfl, h1, h2, h3⟩); obtain ⟨ce, fe, hF⟩ := caught rfl h1 h2 h3)
  refine leaves_cons (f := 59) (args := #[.pointer (some ⟨w.heap.size, 0, none⟩)]) (by simp) (by simp [go_sem]) ?_
  refine (byte_catch ⟨w.heap.size, 0, none⟩ .nilIface ⟨fb, 0, none⟩ [] _ ce fe).mono ?_
  rintro e u' w'' ⟨rfl, rfl, rfl⟩
  have hc := World.cell?_setCell_same w1 ⟨w.heap.size, 0, none⟩ (.iface 91 (.pointer (some ⟨fb, 0, none⟩))) ce
  simp [Leaves, settle, results, Tryd.results43, go_sem, hc]
  exact ⟨fb, rfl, hF⟩

end Go.Proofs.YtmbdaenjeeklfaaDoor

/- octets: Take, Part and End of a reader: what each answers, and what it leaves. -/
namespace Go.Proofs.YtmbdaenjeeklfaaDoor
open Go.RowKit

theorem byts_string {w : World} {bb off : Nat} {bs : List UInt8} (h : Byts w bb off bs) (n cap : Nat) (hn : bs.length = n) :
    (convert 63 9 (.slice (some ⟨bb, off, none⟩) n cap)).run Tryd.prog w = .ok (.string ⟨bs.toArray⟩) w := by
  subst hn
  refine run_convert_bytes_back w _ _ _ ⟨bb, off, none⟩ cap bs Tryd.underlying63 Tryd.underlying5 Tryd.underlying9 fun j hj => ?_
  have := h.cell (j := j) (List.getElem?_eq_getElem hj)
  rw [← this]
  congr 1
  unfold Addr.add
  split
  · rename_i h0; subst h0; rfl
  · rfl

theorem take_read {w w1 : World} {g : Nat} (hlt : g < w.heap.size) (hg1 : (w.alloc (.cells #[.nilIface] 44)).grownBy w1 (some g)) :
    w1.cell? ⟨w.heap.size, 0, none⟩ = some .nilIface ∧ w1.frozen? ⟨w.heap.size, 0, none⟩ = false := by
  have hb := (Blk.new w 44 #[.nilIface]).grown hg1 (fun e => by injection e with e; omega)
  exact ⟨hb.cell 0, hb.frozen 0⟩

/-- What Part leaves: a new reader of the next n bytes, and the old one behind them. -/
def PartOk (g : Nat) (bs : List UInt8) (at_ bg n : Nat) (w : World) (e : Ending) (w' : World) : Prop :=
  ∃ p, e = .returned (.tuple #[.pointer (some ⟨p, 0, none⟩), .nilIface]) ∧ w.heap.size ≤ p ∧ w.grownBy w' (some g) ∧ Rdr w' g bs (at_ + n) bg ∧ Rdr w' p ((bs.drop at_).take n) 0 (bg + at_)

/-- The world behind the closure's call of Part. -/
def partWorld (w w1 : World) (o : Obj) : World := ((w1.setCell ⟨w.heap.size, 0, none⟩ .nilIface).alloc o).setCell ⟨w.heap.size, 0, none⟩ .nilIface
theorem part_end {w w1 : World} {k g bb off n at_ bg : Nat} {bs : List UInt8} (hlt : g < w.heap.size) (hg1 : ((w.alloc (.cells #[.nilIface] 44)).drewN k).grownBy w1 (some g)) (hr1 : Rdr w1 g bs (at_ + n) bg) (hy1 : Byts w1 bb off ((bs.drop at_).take n)) :
    ((w1.setCell ⟨w.heap.size, 0, none⟩ .nilIface).alloc (.cells #[.slice (some ⟨bb, off, none⟩) n n, .int .i64 0, .int .i64 ((bg : Int) + (at_ : Int))] 87)).cell? ⟨w.heap.size, 0, none⟩ = some .nilIface ∧
    ((w1.setCell ⟨w.heap.size, 0, none⟩ .nilIface).alloc (.cells #[.slice (some ⟨bb, off, none⟩) n n, .int .i64 0, .int .i64 ((bg : Int) + (at_ : Int))] 87)).frozen? ⟨w.heap.size, 0, none⟩ = false ∧
    (partWorld w w1 (.cells #[.slice (some ⟨bb, off, none⟩) n n, .int .i64 0, .int .i64 ((bg : Int) + (at_ : Int))] 87)).cell? ⟨w.heap.size, 0, none⟩ = some .nilIface ∧
    PartOk g bs at_ bg n w (.returned (.tuple #[.pointer (some ⟨w1.heap.size, 0, none⟩), .nilIface])) (partWorld w w1 (.cells #[.slice (some ⟨bb, off, none⟩) n n, .int .i64 0, .int .i64 ((bg : Int) + (at_ : Int))] 87)) := by
  have hle := hr1.le
  have hbd := hr1.bound
  have hlen : ((bs.drop at_).take n).length = n := by simp; omega
  unfold PartOk
  generalize hl : (bs.drop at_).take n = l at *
  have hb := ((Blk.new w 44 #[.nilIface]).drewN k).grown hg1 (fun e => by injection e with e; omega)
  have hsz := hb.lt
  have hb1 := hb.set_ 0 .nilIface
  have hs1 : (w1.setCell ⟨w.heap.size, 0, none⟩ .nilIface).heap.size = w1.heap.size := by simp [World.setCell]
  have hro : ∀ (v : World) cs, Blk v w.heap.size 44 cs → ∀ j, some w.heap.size = some j → ∃ t cs, Blk v j t cs ∧ t ≠ 5 := fun v cs hv j e => by
    injection e with e
    subst e
    exact ⟨_, _, hv, by decide⟩
  have hk1 : w1.grownBy (w1.setCell ⟨w.heap.size, 0, none⟩ .nilIface) (some w.heap.size) := only_setCell (only_refl _ _) rfl _
  have hr2 := hr1.grown hk1 (fun e => by injection e with e; omega) (hro _ _ hb)
  have hy2 := hy1.grown hk1 (fun e => (hy1.ne_ hb (by decide)) (by injection e))
  have hg2 : w.grownBy (w1.setCell ⟨w.heap.size, 0, none⟩ .nilIface) (some g) := only_setNew (only_trans (only_weak (only_drewN (only_alloc (only_refl w none) _) k) _) hg1) (Nat.le_refl _) _
  unfold partWorld
  generalize w1.setCell ⟨w.heap.size, 0, none⟩ .nilIface = w2 at *
  have hnew := Blk.new w2 87 #[.slice (some ⟨bb, off, none⟩) n n, .int .i64 0, .int .i64 ((bg : Int) + (at_ : Int))]
  generalize hob : (Obj.cells #[.slice (some ⟨bb, off, none⟩) n n, .int .i64 0, .int .i64 ((bg : Int) + (at_ : Int))] 87) = ob at *
  have hk0 : w2.grownBy (w2.alloc ob) none := only_alloc (only_refl _ _) _
  have hk : (w2.alloc ob).grownBy ((w2.alloc ob).setCell ⟨w.heap.size, 0, none⟩ .nilIface) (some w.heap.size) := only_setCell (only_refl _ _) rfl _
  have hb' := hb1.kept hk0
  have hb2 := hb'.set_ 0 .nilIface
  have hpr : Rdr (w2.alloc ob) w1.heap.size l 0 (bg + at_) := by
    refine ⟨bb, off, n, ?_, hy2.grown hk0 (fun e => by cases e), by omega, by omega, by omega⟩
    rw [hlen, Int.natCast_add, ← hs1]
    exact hnew
  refine ⟨hb'.cell 0, hb'.frozen 0, hb2.cell 0, w1.heap.size, rfl, by omega, ?_, ?_, ?_⟩
  · exact only_setNew (only_alloc hg2 _) (Nat.le_refl _) _
  · exact (hr2.kept hk0).grown hk (fun e => by injection e with e; omega) (hro _ _ hb')
  · exact hpr.grown hk (fun e => by injection e with e; omega) (hro _ _ hb')

theorem part_read {w w1 : World} {g k : Nat} (hlt : g < w.heap.size) (hg1 : ((w.alloc (.cells #[.nilIface] 44)).drewN k).grownBy w1 (some g)) :
    w1.cell? ⟨w.heap.size, 0, none⟩ = some .nilIface ∧ w1.frozen? ⟨w.heap.size, 0, none⟩ = false ∧ w.heap.size < w1.heap.size := by
  have hb := ((Blk.new w 44 #[.nilIface]).drewN k).grown hg1 (fun e => by injection e with e; omega)
  exact ⟨hb.cell 0, hb.frozen 0, hb.lt⟩

end Go.Proofs.YtmbdaenjeeklfaaDoor

/- octets: the faults of Part, and End: what each answers, and what it leaves. -/
namespace Go.Proofs.YtmbdaenjeeklfaaDoor
open Go.RowKit

/-- A fault alone: its number c, its place a; nothing that was there has turned. -/
def ToldFault1 (c a : Int) (w : World) (e : Ending) (w' : World) : Prop :=
  ∃ fb, e = .returned (.iface 91 (.pointer (some ⟨fb, 0, none⟩))) ∧ Flt w' fb c a ∧ w.heap.size ≤ fb ∧ w.grownBy w' none

set_option maxRecDepth 100000 in
set_option maxHeartbeats 1000000 in
theorem end_none (w : World) :
    Calls Tryd.prog 29 #[.pointer none] w (ToldFault1 1 0 w) := by
  have hmf : ∀ (fn : Fn) (first cap : Array Value) (w : World), (Instr.makeFunc fn first cap).run Tryd.prog w = .ok (.func fn first cap) w := fun _ _ _ _ => rfl
  go_enter_defers Tryd.func29, Tryd.ntmps29
  go_wp2_with (first
    | (go_at_call 51; ((with_reducible refine (refuse_none _ _).mono ?_); rintro e w1 ⟨fb, rfl, h1, h2, h3⟩); obtain ⟨ce, fe, hF⟩ := caught rfl h1 h2 h3))
  refine leaves_cons (f := 49) (args := #[.pointer (some ⟨w.heap.size, 0, none⟩)]) (by simp) (by simp [go_sem]) ?_
  refine (end_catch ⟨w.heap.size, 0, none⟩ .nilIface ⟨fb, 0, none⟩ [] _ ce fe).mono ?_
  rintro e u' w'' ⟨rfl, rfl, rfl⟩
  have hc := World.cell?_setCell_same w1 ⟨w.heap.size, 0, none⟩ (.iface 91 (.pointer (some ⟨fb, 0, none⟩))) ce
  simp [Leaves, settle, results, Tryd.results29, go_sem, hc]
  exact ⟨fb, rfl, hF⟩

set_option maxRecDepth 100000 in
set_option maxHeartbeats 1000000 in
theorem end_long {w : World} {g : Nat} {bs : List UInt8} {at_ bg : Nat} (h : Rdr w g bs at_ bg) (ha : at_ < bs.length) :
    Calls Tryd.prog 29 #[.pointer (some ⟨g, 0, none⟩)] w (ToldFault1 4 ((bg : Int) + (at_ : Int)) w) := by
  have hmf : ∀ (fn : Fn) (first cap : Array Value) (w : World), (Instr.makeFunc fn first cap).run Tryd.prog w = .ok (.func fn first cap) w := fun _ _ _ _ => rfl
  have hR : Rdr (w.alloc (.cells #[.nilIface] 44)) g bs at_ bg := h.kept (only_alloc (only_refl _ _) _)
  have hR' := fun k => hR.kept (only_drewN (only_refl _ _) k)
  have d1 : decide (0 < (bs.length : Int) - (at_ : Int)) = true := by simp; omega
  go_enter_defers Tryd.func29, Tryd.ntmps29
  go_wp2_with (first
    | (go_at_call 51; ((with_reducible refine (refuse_not _ _ _).mono ?_); rintro e w' ⟨rfl, rfl⟩))
    | (go_at_call 30; ((with_reducible refine (left_rdr hR).mono ?_); rintro e w' ⟨rfl, k, rfl⟩))
    | (go_at_call 51; ((with_reducible refine (refuse_rdr (hR' _) _).mono ?_); rintro e w1 ⟨fb, rfl, h1, h2, h3⟩); obtain ⟨ce, fe, hF⟩ := caught rfl h1 h2 (only_trans (only_drewN (only_refl _ _) k) h3)))
  refine leaves_cons (f := 49) (args := #[.pointer (some ⟨w.heap.size, 0, none⟩)]) (by simp) (by simp [go_sem]) ?_
  refine (end_catch ⟨w.heap.size, 0, none⟩ .nilIface ⟨fb, 0, none⟩ [] _ ce fe).mono ?_
  rintro e u' w'' ⟨rfl, rfl, rfl⟩
  have hc := World.cell?_setCell_same w1 ⟨w.heap.size, 0, none⟩ (.iface 91 (.pointer (some ⟨fb, 0, none⟩))) ce
  simp [Leaves, settle, results, Tryd.results29, go_sem, hc]
  exact ⟨fb, rfl, hF⟩

theorem end_close (w : World) (k : Nat) :
    ((((w.alloc (.cells #[.nilIface] 44)).drewN k).setCell ⟨w.heap.size, 0, none⟩ .nilIface).setCell ⟨w.heap.size, 0, none⟩ .nilIface).cell? ⟨w.heap.size, 0, none⟩ = some .nilIface ∧
    w.grownBy ((((w.alloc (.cells #[.nilIface] 44)).drewN k).setCell ⟨w.heap.size, 0, none⟩ .nilIface).setCell ⟨w.heap.size, 0, none⟩ .nilIface) none := by
  have hb := (((Blk.new w 44 #[.nilIface]).drewN k).set_ 0 .nilIface).set_ 0 .nilIface
  exact ⟨hb.cell 0, only_setNew (only_setNew (only_drewN (only_alloc (only_refl w none) _) k) (Nat.le_refl _) _) (Nat.le_refl _) _⟩

set_option maxRecDepth 100000 in
set_option maxHeartbeats 1000000 in
theorem end_ok {w : World} {g : Nat} {bs : List UInt8} {at_ bg : Nat} (h : Rdr w g bs at_ bg) (ha : at_ = bs.length) :
    Calls Tryd.prog 29 #[.pointer (some ⟨g, 0, none⟩)] w fun e w' => e = .returned .nilIface ∧ w.grownBy w' none := by
  have hmf : ∀ (fn : Fn) (first cap : Array Value) (w : World), (Instr.makeFunc fn first cap).run Tryd.prog w = .ok (.func fn first cap) w := fun _ _ _ _ => rfl
  have hR : Rdr (w.alloc (.cells #[.nilIface] 44)) g bs at_ bg := h.kept (only_alloc (only_refl _ _) _)
  have d1 : decide (0 < (bs.length : Int) - (at_ : Int)) = false := by simp; omega
  have d2 : decide ((at_ : Int) < (bs.length : Int)) = false := by simp; omega
  have d3 : decide (at_ < bs.length) = false := by simp; omega
  clear ha
  have hcl := Lib.hid (end_close w)
  go_enter_defers Tryd.func29, Tryd.ntmps29
  go_wp2_with (first
    | (go_at_call 51; ((with_reducible refine (refuse_not _ _ _).mono ?_); rintro e w' ⟨rfl, rfl⟩))
    | (go_at_call 30; ((with_reducible refine (left_rdr hR).mono ?_); rintro e w' ⟨rfl, k, rfl⟩)))
  refine leaves_cons (f := 49) (args := #[.pointer (some ⟨w.heap.size, 0, none⟩)]) (by simp) (by simp [go_sem]) ?_
  refine (end_idle ⟨w.heap.size, 0, none⟩ .nilIface _ ?_ ?_).mono ?_
  · simp [go_sem]
  · simp [go_sem]
  rintro e u' w'' ⟨rfl, rfl, rfl⟩
  simp [Leaves, settle, results, Tryd.results29, go_sem]
  exact (hcl.out k).2
end Go.Proofs.YtmbdaenjeeklfaaDoor

/- octets: a new reader, and writers: what each call answers, and what it leaves. -/
namespace Go.Proofs.YtmbdaenjeeklfaaDoor
open Go.RowKit

theorem bytes_len (s : ByteArray) : s.data.toList.length = s.size := by rw [Array.length_toList]; rfl

theorem reader_end (s : ByteArray) (w : World) (hs : s.size ≤ 4611686018427387904) (cap : Nat) (hc : s.size ≤ cap) :
    w.grownBy (((w.alloc (.cells (bytesRow s cap) 5 ((bytesRow s cap).size, (bytesRow s cap).size + 1))).alloc (.cells #[.slice (some ⟨w.heap.size, 0, none⟩) s.size cap, .int .i64 0, .int .i64 0] 87)).drew) none ∧
    Rdr (((w.alloc (.cells (bytesRow s cap) 5 ((bytesRow s cap).size, (bytesRow s cap).size + 1))).alloc (.cells #[.slice (some ⟨w.heap.size, 0, none⟩) s.size cap, .int .i64 0, .int .i64 0] 87)).drew) (w.heap.size + 1) s.data.toList 0 0 := by
  have hsz : s.size = s.data.toList.length := (bytes_len s).symm
  generalize hw1 : w.alloc (.cells (bytesRow s cap) 5 ((bytesRow s cap).size, (bytesRow s cap).size + 1)) = w1
  have h1 : w.grownBy w1 none := by subst hw1; exact only_alloc (only_refl _ _) _
  have hz : w1.heap.size = w.heap.size + 1 := by subst hw1; simp
  have hb : Byts w1 w.heap.size 0 s.data.toList := by
    refine ⟨bytesRow s cap, ((bytesRow s cap).size, (bytesRow s cap).size + 1), ?_, fun j u hj => ?_⟩
    · subst hw1; exact heap_alloc_new w _
    · have hjl : j < s.data.size := by simpa using (List.getElem?_eq_some_iff.1 hj).1
      rw [Nat.zero_add, bytesRow_at s cap j hjl]
      have : s.data[j] = u := by
        have h2 := (List.getElem?_eq_some_iff.1 hj).2
        simpa using h2
      rw [this]
  have hnew := Blk.new w1 87 #[.slice (some ⟨w.heap.size, 0, none⟩) s.size cap, .int .i64 0, .int .i64 0]
  rw [hz] at hnew
  refine ⟨only_drew (only_alloc h1 _), w.heap.size, 0, cap, ?_, ?_, by omega, by omega, by omega⟩
  · rw [← hsz]; exact hnew.drew
  · exact (hb.grown (only_alloc (only_refl _ none) _) (fun e => by cases e)).keep rfl

set_option maxHeartbeats 400000 in
/-- NewReader: a reader of the string's bytes, at its beginning. -/
theorem newReader_any (s : ByteArray) (w : World) (hs : s.size ≤ 4611686018427387904) :
    Calls Tryd.prog 20 #[.string s] w fun e w' => ∃ g, e = .returned (.pointer (some ⟨g, 0, none⟩)) ∧ w.heap.size ≤ g ∧ w.grownBy w' none ∧ Rdr w' g s.data.toList 0 0 := by
  have hcv := fun W : World => run_bytes_of_string (P := Tryd.prog) W 9 63 5 s Tryd.underlying9 Tryd.underlying63 Tryd.underlying5
  have hend := Lib.hid (reader_end s w hs (grownCap w s.size 0 5) (grownCap_ge w s.size 0 5))
  go_enter Tryd.func20, Tryd.ntmps20
  go_wp2
  go_ret
  exact ⟨w.heap.size + 1, rfl, by omega, hend.out⟩

/-! ### WRITERS -/

/-- A block of bytes. -/
def IsU8 (w : World) (i : Nat) : Prop := ∃ cs fr, w.heap[i]? = some (.cells cs 5 fr)
/-- A step that turns no block of w but those in S. -/
structure Turn (S : Nat → Prop) (w w' : World) : Prop where
  os : w'.os = w.os
  tape : w'.tape = w.tape
  output : w'.output = w.output
  size : w.heap.size ≤ w'.heap.size
  block : ∀ i, i < w.heap.size → ¬ S i → w'.heap[i]? = w.heap[i]?
/-- The blocks that a writer at g turns: its own, and bytes from block B on. -/
def WS (B : Nat) (w : World) (g i : Nat) : Prop := i = g ∨ (B ≤ i ∧ IsU8 w i)
theorem Turn.of_only {S : Nat → Prop} {w w' : World} {row : Option Nat} (h : w.grownBy w' row) (hr : ∀ g, row = some g → S g) : Turn S w w' :=
  ⟨h.os, h.tape, h.output, h.size, fun i hi hn => h.block i hi (fun e => hn (hr i e.symm))⟩
theorem Turn.below {S : Nat → Prop} {w w' : World} (h : Turn S w w') {B : Nat} (hB : B ≤ w.heap.size) (hS : ∀ i, S i → B ≤ i) : Below B w w' :=
  ⟨h.os, h.tape, h.output, h.size, fun k hk => h.block k (by omega) (fun hs => by have := hS k hs; omega)⟩
theorem Blk.turn {S : Nat → Prop} {w w' : World} {g : Nat} {t : TypeId} {cs : Array Value} (h : Blk w g t cs) (ht : Turn S w w') (hn : ¬ S g) : Blk w' g t cs := (ht.block g h.lt hn).trans h
theorem Blk.not_u8 {w : World} {g : Nat} {t : TypeId} {cs : Array Value} (h : Blk w g t cs) (ht : t ≠ 5) : ¬ IsU8 w g := by
  rintro ⟨cs', fr, h'⟩
  unfold Blk at h
  rw [h] at h'
  injection h' with h'
  injection h' with _ h2
  exact ht h2

/-- Block g is a writer of the bytes bs; all that it owns lies from block B on. -/
def Wtr (B : Nat) (w : World) (g : Nat) (bs : List UInt8) : Prop :=
  B ≤ g ∧ ∃ v, Blk w g 65 #[v] ∧ w.ownsRow B 5 1 v bs.length (bs.map fun u => .int .u8 (u.toNat : Int))
theorem Wtr.lt {B : Nat} {w : World} {g : Nat} {bs : List UInt8} (h : Wtr B w g bs) : g < w.heap.size := by obtain ⟨_, _, h, _⟩ := h; exact h.lt
theorem own_u8 {w : World} {B n : Nat} {v : Value} {xs : List Value} (h : w.ownsRow B 5 1 v n xs) {k : Nat} (hk : v.ownBlock = some k) : B ≤ k ∧ IsU8 w k := by
  refine ⟨(h.lt k hk).1, ?_⟩
  rcases h.2 with ⟨rfl, _⟩ | ⟨g, cap, cur, rfl, _, hh, _⟩
  · simp [Value.ownBlock] at hk
  · simp [Value.ownBlock] at hk
    subst hk
    exact ⟨_, _, hh⟩
theorem own_shape {w : World} {B n : Nat} {e : TypeId} {size : Nat} {v : Value} {xs : List Value} (h : w.ownsRow B e size v n xs) : ∃ A c, v = .slice A n c := by
  rcases h.2 with ⟨rfl, rfl⟩ | ⟨g, cap, cur, rfl, _⟩
  · exact ⟨_, _, rfl⟩
  · exact ⟨_, _, rfl⟩
theorem Wtr.kept {B : Nat} {w w' : World} {g : Nat} {bs : List UInt8} (h : Wtr B w g bs) (hg : w.grownBy w' none) : Wtr B w' g bs := by
  obtain ⟨hB, v, hb, ho⟩ := h
  exact ⟨hB, v, hb.kept hg, ho.kept hg (by cases hv : v.ownBlock <;> simp)⟩

theorem u8_info : (Tryd.prog.info? 5).map (fun i => (i.zero, i.size, i.bytes)) = some (some (.int .u8 0), 1, 1) := by kernel_rfl

set_option maxHeartbeats 400000 in
theorem newWriter_any (B : Nat) (w : World) (hB : B ≤ w.heap.size) :
    Calls Tryd.prog 9 #[] w fun e w' => ∃ g, e = .returned (.pointer (some ⟨g, 0, none⟩)) ∧ w.heap.size ≤ g ∧ w.grownBy w' none ∧ Wtr B w' g [] := by
  go_enter Tryd.func9, Tryd.ntmps9
  go_wp2
  go_ret
  exact ⟨w.heap.size, rfl, Nat.le_refl _, only_alloc (only_refl _ _) _, hB, .slice none 0 0, Blk.new w _ _, World.ownsRow_nil _ _ _ _⟩

theorem wbyte_none (b : Value) (w : World) :
    Calls Tryd.prog 34 #[.pointer none, b] w fun e w' => e = .returned (.tuple #[]) ∧ w = w' := by
  go_enter Tryd.func34, Tryd.ntmps34
  go_wp2
  go_end0
  exact ⟨rfl, rfl⟩
theorem wput_none (s : ByteArray) (w : World) :
    Calls Tryd.prog 10 #[.pointer none, .string s] w fun e w' => e = .returned (.tuple #[]) ∧ w = w' := by
  go_enter Tryd.func10, Tryd.ntmps10
  go_wp2
  go_end0
  exact ⟨rfl, rfl⟩
theorem wlen_none (w : World) :
    Calls Tryd.prog 27 #[.pointer none] w fun e w' => e = .returned (.int .i64 0) ∧ w = w' := by
  go_enter Tryd.func27, Tryd.ntmps27
  go_wp2
  go_ret
  exact ⟨rfl, rfl⟩
theorem wtext_none (w : World) :
    Calls Tryd.prog 14 #[.pointer none] w fun e w' => e = .returned (.string ⟨#[]⟩) ∧ w = w' := by
  go_enter Tryd.func14, Tryd.ntmps14
  go_wp2
  go_ret
  exact ⟨rfl, rfl⟩

/-- Behind an append the row is stored back into the writer's block. -/
theorem write_end {B g n m : Nat} {w w1 : World} {v v' : Value} {xs ys : List Value} {bs : List UInt8} (hB : B ≤ g) (hb : Blk w g 65 #[v]) (ho : w.ownsRow B 5 1 v n xs) (hg : w.grownBy w1 v.ownBlock)
    (ho1 : w1.ownsRow B 5 1 v' (n + m) ys) (hys : ys = bs.map fun u => .int .u8 (u.toNat : Int)) (hn : n + m = bs.length) (k : Nat) :
    Blk w1 g 65 #[v] ∧ Wtr B ((w1.drewN k).setCell ⟨g, 0, none⟩ v') g bs ∧ Turn (WS B w g) w ((w1.drewN k).setCell ⟨g, 0, none⟩ v') := by
  have hne : v.ownBlock ≠ some g := fun e => hb.not_u8 (by decide) (own_u8 ho e).2
  have hb1 : Blk w1 g 65 #[v] := hb.grown hg (fun e => hne e.symm)
  have hne1 : v'.ownBlock ≠ some g := fun e => hb1.not_u8 (by decide) (own_u8 ho1 e).2
  have hs : (w1.drewN k).grownBy ((w1.drewN k).setCell ⟨g, 0, none⟩ v') (some g) := only_setCell (only_refl _ _) rfl _
  refine ⟨hb1, ⟨hB, v', (hb1.drewN k).set_ 0 v', ?_⟩, ?_⟩
  · rw [← hys, ← hn]
    exact World.ownsRow.kept (w := w1.drewN k) ho1 hs (.inr hne1)
  · have h1 : Turn (WS B w g) w w1 := Turn.of_only hg (fun j e => .inr (own_u8 ho e))
    exact ⟨h1.os, h1.tape, h1.output, by simpa [World.setCell] using h1.size, fun i hi hn => (Below.heap_setCell (w1.drewN k) _ _ i (fun e => hn (.inl e))).trans (h1.block i hi hn)⟩

set_option maxRecDepth 100000 in
set_option maxHeartbeats 1000000 in
theorem wput_any {B g : Nat} {w : World} {bs : List UInt8} (h : Wtr B w g bs) (hB : B ≤ w.heap.size) (s : ByteArray) (hl : bs.length + s.size ≤ 1099511627776) :
    Calls Tryd.prog 10 #[.pointer (some ⟨g, 0, none⟩), .string s] w fun e w' => e = .returned (.tuple #[]) ∧ Wtr B w' g (bs ++ s.data.toList) ∧ Turn (WS B w g) w w' := by
  obtain ⟨hBg, v, hb, ho⟩ := h
  have c0 : w.cell? ⟨g, 0, none⟩ = some v := hb.cell 0
  obtain ⟨i0, hi, hz0, hz1, hz2⟩ := info_parts u8_info
  have hend := Lib.hid (fun (w1 : World) v' k hg ho1 => write_end (w1 := w1) (v' := v') (m := s.size) (ys := (bs.map fun u => Value.int .u8 (u.toNat : Int)) ++ Lib.strCells s) (bs := bs ++ s.data.toList) hBg hb ho hg ho1 (by rw [List.map_append]; rfl) (by rw [List.length_append, bytes_len]) k)
  have H3 : Hid (bs.length + s.size ≤ maxLen) := by unfold maxLen; show _ ≤ _; omega
  have H4 : Hid (bs.length + s.size ≤ 140737488355328) := by show _ ≤ _; omega
  clear hl
  go_enter Tryd.func10, Tryd.ntmps10
  go_wp2_with (at_builtin; go_must (refine Lib.wpList_append_own_string _ rfl _ _ 63 9 rfl B 5 i0 Tryd.underlying63 Tryd.underlying9 hi hz0 hz1 hz2 _ _ _ rfl ho s rfl H3.out H4.out hB ?_); intro v' w1 ho1 hg1 _; obtain ⟨A, c, hv⟩ := own_shape ho1; subst hv; have hk := (hend.out w1 _ 0 hg1 ho1).1; have k0 : w1.cell? ⟨g, 0, none⟩ = some v := hk.cell 0; have k1 := hk.frozen 0; clear hk)
  go_end0
  obtain ⟨_, e1, e2⟩ := hend.out w1 _ 0 hg1 ho1
  exact ⟨rfl, e1, e2⟩

set_option maxRecDepth 100000 in
set_option maxHeartbeats 1000000 in
theorem wbyte_any {B g : Nat} {w : World} {bs : List UInt8} (h : Wtr B w g bs) (hB : B ≤ w.heap.size) (u : UInt8) (hl : bs.length + 1 ≤ 1099511627776) :
    Calls Tryd.prog 34 #[.pointer (some ⟨g, 0, none⟩), .int .u8 (u.toNat : Int)] w fun e w' => e = .returned (.tuple #[]) ∧ Wtr B w' g (bs ++ [u]) ∧ Turn (WS B w g) w w' := by
  have hgl := h.lt
  have hW : Wtr B (w.alloc (.cells #[.int .u8 (u.toNat : Int)] 5)) g bs := h.kept (only_alloc (only_refl _ _) _)
  have h0 : w.grownBy (w.alloc (.cells #[.int .u8 (u.toNat : Int)] 5)) none := only_alloc (only_refl _ _) _
  have hT : ∀ w2, Turn (WS B (w.alloc (.cells #[.int .u8 (u.toNat : Int)] 5)) g) (w.alloc (.cells #[.int .u8 (u.toNat : Int)] 5)) w2 → Turn (WS B w g) w w2 := fun w2 ht =>
    ⟨ht.os.trans h0.os, ht.tape.trans h0.tape, ht.output.trans h0.output, Nat.le_trans h0.size ht.size, fun i hi hn => by
      have hi' : (w.alloc (.cells #[.int .u8 (u.toNat : Int)] 5)).heap[i]? = w.heap[i]? := h0.block i hi (fun e => by cases e)
      refine (ht.block i (Nat.lt_of_lt_of_le hi h0.size) (fun hs => hn ?_)).trans hi'
      rcases hs with rfl | ⟨h1, cs, fr, h2⟩
      · exact .inl rfl
      · exact .inr ⟨h1, cs, fr, hi'.symm.trans h2⟩⟩
  have hB' : B ≤ (w.alloc (.cells #[.int .u8 (u.toNat : Int)] 5)).heap.size := by simp; omega
  obtain ⟨hBg, v, hb0, _⟩ := h
  have c0 : w.cell? ⟨g, 0, none⟩ = some v := hb0.cell 0
  obtain ⟨_, v2, hb, ho⟩ := hW
  obtain rfl : v = v2 := by
    have h3 := (hb0.kept h0).symm.trans hb
    injection h3 with h3
    injection h3 with h3
    injection h3 with h3
    injection h3
  obtain ⟨i0, hi, hz0, hz1, hz2⟩ := info_parts u8_info
  have H3 : Hid (bs.length + 1 ≤ maxLen) := by unfold maxLen; show _ ≤ _; omega
  have H4 : Hid ((bs.length + 1) * 1 ≤ 140737488355328) := by show _ ≤ _; omega
  have hc1 : ∀ j x, [Value.int .u8 (u.toNat : Int)][j]? = some x → (w.alloc (.cells #[.int .u8 (u.toNat : Int)] 5)).cell? ((⟨w.heap.size, 0, none⟩ : Addr).add j) = some x := cell_one_new _ _ _
  clear hl
  have hend := Lib.hid (fun (w1 : World) v' k hg ho1 => write_end (w1 := w1) (v' := v') (m := 1) (ys := (bs.map fun u => Value.int .u8 (u.toNat : Int)) ++ [Value.int .u8 (u.toNat : Int)]) (bs := bs ++ [u]) hBg hb ho hg ho1 (by rw [List.map_append]; rfl) (by rw [List.length_append]; rfl) k)
  have HT := Lib.hid hT
  clear hT h0 hb0
  go_enter Tryd.func34, Tryd.ntmps34
  go_wp2_with (at_builtin; go_loud (refine wpList_append_own _ rfl _ _ 63 rfl B 5 i0 (.int .u8 0) 1 1 Tryd.underlying63 hi hz0 hz1 hz2 rfl (by decide) _ _ _ rfl ho ⟨w.heap.size, 0, none⟩ 1 1 [.int .u8 (u.toNat : Int)] rfl rfl hc1 (by simp [Value.oneCell']) H3.out H4.out hB' ?_); intro v' w1 ho1 hg1 _; obtain ⟨A, c, hv⟩ := own_shape ho1; subst hv; have hk := (hend.out w1 _ 0 hg1 ho1).1; have k0 : w1.cell? ⟨g, 0, none⟩ = some v := hk.cell 0; have k1 := hk.frozen 0; clear hk)
  go_end0
  obtain ⟨_, e1, e2⟩ := hend.out w1 _ 0 hg1 ho1
  exact ⟨rfl, e1, HT.out _ e2⟩

set_option maxHeartbeats 400000 in
theorem wlen_any {B g : Nat} {w : World} {bs : List UInt8} (h : Wtr B w g bs) :
    Calls Tryd.prog 27 #[.pointer (some ⟨g, 0, none⟩)] w fun e w' => e = .returned (.int .i64 (bs.length : Int)) ∧ w = w' := by
  obtain ⟨_, v, hb, ho⟩ := h
  obtain ⟨A, c, rfl⟩ := own_shape ho
  have c0 : w.cell? ⟨g, 0, none⟩ = some (.slice A bs.length c) := hb.cell 0
  clear hb ho
  go_enter Tryd.func27, Tryd.ntmps27
  go_wp2
  go_ret
  exact ⟨rfl, rfl⟩

theorem own_string {w : World} {B : Nat} {v : Value} {bs : List UInt8} (ho : w.ownsRow B 5 1 v bs.length (bs.map fun u => .int .u8 (u.toNat : Int))) :
    (convert 63 9 v).run Tryd.prog w = .ok (.string ⟨bs.toArray⟩) w := by
  rcases ho.2 with ⟨rfl, h0⟩ | ⟨g, cap, cur, rfl, _⟩
  · obtain rfl : bs = [] := List.eq_nil_of_length_eq_zero h0
    exact Lib.run_convert_nil_bytes w _ _ _ 0 Tryd.underlying63 Tryd.underlying5 Tryd.underlying9
  · have hc := ho.cells (g := g) rfl
    refine run_convert_bytes_back w _ _ _ ⟨g, 0, none⟩ cap bs Tryd.underlying63 Tryd.underlying5 Tryd.underlying9 fun j hj => ?_
    exact hc j _ (by simp [List.getElem?_eq_getElem hj])

set_option maxHeartbeats 400000 in
theorem wtext_any {B g : Nat} {w : World} {bs : List UInt8} (h : Wtr B w g bs) :
    Calls Tryd.prog 14 #[.pointer (some ⟨g, 0, none⟩)] w fun e w' => e = .returned (.string ⟨bs.toArray⟩) ∧ w = w' := by
  obtain ⟨_, v, hb, ho⟩ := h
  have hcv := own_string ho
  obtain ⟨A, c, rfl⟩ := own_shape ho
  have c0 : w.cell? ⟨g, 0, none⟩ = some (.slice A bs.length c) := hb.cell 0
  clear hb ho
  go_enter Tryd.func14, Tryd.ntmps14
  go_wp2
  go_ret
  exact ⟨rfl, rfl⟩
end Go.Proofs.YtmbdaenjeeklfaaDoor

/- Texts joined for the claim's sake: OctB, Spl. -/
import Derived.Test.YtohhojbeclbedaaGreatDoorZMPrtRow0
import Derived.Lib.Hide
namespace Go.Proofs.YtohhojbeclbedaaGreatDoor
open Go.RowKit

set_option maxRecDepth 100000 in
set_option maxHeartbeats 400000 in
theorem byte_catch (p : Addr) (old : Value) (fb : Addr) (older : List PanicEntry) (w : World) (hc : w.cell? p = some old) (hz : w.frozen? p = false) :
    CallsD Tryz.prog 194 #[.pointer (some p)] (.panicking ({ v := .iface 94 (.pointer (some fb)), recovered := false } :: older)) w fun e u' w' =>
      e = .returned (.tuple #[]) ∧ u' = .panicking ({ v := .iface 94 (.pointer (some fb)), recovered := true } :: older) ∧ w' = w.setCell p (.iface 94 (.pointer (some fb))) := by
  refine callsD_of_wpS Tryz.func194 rfl fun c₀ cs hu => ?_
  apply wpS_region
  simp [wpOpsS, go_sem, recoverD, hu, Tryz.ntmps194]
  refine (faultOf_some fb _).mono ?_
  rintro e w' ⟨rfl, rfl⟩
  simp [go_sem, hc, hz, bodyPostS, results, Tryz.results194]

set_option maxRecDepth 100000 in
set_option maxHeartbeats 400000 in
theorem byte_idle (p : Addr) (old : Value) (w : World) (hc : w.cell? p = some old) (hz : w.frozen? p = false) :
    CallsD Tryz.prog 194 #[.pointer (some p)] .returning w fun e u' w' => e = .returned (.tuple #[]) ∧ u' = .returning ∧ w' = w.setCell p .nilIface := by
  refine callsD_of_wpS Tryz.func194 rfl fun c₀ cs hu => ?_
  apply wpS_region
  simp [wpOpsS, go_sem, recoverD, hu, Tryz.ntmps194]
  refine (faultOf_nil _).mono ?_
  rintro e w' ⟨rfl, rfl⟩
  simp [go_sem, hc, hz, bodyPostS, results, Tryz.results194]
  cases c₀
  simp_all

set_option maxRecDepth 100000 in
set_option maxHeartbeats 400000 in
theorem take_idle (p : Addr) (old : Value) (w : World) (hc : w.cell? p = some old) (hz : w.frozen? p = false) :
    CallsD Tryz.prog 56 #[.pointer (some p)] .returning w fun e u' w' => e = .returned (.tuple #[]) ∧ u' = .returning ∧ w' = w.setCell p .nilIface := by
  refine callsD_of_wpS Tryz.func56 rfl fun c₀ cs hu => ?_
  apply wpS_region
  simp [wpOpsS, go_sem, recoverD, hu, Tryz.ntmps56]
  refine (faultOf_nil _).mono ?_
  rintro e w' ⟨rfl, rfl⟩
  simp [go_sem, hc, hz, bodyPostS, results, Tryz.results56]
  cases c₀
  simp_all

set_option maxRecDepth 100000 in
set_option maxHeartbeats 400000 in
theorem part_catch (p : Addr) (old : Value) (fb : Addr) (older : List PanicEntry) (w : World) (hc : w.cell? p = some old) (hz : w.frozen? p = false) :
    CallsD Tryz.prog 205 #[.pointer (some p)] (.panicking ({ v := .iface 94 (.pointer (some fb)), recovered := false } :: older)) w fun e u' w' =>
      e = .returned (.tuple #[]) ∧ u' = .panicking ({ v := .iface 94 (.pointer (some fb)), recovered := true } :: older) ∧ w' = w.setCell p (.iface 94 (.pointer (some fb))) := by
  refine callsD_of_wpS Tryz.func205 rfl fun c₀ cs hu => ?_
  apply wpS_region
  simp [wpOpsS, go_sem, recoverD, hu, Tryz.ntmps205]
  refine (faultOf_some fb _).mono ?_
  rintro e w' ⟨rfl, rfl⟩
  simp [go_sem, hc, hz, bodyPostS, results, Tryz.results205]

set_option maxRecDepth 100000 in
set_option maxHeartbeats 400000 in
theorem part_idle (p : Addr) (old : Value) (w : World) (hc : w.cell? p = some old) (hz : w.frozen? p = false) :
    CallsD Tryz.prog 205 #[.pointer (some p)] .returning w fun e u' w' => e = .returned (.tuple #[]) ∧ u' = .returning ∧ w' = w.setCell p .nilIface := by
  refine callsD_of_wpS Tryz.func205 rfl fun c₀ cs hu => ?_
  apply wpS_region
  simp [wpOpsS, go_sem, recoverD, hu, Tryz.ntmps205]
  refine (faultOf_nil _).mono ?_
  rintro e w' ⟨rfl, rfl⟩
  simp [go_sem, hc, hz, bodyPostS, results, Tryz.results205]
  cases c₀
  simp_all

set_option maxRecDepth 100000 in
set_option maxHeartbeats 400000 in
theorem end_catch (p : Addr) (old : Value) (fb : Addr) (older : List PanicEntry) (w : World) (hc : w.cell? p = some old) (hz : w.frozen? p = false) :
    CallsD Tryz.prog 121 #[.pointer (some p)] (.panicking ({ v := .iface 94 (.pointer (some fb)), recovered := false } :: older)) w fun e u' w' =>
      e = .returned (.tuple #[]) ∧ u' = .panicking ({ v := .iface 94 (.pointer (some fb)), recovered := true } :: older) ∧ w' = w.setCell p (.iface 94 (.pointer (some fb))) := by
  refine callsD_of_wpS Tryz.func121 rfl fun c₀ cs hu => ?_
  apply wpS_region
  simp [wpOpsS, go_sem, recoverD, hu, Tryz.ntmps121]
  refine (faultOf_some fb _).mono ?_
  rintro e w' ⟨rfl, rfl⟩
  simp [go_sem, hc, hz, bodyPostS, results, Tryz.results121]

set_option maxRecDepth 100000 in
set_option maxHeartbeats 400000 in
theorem end_idle (p : Addr) (old : Value) (w : World) (hc : w.cell? p = some old) (hz : w.frozen? p = false) :
    CallsD Tryz.prog 121 #[.pointer (some p)] .returning w fun e u' w' => e = .returned (.tuple #[]) ∧ u' = .returning ∧ w' = w.setCell p .nilIface := by
  refine callsD_of_wpS Tryz.func121 rfl fun c₀ cs hu => ?_
  apply wpS_region
  simp [wpOpsS, go_sem, recoverD, hu, Tryz.ntmps121]
  refine (faultOf_nil _).mono ?_
  rintro e w' ⟨rfl, rfl⟩
  simp [go_sem, hc, hz, bodyPostS, results, Tryz.results121]
  cases c₀
  simp_all

/-- What next leaves where there are n bytes: they are told, and the place is behind them. -/
def NextOk (g : Nat) (bs : List UInt8) (at_ bg n : Nat) (w : World) (e : Ending) (w' : World) : Prop :=
  ∃ bb off, e = .returned (.slice (some ⟨bb, off, none⟩) n n) ∧ w.grownBy w' (some g) ∧ Rdr w' g bs (at_ + n) bg ∧ Byts w' bb off ((bs.drop at_).take n)

theorem next_close {w : World} {g bb off cap at_ bg n : Nat} {bs : List UInt8} (hb : Blk w g 111 #[.slice (some ⟨bb, off, none⟩) bs.length cap, .int .i64 (at_ : Int), .int .i64 (bg : Int)]) (hy : Byts w bb off bs)
    (h1 : bs.length ≤ cap) (h3 : bg + bs.length ≤ 4611686018427387904) (hn : at_ + n ≤ bs.length) (k off' : Nat) (ho : off' = off + at_ ∨ n = 0) :
    NextOk g bs at_ bg n w (.returned (.slice (some ⟨bb, off', none⟩) n n)) ((w.drewN k).setCell ⟨g, 1, none⟩ (.int .i64 ((at_ : Int) + (n : Int)))) := by
  have hg : w.grownBy ((w.drewN k).setCell ⟨g, 1, none⟩ (.int .i64 ((at_ : Int) + (n : Int)))) (some g) := only_setCell (only_drewN (only_refl _ _) k) rfl _
  have hne : bb ≠ g := hy.ne_ hb (by decide)
  have hy' := hy.grown hg (fun e => hne (by injection e))
  refine ⟨bb, off', rfl, hg, ⟨bb, off, cap, ?_, hy', h1, hn, h3⟩, ?_⟩
  · have := (hb.drewN k).set_ 1 (.int .i64 ((at_ : Int) + (n : Int)))
    rw [Int.natCast_add]
    exact this
  · rcases ho with rfl | rfl
    · exact hy'.part at_ n
    · rw [List.take_zero]; exact hy'.nil

set_option maxHeartbeats 400000 in
theorem next_ok {w : World} {g : Nat} {bs : List UInt8} {at_ bg : Nat} (h : Rdr w g bs at_ bg) (n : Nat) (hn : at_ + n ≤ bs.length) :
    Calls Tryz.prog 58 #[.pointer (some ⟨g, 0, none⟩), .int .i64 (n : Int)] w (NextOk g bs at_ bg n w) := by
  have hr := h
  have hl := h.bound
  obtain ⟨bb, off, cap, hb, hy, h1, h2, h3⟩ := h
  have hend := Lib.hid (fun k off' ho => next_close hb hy h1 h3 hn k off' ho)
  have c0 : ∀ k, (w.drewN k).cell? ⟨g, 0, none⟩ = some (.slice (some ⟨bb, off, none⟩) bs.length cap) := fun k => (hb.drewN k).cell 0
  have c1 : ∀ k, (w.drewN k).cell? ⟨g, 1, none⟩ = some (.int .i64 (at_ : Int)) := fun k => (hb.drewN k).cell 1
  have f1 : ∀ k, (w.drewN k).frozen? ⟨g, 1, none⟩ = false := fun k => (hb.drewN k).frozen 1
  have d1 : decide ((n : Int) < 0) = false := by simp
  have d2 : decide ((bs.length : Int) - (at_ : Int) < (n : Int)) = false := by simp; omega
  have hw : IntKind.i64.wrap ((at_ : Int) + (n : Int)) = (at_ : Int) + (n : Int) := IntWalk.i64_in _ ⟨by omega, by omega⟩
  go_enter Tryz.func58, Tryz.ntmps58
  go_wp2_with (first
    | (go_at_call 122; ((with_reducible refine (refuse_not _ _ _).mono ?_); rintro e w' ⟨rfl, rfl⟩))
    | (go_at_call 18; ((with_reducible refine (left_rdr hr).mono ?_); rintro e w' ⟨rfl, k, rfl⟩)))
  go_quiet (fail)
  go_wp2
  all_goals (go_ret; first | exact hend.out _ _ (Or.inl rfl) | ((obtain rfl : n = 0 := (by omega)); exact hend.out _ _ (Or.inr rfl)))

theorem next_short {w : World} {g : Nat} {bs : List UInt8} {at_ bg : Nat} (h : Rdr w g bs at_ bg) (n : Int) (hn : ((bs.length : Int) - (at_ : Int)) < n) :
    Calls Tryz.prog 58 #[.pointer (some ⟨g, 0, none⟩), .int .i64 n] w (GaveUp 3 ((bg : Int) + (at_ : Int)) w) := by
  have hl := h.le
  have d1 : decide (n < 0) = false := by simp; omega
  have d2 : decide ((bs.length : Int) - (at_ : Int) < n) = true := by simpa using hn
  clear hn
  have hR : ∀ k, Rdr (w.drewN k) g bs at_ bg := fun k => h.kept (only_drewN (only_refl _ _) k)
  go_enter Tryz.func58, Tryz.ntmps58
  go_wp2_with (first
    | (go_at_call 122; ((with_reducible refine (refuse_not _ _ _).mono ?_); rintro e w' ⟨rfl, rfl⟩))
    | (go_at_call 18; ((with_reducible refine (left_rdr h).mono ?_); rintro e w' ⟨rfl, k, rfl⟩))
    | (go_at_call 122; ((with_reducible refine (refuse_rdr (hR k) _).mono ?_); rintro e w' ⟨fb, rfl, h1, h2, h3⟩)))
  exact ⟨rfl, fb, rfl, h1, h2, only_trans (only_drewN (only_refl _ _) k) h3⟩
end Go.Proofs.YtohhojbeclbedaaGreatDoor

namespace Go.Proofs.YtohhojbeclbedaaGreatDoor

def afterM (P : Program) (ops : Array Oper) (Q : Exit → Act → World → Prop) (l : List Oper) : Exit → Act → World → Prop
  | .normal, a, w => wpList P ops Q l a w
  | e, a, w => Q e a w
theorem upon_afterM {P : Program} {ops : Array Oper} {Q : Exit → Act → World → Prop} {l : List Oper} {o : Oper} {a : Act} {next : Act → World → Prop} (r : Result Next) (h : o.upon P a next (afterM P ops Q l) r) : o.upon P a next Q r := by
  cases r with
  | ok n w => cases n <;> exact h
  | halt s w => cases s <;> exact h
theorem wpList_appM {P : Program} {ops : Array Oper} {Q : Exit → Act → World → Prop} {l2 : List Oper} : ∀ (l1 : List Oper) {a : Act} {w : World}, wpList P ops (afterM P ops Q l2) l1 a w → wpList P ops Q (l1 ++ l2) a w
  | [], _, _, h => h
  | o :: l1, a, w, h => by
    rw [List.cons_append]
    unfold wpList at h ⊢
    split at h
    · rename_i hw
      rw [if_pos hw]
      refine h.imp (fun h => ?_) (fun h => h)
      exact Oper.wp_mono (fun a w h => wpList_appM l1 h) (upon_afterM _ h)
    · rename_i hw
      rw [if_neg hw]
      exact wpList_appM l1 h
/-- The first n operations by themselves, and then the others. -/
theorem wpList_splitM {P : Program} {ops : Array Oper} {Q : Exit → Act → World → Prop} {l : List Oper} {a : Act} {w : World} (n : Nat) (l1 l2 : List Oper) (h1 : l.take n = l1) (h2 : l.drop n = l2) (h : ∀ Q', (∀ a w, wpList P ops Q l2 a w → Q' Exit.normal a w) → wpList P ops Q' l1 a w) : wpList P ops Q l a w := by
  have := wpList_appM (P := P) (ops := ops) (Q := Q) (l2 := l2) l1 (h (afterM P ops Q l2) fun a w h => h)
  rwa [← h1, ← h2, List.take_append_drop] at this
end Go.Proofs.YtohhojbeclbedaaGreatDoor

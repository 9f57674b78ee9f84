/- blocks: what ops are: is, Closes, Talks. -/
import Derived.Test.YtgdoklbcmgkllaaBLaw
import Derived.Test.YtgdoklbcmgkllaaBOwn
import Derived.Deep.CutBlock
import Derived.Deep.DeepCutAuto
import Derived.Deep.QuietTactic
import Derived.BigQuiet
import Derived.Lib.Hide
import Derived.Laws.Tables
import Derived.Deep.WholeRow
namespace Go.Proofs.Ytgdoklbcmgkllaa
open Go.RowKit

/-- An op's traits, a bit each. -/
def traitN (op : Nat) : Int := if op == 11 then 5 else if op == 12 then 4 else if op == 14 || op == 15 || op == 16 || op == 17 || op == 18 then 2 else if op == 19 then 15 else if op == 24 then 1 else 0
def trA : Array Value := #[.int .u8 0, .int .u8 0, .int .u8 0, .int .u8 0, .int .u8 0, .int .u8 0, .int .u8 0, .int .u8 0, .int .u8 0, .int .u8 0, .int .u8 0, .int .u8 5, .int .u8 4, .int .u8 0, .int .u8 2, .int .u8 2, .int .u8 2, .int .u8 2, .int .u8 2, .int .u8 15, .int .u8 0, .int .u8 0, .int .u8 0, .int .u8 0, .int .u8 1]
theorem build_tr (w : World) : (Instr.build 63 #[(11, .int .u8 5), (12, .int .u8 4), (14, .int .u8 2), (15, .int .u8 2), (16, .int .u8 2), (17, .int .u8 2), (18, .int .u8 2), (19, .int .u8 15), (24, .int .u8 1)]).run Try.prog w = .ok (.agg trA) w := run_build w 63 _ _ (by kernel_rfl)
theorem wpList_build_tr {ops : Array Oper} {rest : List Oper} {o : Oper} {a : Act} {W : World} {Q : Exit → Act → World → Prop} (hgd : o.guard = none)
    (ho : o.op = .build 63 #[(11, .const (.int .u8 5)), (12, .const (.int .u8 4)), (14, .const (.int .u8 2)), (15, .const (.int .u8 2)), (16, .const (.int .u8 2)), (17, .const (.int .u8 2)), (18, .const (.int .u8 2)), (19, .const (.int .u8 15)), (24, .const (.int .u8 1))])
    (h : wpList Try.prog ops Q rest (a.put o.dst (.agg trA)) W) : wpList Try.prog ops Q (o :: rest) a W := by
  refine wpList_plain hgd fun K hK => ?_
  unfold Oper.wp execOp
  simp only [ho, List.map_toArray, List.map_cons, List.map_nil, Act.eval, build_tr, Sem.run_bind, Result.andThen_ok]
  exact hK _ _ h
theorem tr_size : trA.size = 25 := rfl
theorem tr_ne : ¬ trA = #[] := fun h => by have := congrArg Array.size h; rw [tr_size] at this; cases this
def trOk (j : Nat) : Bool := match trA[j]? with
  | some (.int .u8 m) => m == traitN j
  | _ => false
theorem tr_ok : (List.range 25).all trOk = true := by kernel_rfl
theorem tr_at {j : Nat} (h : j < 25) : trA[j]? = some (.int .u8 (traitN j)) := by
  have := List.all_eq_true.1 tr_ok j (List.mem_range.2 h)
  unfold trOk at this
  split at this
  · rename_i m hm
    rw [hm, eq_of_beq this]
  · cases this
/-- Has an op one of some traits? -/
def isB (op one : Int) : Bool := decide (0 ≤ op ∧ op < 25) && (bits .and .u8 (traitN op.toNat) one != 0)
theorem is_same {f : Int → Bool} {one : Int} (hi : (List.range 25).all (fun (j : Nat) => (bits .and .u8 (traitN j) one != 0) == f j) = true) (h0 : ∀ op : Int, op < 0 → f op = false) (h1 : ∀ op : Int, 25 ≤ op → f op = false) (op : Int) : isB op one = f op := by
  unfold isB
  by_cases h : 0 ≤ op ∧ op < 25
  · have := List.all_eq_true.1 hi op.toNat (List.mem_range.2 (by omega))
    rw [decide_eq_true h, Bool.true_and, eq_of_beq this]
    congr 1
    omega
  · rw [decide_eq_false h, Bool.false_and]
    rcases Int.lt_or_le op 0 with h2 | h2
    · exact (h0 op h2).symm
    · exact (h1 op (by omega)).symm
theorem is_closes (op : Int) : isB op 1 = closeB op := is_same (by decide) (fun op h => by unfold closeB; simp; omega) (fun op h => by unfold closeB; simp; omega) op
theorem is_talks (op : Int) : isB op 2 = talkB op := is_same (by decide) (fun op h => by unfold talkB; simp; omega) (fun op h => by unfold talkB; simp; omega) op
theorem is_aims (op : Int) : isB op 4 = hasT op := is_same (by decide) (fun op h => by unfold hasT; simp; omega) (fun op h => by unfold hasT; simp; omega) op
theorem is_forks (op : Int) : isB op 8 = (op == 19) := is_same (f := fun op => op == 19) (by decide) (fun op h => by simp; omega) (fun op h => by simp; omega) op
theorem is_cuts (op : Int) : isB op 5 = (closeB op || op == 12) := is_same (f := fun op => closeB op || op == 12) (by decide) (fun op h => by unfold closeB; simp; omega) (fun op h => by unfold closeB; simp; omega) op
set_option maxRecDepth 100000 in
set_option maxHeartbeats 2000000 in
theorem is_any (op one : Int) (w : World) : Calls Try.prog 31 #[.int .i64 op, .int .u8 one] w fun e w' => e = .returned (.bool (isB op one)) ∧ w.grownBy w' none := by
  have hsz := tr_size
  have hne := tr_ne
  have hst : ∀ c : Array Value, c.size = 25 → (storeCells ⟨w.heap.size, 0, none⟩ trA.toList 0).run Try.prog (w.alloc (.cells c 63)) = .ok () (w.alloc (.cells trA 63)) := fun c hc => run_storeCells_new w _ c trA (by kernel_rfl) hc (by kernel_rfl)
  go_enter Try.func31, Try.ntmps31
  go_upto_region 2 with (refine wpList_build_tr rfl rfl ?_)
  have hb : Blk (w.alloc (.cells trA 63)) w.heap.size 63 trA := Blk.new _ _ _
  have HG := Lib.hid (only_alloc (only_refl w none) (.cells trA 63))
  clear hsz hne hst
  generalize World.alloc w _ = w1 at *
  generalize w.heap.size = g at *
  by_cases h1 : 0 ≤ op ∧ op < 25
  · have HI : Hid (isB op one = (bits .and .u8 (traitN op.toNat) one != 0)) := Lib.hid (by unfold isB; rw [decide_eq_true h1, Bool.true_and])
    obtain ⟨h1, h2⟩ := h1
    obtain ⟨j, rfl⟩ : ∃ j : Nat, op = (j : Int) := ⟨op.toNat, by omega⟩
    rw [Int.toNat_natCast] at HI
    have c0 : w1.cell? ⟨g, j, none⟩ = some (.int .u8 (traitN j)) := (hb.cell j).trans (tr_at (by omega))
    generalize hm : traitN j = m at *
    clear hb hm
    go_wp2_with fail
    go_ret
    exact ⟨by rw [HI.out]; rfl, HG.out⟩
  · have HI : Hid (isB op one = false) := Lib.hid (by unfold isB; rw [decide_eq_false h1, Bool.false_and])
    clear hb
    rcases Int.lt_or_le op 0 with h2 | h2
    · have h3 : decide (0 ≤ op) = false := decide_eq_false (by omega)
      go_wp2_with fail
      go_ret
      exact ⟨by rw [HI.out]; rfl, HG.out⟩
    · have h3 : ¬ op < 25 := by omega
      go_wp2_with fail
      go_ret
      exact ⟨by rw [HI.out]; rfl, HG.out⟩
theorem blCloses_any (op : Int) (w : World) : Calls Try.prog 33 #[.int .i64 op] w fun e w' => e = .returned (.bool (closeB op)) ∧ w.grownBy w' none := by
  have h := is_any op 1 w
  rw [is_closes] at h
  go_enter Try.func33, Try.ntmps33
  go_wp2_with fail
  refine h.mono ?_
  rintro e w1 ⟨rfl, hg⟩
  go_wp2_with fail
  go_ret
  exact ⟨rfl, hg⟩
theorem blTalks_any (op : Int) (w : World) : Calls Try.prog 17 #[.int .i64 op] w fun e w' => e = .returned (.bool (talkB op)) ∧ w.grownBy w' none := by
  have h := is_any op 2 w
  rw [is_talks] at h
  go_enter Try.func17, Try.ntmps17
  go_wp2_with fail
  refine h.mono ?_
  rintro e w1 ⟨rfl, hg⟩
  go_wp2_with fail
  go_ret
  exact ⟨rfl, hg⟩
theorem blPlace_any (A : Option Addr) (n c : Nat) (i : Int) (w : World) (hn : n ≤ 9223372036854775807) : Calls Try.prog 20 #[.slice A n c, .int .i64 i] w fun e w' => e = .returned (.bool (decide (0 ≤ i ∧ i < (n : Int)))) ∧ w.grownBy w' none := by
  go_enter Try.func20, Try.ntmps20
  have hnI : (n : Int) ≤ 9223372036854775807 := by omega
  rcases Int.lt_or_le i 0 with h2 | h2
  · have h3 : decide (0 ≤ i) = false := decide_eq_false (by omega)
    go_wp2_with fail
    go_ret
    exact ⟨by rw [decide_eq_false (by omega)]; rfl, only_refl _ _⟩
  · by_cases h3 : i < (n : Int)
    · have h4 : 0 ≤ i := h2
      go_wp2_with fail
      go_ret
      exact ⟨by rw [decide_eq_true (by omega)]; rfl, only_refl _ _⟩
    · have h4 : (n : Int) ≤ i := by omega
      go_wp2_with fail
      go_ret
      exact ⟨by rw [decide_eq_false (by omega)]; rfl, only_refl _ _⟩
theorem blGoes_fn (A : Option Addr) (n c : Nat) (i : Int) (w : World) : Calls Try.prog 19 #[.slice A n c, .int .i64 i] w fun e w' => e = .returned (.func (.func 32) #[] #[.pointer (some ⟨w.heap.size, 0, none⟩), .pointer (some ⟨w.heap.size + 1, 0, none⟩)]) ∧ w' = (w.alloc (.cells #[.slice A n c] 22)).alloc (.cells #[.int .i64 i] 3) := by
  have hmf : ∀ (fn : Fn) (first cap : Array Value) (w : World), (Instr.makeFunc fn first cap).run Try.prog w = .ok (.func fn first cap) w := fun _ _ _ _ => rfl
  go_enter Try.func19, Try.ntmps19
  go_wp2
  go_ret
  exact ⟨rfl, rfl⟩
end Go.Proofs.Ytgdoklbcmgkllaa

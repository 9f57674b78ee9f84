/- errors.Is of a *api.Fault and its own number: true, and nothing in memory turns. -/
import Derived.Test.YtjjfofifooailaaDoorProg
import Derived.WalkKit
import Derived.WalkSpells
import Derived.WalkLawsBesides
import Derived.LaidEql
import Derived.Stop.Asserts
import Derived.RowKitTokens
namespace Go.Proofs.YtjjfofifooailaaDoor
open Go.RowKit Go.Extern.Stop Go.Stop Go.Extern

theorem run_eqlIn_iface_int {P : Program} (w : World) (d : Nat) {ti tn : TypeId} {ms : Array (String × TypeId)} {i : TypeInfo} {k : IntKind} (a b : Int)
    (hi : P.underlying ti = some (.interface ms)) (hn : P.underlying tn = some (.int k)) (hinfo : P.info? tn = some i) (hcomp : i.comparable = true) :
    (Op.equalIn (d + 2) ti (.iface tn (.int k a)) (.iface tn (.int k b))).run P w = .ok (a == b) w := by
  simp [Op.equalIn, run_underlying hi, run_underlying hn, typeInfo, hinfo, hcomp]
theorem run_eql_iface_int {P : Program} (w : World) {ti tn : TypeId} {ms : Array (String × TypeId)} {i : TypeInfo} {k : IntKind} (a b : Int)
    (hi : P.underlying ti = some (.interface ms)) (hn : P.underlying tn = some (.int k)) (hinfo : P.info? tn = some i) (hcomp : i.comparable = true) :
    (binOp .eql ti (.iface tn (.int k a)) (.iface tn (.int k b))).run P w = .ok (.bool (a == b)) w := by
  simp only [binOp]
  simp [Op.equal, Op.maxDepth, run_eqlIn_iface_int w 9998 a b hi hn hinfo hcomp]

def cmpFn : Array Value → Sem Value := ReflectliteType.method fun t => do Rtype.noPackHeld "Comparable" t; pure (.bool (← typeInfo t).comparable)
theorem errno_comparable (w : World) : (cmpFn #[.agg #[.pointer (some ⟨1, 26, none⟩)]]).run Tryd.prog w = .ok (.bool true) w := by kernel_rfl
theorem errno_info : (Tryd.prog.info? 26).map (·.comparable) = some true := by kernel_rfl
theorem typeOfErrno (v : Value) (w : World) : (ReflectliteType.typeOf #[.iface 26 v]).run Tryd.prog w = .ok (.iface 127 (.agg #[.pointer (some ⟨1, 26, none⟩)])) w := by kernel_rfl
theorem methodComparable_ (h : Value) (w : World) : (Go.method 280 127 (.agg #[h]) "Comparable").run Tryd.prog w = .ok (107, .agg #[h]) w := by kernel_rfl
theorem fault_no_is (v : Value) (xT : TypeId) (w : World) : (Instr.typeAssert (.iface 74 v) xT 138 true).run Tryd.prog w = .ok (.tuple #[.nilIface, .bool false]) w := run_typeAssert_lacksB Tryd.underlying138 (by kernel_rfl) (by kernel_rfl) v xT w
theorem fault_unwraps (v : Value) (xT : TypeId) (w : World) : (Instr.typeAssert (.iface 74 v) xT 134 true).run Tryd.prog w = .ok (.tuple #[.iface 74 v, .bool true]) w := run_typeAssert_hasB Tryd.underlying134 (by kernel_rfl) v xT w
theorem fault_unwrap_ahead (a : Addr) (w : World) : (nilAhead 280 74 (.pointer (some a)) "Unwrap").run Tryd.prog w = .ok (some false) w := by kernel_rfl
theorem fault_unwrap_method (a : Addr) (w : World) : (Go.method 280 74 (.pointer (some a)) "Unwrap").run Tryd.prog w = .ok (101, .pointer (some a)) w := by kernel_rfl

set_option maxHeartbeats 400000 in
theorem unwrap_any (e : Nat) (c : Int) (w : World) (hc : w.cell? ⟨e, 0, none⟩ = some (.int .i64 c)) :
    Calls Tryd.prog 101 #[.pointer (some ⟨e, 0, none⟩)] w fun ev w' => ev = .returned (.iface 26 (.int .i64 c)) ∧ w = w' := by
  go_enter Tryd.func101, Tryd.ntmps101
  go_wp2
  go_ret
  exact ⟨rfl, rfl⟩

set_option maxHeartbeats 1000000 in
theorem is_in_hit (e : Nat) (c : Int) (w : World) (hc : w.cell? ⟨e, 0, none⟩ = some (.int .i64 c)) :
    Calls Tryd.prog 56 #[.iface 74 (.pointer (some ⟨e, 0, none⟩)), .iface 26 (.int .i64 c), .bool true] w fun ev w' => ev = .returned (.bool true) ∧ w = w' := by
  have eq1 := fun (w : World) => run_eql_iface_types (P := Tryd.prog) 74 26 (.pointer (some ⟨e, 0, none⟩)) (.int .i64 c) Tryd.underlying39 (by decide) w
  have eq2 : ∀ (w : World), (binOp .eql 39 (.iface 26 (.int .i64 c)) (.iface 26 (.int .i64 c))).run Tryd.prog w = .ok (.bool true) w := fun w => by
    obtain ⟨i, hi, hcmp⟩ := Option.map_eq_some_iff.1 errno_info
    rw [run_eql_iface_int w c c Tryd.underlying39 Tryd.underlying26 hi hcmp]
    simp
  have hI := fault_no_is
  have hU := fault_unwraps
  have hA := fault_unwrap_ahead
  have hM := fault_unwrap_method
  go_enter Tryd.func56, Tryd.ntmps56
  go_wp2_with fail
  refine wp_loop_rounds 2 ?_
  rw [rounds_succ]
  go_wp2_with (first | (go_at_call 101; refine (unwrap_any _ _ _ hc).mono ?_; rintro e w' ⟨rfl, rfl⟩))
  rw [rounds_succ]
  go_wp2
  go_ret
  exact ⟨rfl, rfl⟩

set_option maxHeartbeats 1000000 in
theorem is_hit (e : Nat) (c : Int) (w : World) (hc : w.cell? ⟨e, 0, none⟩ = some (.int .i64 c)) :
    Calls Tryd.prog 38 #[.iface 74 (.pointer (some ⟨e, 0, none⟩)), .iface 26 (.int .i64 c)] w fun ev w' => ev = .returned (.bool true) ∧ w = w' := by
  have hO := @run_callFunc_extern Tryd.prog 55 _ ReflectliteType.typeOf Tryd.func55 (by kernel_rfl) (by kernel_rfl) (by kernel_rfl) (by kernel_rfl)
  have hC := @run_callFunc_extern Tryd.prog 107 _ cmpFn Tryd.func107 (by kernel_rfl) (by kernel_rfl) (by kernel_rfl) (by kernel_rfl)
  have tO := typeOfErrno
  have cO := errno_comparable
  have mC := methodComparable_
  have H := is_in_hit e c w hc
  go_enter Tryd.func38, Tryd.ntmps38
  go_wp2_with (first | (go_at_call 56; refine H.mono ?_; rintro e w' ⟨rfl, rfl⟩))
  go_ret
  exact ⟨rfl, rfl⟩
end Go.Proofs.YtjjfofifooailaaDoor

/- errors.Is of a *api.Fault and its own number: true, and nothing in memory turns. -/
import Derived.Test.YtmbdaenjeeklfaaDoorProg
import Derived.WalkKit
import Derived.WalkSpells
import Derived.WalkLawsBesides
import Derived.LaidEql
import Derived.Stop.Asserts
import Derived.RowKitTokens
namespace Go.Proofs.YtmbdaenjeeklfaaDoor
open Go.RowKit Go.Extern.Stop Go.Stop Go.Extern

theorem run_eqlIn_iface_int {P : Program} (w : World) (d : Nat) {ti tn : TypeId} {ms : Array (String × TypeId)} {i : TypeInfo} {k : IntKind} (a b : Int)
    (hi : P.underlying ti = some (.interface ms)) (hn : P.underlying tn = some (.int k)) (hinfo : P.info? tn = some i) (hcomp : i.comparable = true) :
    (Op.equalIn (d + 2) ti (.iface tn (.int k a)) (.iface tn (.int k b))).run P w = .ok (a == b) w := by
  simp [Op.equalIn, run_underlying hi, run_underlying hn, typeInfo, hinfo, hcomp]
theorem run_eql_iface_int {P : Program} (w : World) {ti tn : TypeId} {ms : Array (String × TypeId)} {i : TypeInfo} {k : IntKind} (a b : Int)
    (hi : P.underlying ti = some (.interface ms)) (hn : P.underlying tn = some (.int k)) (hinfo : P.info? tn = some i) (hcomp : i.comparable = true) :
    (binOp .eql ti (.iface tn (.int k a)) (.iface tn (.int k b))).run P w = .ok (.bool (a == b)) w := by
  simp only [binOp]
  simp [Op.equal, Op.maxDepth, run_eqlIn_iface_int w 9998 a b hi hn hinfo hcomp]

def cmpFn : Array Value → Sem Value := ReflectliteType.method fun t => do Rtype.noPackHeld "Comparable" t; pure (.bool (← typeInfo t).comparable)
theorem errno_comparable (w : World) : (cmpFn #[.agg #[.pointer (some ⟨1, 29, none⟩)]]).run Tryd.prog w = .ok (.bool true) w := by kernel_rfl
theorem errno_info : (Tryd.prog.info? 29).map (·.comparable) = some true := by kernel_rfl
theorem typeOfErrno (v : Value) (w : World) : (ReflectliteType.typeOf #[.iface 29 v]).run Tryd.prog w = .ok (.iface 145 (.agg #[.pointer (some ⟨1, 29, none⟩)])) w := by kernel_rfl
theorem methodComparable_ (h : Value) (w : World) : (Go.method 296 145 (.agg #[h]) "Comparable").run Tryd.prog w = .ok (117, .agg #[h]) w := by kernel_rfl
theorem fault_no_is (v : Value) (xT : TypeId) (w : World) : (Instr.typeAssert (.iface 91 v) xT 156 true).run Tryd.prog w = .ok (.tuple #[.nilIface, .bool false]) w := run_typeAssert_lacksB Tryd.underlying156 (by kernel_rfl) (by kernel_rfl) v xT w
theorem fault_unwraps (v : Value) (xT : TypeId) (w : World) : (Instr.typeAssert (.iface 91 v) xT 152 true).run Tryd.prog w = .ok (.tuple #[.iface 91 v, .bool true]) w := run_typeAssert_hasB Tryd.underlying152 (by kernel_rfl) v xT w
theorem fault_unwrap_ahead (a : Addr) (w : World) : (nilAhead 296 91 (.pointer (some a)) "Unwrap").run Tryd.prog w = .ok (some false) w := by kernel_rfl
theorem fault_unwrap_method (a : Addr) (w : World) : (Go.method 296 91 (.pointer (some a)) "Unwrap").run Tryd.prog w = .ok (111, .pointer (some a)) w := by kernel_rfl

set_option maxHeartbeats 400000 in
theorem unwrap_any (e : Nat) (c : Int) (w : World) (hc : w.cell? ⟨e, 0, none⟩ = some (.int .i64 c)) :
    Calls Tryd.prog 111 #[.pointer (some ⟨e, 0, none⟩)] w fun ev w' => ev = .returned (.iface 29 (.int .i64 c)) ∧ w = w' := by
  go_enter Tryd.func111, Tryd.ntmps111
  go_wp2
  go_ret
  exact ⟨rfl, rfl⟩

set_option maxHeartbeats 1000000 in
theorem is_in_hit (e : Nat) (c : Int) (w : World) (hc : w.cell? ⟨e, 0, none⟩ = some (.int .i64 c)) :
    Calls Tryd.prog 73 #[.iface 91 (.pointer (some ⟨e, 0, none⟩)), .iface 29 (.int .i64 c), .bool true] w fun ev w' => ev = .returned (.bool true) ∧ w = w' := by
  have eq1 := fun (w : World) => run_eql_iface_types (P := Tryd.prog) 91 29 (.pointer (some ⟨e, 0, none⟩)) (.int .i64 c) Tryd.underlying44 (by decide) w
  have eq2 : ∀ (w : World), (binOp .eql 44 (.iface 29 (.int .i64 c)) (.iface 29 (.int .i64 c))).run Tryd.prog w = .ok (.bool true) w := fun w => by
    obtain ⟨i, hi, hcmp⟩ := Option.map_eq_some_iff.1 errno_info
    rw [run_eql_iface_int w c c Tryd.underlying44 Tryd.underlying29 hi hcmp]
    simp
  have hI := fault_no_is
  have hU := fault_unwraps
  have hA := fault_unwrap_ahead
  have hM := fault_unwrap_method
  go_enter Tryd.func73, Tryd.ntmps73
  go_wp2_with fail
  refine wp_loop_rounds 2 ?_
  rw [rounds_succ]
  go_wp2_with (first | (go_at_call 111; refine (unwrap_any _ _ _ hc).mono ?_; rintro e w' ⟨rfl, rfl⟩))
  rw [rounds_succ]
  go_wp2
  go_ret
  exact ⟨rfl, rfl⟩

set_option maxHeartbeats 1000000 in
theorem is_hit (e : Nat) (c : Int) (w : World) (hc : w.cell? ⟨e, 0, none⟩ = some (.int .i64 c)) :
    Calls Tryd.prog 48 #[.iface 91 (.pointer (some ⟨e, 0, none⟩)), .iface 29 (.int .i64 c)] w fun ev w' => ev = .returned (.bool true) ∧ w = w' := by
  have hO := @run_callFunc_extern Tryd.prog 72 _ ReflectliteType.typeOf Tryd.func72 (by kernel_rfl) (by kernel_rfl) (by kernel_rfl) (by kernel_rfl)
  have hC := @run_callFunc_extern Tryd.prog 117 _ cmpFn Tryd.func117 (by kernel_rfl) (by kernel_rfl) (by kernel_rfl) (by kernel_rfl)
  have tO := typeOfErrno
  have cO := errno_comparable
  have mC := methodComparable_
  have H := is_in_hit e c w hc
  go_enter Tryd.func48, Tryd.ntmps48
  go_wp2_with (first | (go_at_call 73; refine H.mono ?_; rintro e w' ⟨rfl, rfl⟩))
  go_ret
  exact ⟨rfl, rfl⟩
end Go.Proofs.YtmbdaenjeeklfaaDoor

/- Texts joined for the claim's sake: ErrIs. -/
import Derived.Test.YtohhojbeclbedaaGreatDoorProg
import Derived.WalkKit
import Derived.WalkSpells
import Derived.WalkLawsBesides
import Derived.LaidEql
import Derived.Stop.Asserts
import Derived.RowKitTokens
namespace Go.Proofs.YtohhojbeclbedaaGreatDoor
open Go.RowKit Go.Extern.Stop Go.Stop Go.Extern

theorem run_eqlIn_iface_int {P : Program} (w : World) (d : Nat) {ti tn : TypeId} {ms : Array (String × TypeId)} {i : TypeInfo} {k : IntKind} (a b : Int)
    (hi : P.underlying ti = some (.interface ms)) (hn : P.underlying tn = some (.int k)) (hinfo : P.info? tn = some i) (hcomp : i.comparable = true) :
    (Op.equalIn (d + 2) ti (.iface tn (.int k a)) (.iface tn (.int k b))).run P w = .ok (a == b) w := by
  simp [Op.equalIn, run_underlying hi, run_underlying hn, typeInfo, hinfo, hcomp]
theorem run_eql_iface_int {P : Program} (w : World) {ti tn : TypeId} {ms : Array (String × TypeId)} {i : TypeInfo} {k : IntKind} (a b : Int)
    (hi : P.underlying ti = some (.interface ms)) (hn : P.underlying tn = some (.int k)) (hinfo : P.info? tn = some i) (hcomp : i.comparable = true) :
    (binOp .eql ti (.iface tn (.int k a)) (.iface tn (.int k b))).run P w = .ok (.bool (a == b)) w := by
  simp only [binOp]
  simp [Op.equal, Op.maxDepth, run_eqlIn_iface_int w 9998 a b hi hn hinfo hcomp]

def cmpFn : Array Value → Sem Value := ReflectliteType.method fun t => do Rtype.noPackHeld "Comparable" t; pure (.bool (← typeInfo t).comparable)
theorem errno_comparable (w : World) : (cmpFn #[.agg #[.pointer (some ⟨1, 30, none⟩)]]).run Tryz.prog w = .ok (.bool true) w := by kernel_rfl
theorem errno_info : (Tryz.prog.info? 30).map (·.comparable) = some true := by kernel_rfl
theorem typeOfErrno (v : Value) (w : World) : (ReflectliteType.typeOf #[.iface 30 v]).run Tryz.prog w = .ok (.iface 270 (.agg #[.pointer (some ⟨1, 30, none⟩)])) w := by kernel_rfl
theorem methodComparable_ (h : Value) (w : World) : (Go.method 431 270 (.agg #[h]) "Comparable").run Tryz.prog w = .ok (238, .agg #[h]) w := by kernel_rfl
theorem fault_no_is (v : Value) (xT : TypeId) (w : World) : (Instr.typeAssert (.iface 94 v) xT 281 true).run Tryz.prog w = .ok (.tuple #[.nilIface, .bool false]) w := run_typeAssert_lacksB Tryz.underlying281 (by kernel_rfl) (by kernel_rfl) v xT w
theorem fault_unwraps (v : Value) (xT : TypeId) (w : World) : (Instr.typeAssert (.iface 94 v) xT 277 true).run Tryz.prog w = .ok (.tuple #[.iface 94 v, .bool true]) w := run_typeAssert_hasB Tryz.underlying277 (by kernel_rfl) v xT w
theorem fault_unwrap_ahead (a : Addr) (w : World) : (nilAhead 431 94 (.pointer (some a)) "Unwrap").run Tryz.prog w = .ok (some false) w := by kernel_rfl
theorem fault_unwrap_method (a : Addr) (w : World) : (Go.method 431 94 (.pointer (some a)) "Unwrap").run Tryz.prog w = .ok (232, .pointer (some a)) w := by kernel_rfl

set_option maxHeartbeats 400000 in
theorem unwrap_any (e : Nat) (c : Int) (w : World) (hc : w.cell? ⟨e, 0, none⟩ = some (.int .i64 c)) :
    Calls Tryz.prog 232 #[.pointer (some ⟨e, 0, none⟩)] w fun ev w' => ev = .returned (.iface 30 (.int .i64 c)) ∧ w = w' := by
  go_enter Tryz.func232, Tryz.ntmps232
  go_wp2
  go_ret
  exact ⟨rfl, rfl⟩

set_option maxHeartbeats 1000000 in
theorem is_in_hit (e : Nat) (c : Int) (w : World) (hc : w.cell? ⟨e, 0, none⟩ = some (.int .i64 c)) :
    Calls Tryz.prog 152 #[.iface 94 (.pointer (some ⟨e, 0, none⟩)), .iface 30 (.int .i64 c), .bool true] w fun ev w' => ev = .returned (.bool true) ∧ w = w' := by
  have eq1 := fun (w : World) => run_eql_iface_types (P := Tryz.prog) 94 30 (.pointer (some ⟨e, 0, none⟩)) (.int .i64 c) Tryz.underlying43 (by decide) w
  have eq2 : ∀ (w : World), (binOp .eql 43 (.iface 30 (.int .i64 c)) (.iface 30 (.int .i64 c))).run Tryz.prog w = .ok (.bool true) w := fun w => by
    obtain ⟨i, hi, hcmp⟩ := Option.map_eq_some_iff.1 errno_info
    rw [run_eql_iface_int w c c Tryz.underlying43 Tryz.underlying30 hi hcmp]
    simp
  have hI := fault_no_is
  have hU := fault_unwraps
  have hA := fault_unwrap_ahead
  have hM := fault_unwrap_method
  go_enter Tryz.func152, Tryz.ntmps152
  go_wp2_with fail
  refine wp_loop_rounds 2 ?_
  rw [rounds_succ]
  go_wp2_with (first | (go_at_call 232; refine (unwrap_any _ _ _ hc).mono ?_; rintro e w' ⟨rfl, rfl⟩))
  rw [rounds_succ]
  go_wp2
  go_ret
  exact ⟨rfl, rfl⟩

set_option maxHeartbeats 1000000 in
theorem is_hit (e : Nat) (c : Int) (w : World) (hc : w.cell? ⟨e, 0, none⟩ = some (.int .i64 c)) :
    Calls Tryz.prog 103 #[.iface 94 (.pointer (some ⟨e, 0, none⟩)), .iface 30 (.int .i64 c)] w fun ev w' => ev = .returned (.bool true) ∧ w = w' := by
  have hO := @run_callFunc_extern Tryz.prog 151 _ ReflectliteType.typeOf Tryz.func151 (by kernel_rfl) (by kernel_rfl) (by kernel_rfl) (by kernel_rfl)
  have hC := @run_callFunc_extern Tryz.prog 238 _ cmpFn Tryz.func238 (by kernel_rfl) (by kernel_rfl) (by kernel_rfl) (by kernel_rfl)
  have tO := typeOfErrno
  have cO := errno_comparable
  have mC := methodComparable_
  have H := is_in_hit e c w hc
  go_enter Tryz.func103, Tryz.ntmps103
  go_wp2_with (first | (go_at_call 152; refine H.mono ?_; rintro e w' ⟨rfl, rfl⟩))
  go_ret
  exact ⟨rfl, rfl⟩
end Go.Proofs.YtohhojbeclbedaaGreatDoor

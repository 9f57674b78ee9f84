/- Texts joined for the claim's sake: IFmB. -/
import Derived.Test.YtohhojbeclbedaaGreatDoorZMKnwRow5
namespace Go.Proofs.YtohhojbeclbedaaGreatDoor
open Go.RowKit

set_option maxRecDepth 100000 in
set_option maxHeartbeats 2000000 in
theorem form_9 (w : World) : Calls Tryz.prog 173 #[.int .i64 9] w (FormIs .one w) := by
  go_enter Tryz.func173, Tryz.ntmps173
  go_wp2
  exact bodyPost_ret (form_res (f := fmOf .one) (q := isOp .one) rfl rfl (((((((Blk.new _ _ _).alloc _).alloc _).alloc _).alloc _).alloc _).alloc _)) rfl ⟨rfl, only_alloc (only_alloc (only_alloc (only_alloc (only_alloc (only_alloc (only_alloc (only_refl _ _) _) _) _) _) _) _) _⟩
set_option maxRecDepth 100000 in
set_option maxHeartbeats 2000000 in
theorem form_10 (w : World) : Calls Tryz.prog 173 #[.int .i64 10] w (FormIs .one w) := by
  go_enter Tryz.func173, Tryz.ntmps173
  go_wp2
  exact bodyPost_ret (form_res (f := fmOf .one) (q := isOp .one) rfl rfl (((((((Blk.new _ _ _).alloc _).alloc _).alloc _).alloc _).alloc _).alloc _)) rfl ⟨rfl, only_alloc (only_alloc (only_alloc (only_alloc (only_alloc (only_alloc (only_alloc (only_refl _ _) _) _) _) _) _) _) _⟩
set_option maxRecDepth 100000 in
set_option maxHeartbeats 2000000 in
theorem form_11 (w : World) : Calls Tryz.prog 173 #[.int .i64 11] w (FormIs .jump w) := by
  go_enter Tryz.func173, Tryz.ntmps173
  go_wp2
  exact bodyPost_ret (form_res (f := fmOf .jump) (q := isOp .jump) rfl rfl (((((((Blk.new _ _ _).alloc _).alloc _).alloc _).alloc _).alloc _).alloc _)) rfl ⟨rfl, only_alloc (only_alloc (only_alloc (only_alloc (only_alloc (only_alloc (only_alloc (only_refl _ _) _) _) _) _) _) _) _⟩
set_option maxRecDepth 100000 in
set_option maxHeartbeats 2000000 in
theorem form_12 (w : World) : Calls Tryz.prog 173 #[.int .i64 12] w (FormIs .jump w) := by
  go_enter Tryz.func173, Tryz.ntmps173
  go_wp2
  exact bodyPost_ret (form_res (f := fmOf .jump) (q := isOp .jump) rfl rfl (((((((Blk.new _ _ _).alloc _).alloc _).alloc _).alloc _).alloc _).alloc _)) rfl ⟨rfl, only_alloc (only_alloc (only_alloc (only_alloc (only_alloc (only_alloc (only_alloc (only_refl _ _) _) _) _) _) _) _) _⟩
set_option maxRecDepth 100000 in
set_option maxHeartbeats 2000000 in
theorem form_13 (w : World) : Calls Tryz.prog 173 #[.int .i64 13] w (FormIs .plain w) := by
  go_enter Tryz.func173, Tryz.ntmps173
  go_wp2
  exact bodyPost_ret (form_res (f := fmOf .plain) (q := isOp .plain) rfl rfl (((((((Blk.new _ _ _).alloc _).alloc _).alloc _).alloc _).alloc _).alloc _)) rfl ⟨rfl, only_alloc (only_alloc (only_alloc (only_alloc (only_alloc (only_alloc (only_alloc (only_refl _ _) _) _) _) _) _) _) _⟩
set_option maxRecDepth 100000 in
set_option maxHeartbeats 2000000 in
theorem form_14 (w : World) : Calls Tryz.prog 173 #[.int .i64 14] w (FormIs .one w) := by
  go_enter Tryz.func173, Tryz.ntmps173
  go_wp2
  exact bodyPost_ret (form_res (f := fmOf .one) (q := isOp .one) rfl rfl (((((((Blk.new _ _ _).alloc _).alloc _).alloc _).alloc _).alloc _).alloc _)) rfl ⟨rfl, only_alloc (only_alloc (only_alloc (only_alloc (only_alloc (only_alloc (only_alloc (only_refl _ _) _) _) _) _) _) _) _⟩
set_option maxRecDepth 100000 in
set_option maxHeartbeats 2000000 in
theorem form_15 (w : World) : Calls Tryz.prog 173 #[.int .i64 15] w (FormIs .one w) := by
  go_enter Tryz.func173, Tryz.ntmps173
  go_wp2
  exact bodyPost_ret (form_res (f := fmOf .one) (q := isOp .one) rfl rfl (((((((Blk.new _ _ _).alloc _).alloc _).alloc _).alloc _).alloc _).alloc _)) rfl ⟨rfl, only_alloc (only_alloc (only_alloc (only_alloc (only_alloc (only_alloc (only_alloc (only_refl _ _) _) _) _) _) _) _) _⟩
set_option maxRecDepth 100000 in
set_option maxHeartbeats 2000000 in
theorem form_16 (w : World) : Calls Tryz.prog 173 #[.int .i64 16] w (FormIs .two w) := by
  go_enter Tryz.func173, Tryz.ntmps173
  go_wp2
  exact bodyPost_ret (form_res (f := fmOf .two) (q := isOp .two) rfl rfl (((((((Blk.new _ _ _).alloc _).alloc _).alloc _).alloc _).alloc _).alloc _)) rfl ⟨rfl, only_alloc (only_alloc (only_alloc (only_alloc (only_alloc (only_alloc (only_alloc (only_refl _ _) _) _) _) _) _) _) _⟩
set_option maxRecDepth 100000 in
set_option maxHeartbeats 2000000 in
theorem form_17 (w : World) : Calls Tryz.prog 173 #[.int .i64 17] w (FormIs .two w) := by
  go_enter Tryz.func173, Tryz.ntmps173
  go_wp2
  exact bodyPost_ret (form_res (f := fmOf .two) (q := isOp .two) rfl rfl (((((((Blk.new _ _ _).alloc _).alloc _).alloc _).alloc _).alloc _).alloc _)) rfl ⟨rfl, only_alloc (only_alloc (only_alloc (only_alloc (only_alloc (only_alloc (only_alloc (only_refl _ _) _) _) _) _) _) _) _⟩
end Go.Proofs.YtohhojbeclbedaaGreatDoor

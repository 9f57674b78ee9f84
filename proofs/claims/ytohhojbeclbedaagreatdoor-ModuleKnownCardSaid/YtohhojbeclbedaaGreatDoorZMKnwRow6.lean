/- Texts joined for the claim's sake: IFmA. -/
import Derived.Test.YtohhojbeclbedaaGreatDoorZMKnwRow5
namespace Go.Proofs.YtohhojbeclbedaaGreatDoor
open Go.RowKit

set_option maxRecDepth 100000 in
set_option maxHeartbeats 2000000 in
theorem form_0 (w : World) : Calls Tryz.prog 173 #[.int .i64 0] w (FormIs .plain w) := by
  go_enter Tryz.func173, Tryz.ntmps173
  go_wp2
  exact bodyPost_ret (form_res (f := fmOf .plain) (q := isOp .plain) rfl rfl (((((((Blk.new _ _ _).alloc _).alloc _).alloc _).alloc _).alloc _).alloc _)) rfl ⟨rfl, only_alloc (only_alloc (only_alloc (only_alloc (only_alloc (only_alloc (only_alloc (only_refl _ _) _) _) _) _) _) _) _⟩
set_option maxRecDepth 100000 in
set_option maxHeartbeats 2000000 in
theorem form_1 (w : World) : Calls Tryz.prog 173 #[.int .i64 1] w (FormIs .push w) := by
  go_enter Tryz.func173, Tryz.ntmps173
  go_wp2
  exact bodyPost_ret (form_res (f := fmOf .push) (q := isOp .push) rfl rfl (((((((Blk.new _ _ _).alloc _).alloc _).alloc _).alloc _).alloc _).alloc _)) rfl ⟨rfl, only_alloc (only_alloc (only_alloc (only_alloc (only_alloc (only_alloc (only_alloc (only_refl _ _) _) _) _) _) _) _) _⟩
set_option maxRecDepth 100000 in
set_option maxHeartbeats 2000000 in
theorem form_2 (w : World) : Calls Tryz.prog 173 #[.int .i64 2] w (FormIs .plain w) := by
  go_enter Tryz.func173, Tryz.ntmps173
  go_wp2
  exact bodyPost_ret (form_res (f := fmOf .plain) (q := isOp .plain) rfl rfl (((((((Blk.new _ _ _).alloc _).alloc _).alloc _).alloc _).alloc _).alloc _)) rfl ⟨rfl, only_alloc (only_alloc (only_alloc (only_alloc (only_alloc (only_alloc (only_alloc (only_refl _ _) _) _) _) _) _) _) _⟩
set_option maxRecDepth 100000 in
set_option maxHeartbeats 2000000 in
theorem form_3 (w : World) : Calls Tryz.prog 173 #[.int .i64 3] w (FormIs .plain w) := by
  go_enter Tryz.func173, Tryz.ntmps173
  go_wp2
  exact bodyPost_ret (form_res (f := fmOf .plain) (q := isOp .plain) rfl rfl (((((((Blk.new _ _ _).alloc _).alloc _).alloc _).alloc _).alloc _).alloc _)) rfl ⟨rfl, only_alloc (only_alloc (only_alloc (only_alloc (only_alloc (only_alloc (only_alloc (only_refl _ _) _) _) _) _) _) _) _⟩
set_option maxRecDepth 100000 in
set_option maxHeartbeats 2000000 in
theorem form_4 (w : World) : Calls Tryz.prog 173 #[.int .i64 4] w (FormIs .plain w) := by
  go_enter Tryz.func173, Tryz.ntmps173
  go_wp2
  exact bodyPost_ret (form_res (f := fmOf .plain) (q := isOp .plain) rfl rfl (((((((Blk.new _ _ _).alloc _).alloc _).alloc _).alloc _).alloc _).alloc _)) rfl ⟨rfl, only_alloc (only_alloc (only_alloc (only_alloc (only_alloc (only_alloc (only_alloc (only_refl _ _) _) _) _) _) _) _) _⟩
set_option maxRecDepth 100000 in
set_option maxHeartbeats 2000000 in
theorem form_5 (w : World) : Calls Tryz.prog 173 #[.int .i64 5] w (FormIs .plain w) := by
  go_enter Tryz.func173, Tryz.ntmps173
  go_wp2
  exact bodyPost_ret (form_res (f := fmOf .plain) (q := isOp .plain) rfl rfl (((((((Blk.new _ _ _).alloc _).alloc _).alloc _).alloc _).alloc _).alloc _)) rfl ⟨rfl, only_alloc (only_alloc (only_alloc (only_alloc (only_alloc (only_alloc (only_alloc (only_refl _ _) _) _) _) _) _) _) _⟩
set_option maxRecDepth 100000 in
set_option maxHeartbeats 2000000 in
theorem form_6 (w : World) : Calls Tryz.prog 173 #[.int .i64 6] w (FormIs .plain w) := by
  go_enter Tryz.func173, Tryz.ntmps173
  go_wp2
  exact bodyPost_ret (form_res (f := fmOf .plain) (q := isOp .plain) rfl rfl (((((((Blk.new _ _ _).alloc _).alloc _).alloc _).alloc _).alloc _).alloc _)) rfl ⟨rfl, only_alloc (only_alloc (only_alloc (only_alloc (only_alloc (only_alloc (only_alloc (only_refl _ _) _) _) _) _) _) _) _⟩
set_option maxRecDepth 100000 in
set_option maxHeartbeats 2000000 in
theorem form_7 (w : World) : Calls Tryz.prog 173 #[.int .i64 7] w (FormIs .plain w) := by
  go_enter Tryz.func173, Tryz.ntmps173
  go_wp2
  exact bodyPost_ret (form_res (f := fmOf .plain) (q := isOp .plain) rfl rfl (((((((Blk.new _ _ _).alloc _).alloc _).alloc _).alloc _).alloc _).alloc _)) rfl ⟨rfl, only_alloc (only_alloc (only_alloc (only_alloc (only_alloc (only_alloc (only_alloc (only_refl _ _) _) _) _) _) _) _) _⟩
set_option maxRecDepth 100000 in
set_option maxHeartbeats 2000000 in
theorem form_8 (w : World) : Calls Tryz.prog 173 #[.int .i64 8] w (FormIs .plain w) := by
  go_enter Tryz.func173, Tryz.ntmps173
  go_wp2
  exact bodyPost_ret (form_res (f := fmOf .plain) (q := isOp .plain) rfl rfl (((((((Blk.new _ _ _).alloc _).alloc _).alloc _).alloc _).alloc _).alloc _)) rfl ⟨rfl, only_alloc (only_alloc (only_alloc (only_alloc (only_alloc (only_alloc (only_alloc (only_refl _ _) _) _) _) _) _) _) _⟩
end Go.Proofs.YtohhojbeclbedaaGreatDoor

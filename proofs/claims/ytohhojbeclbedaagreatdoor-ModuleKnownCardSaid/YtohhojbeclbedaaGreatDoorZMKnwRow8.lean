/- Texts joined for the claim's sake: IFmC. -/
import Derived.Test.YtohhojbeclbedaaGreatDoorZMKnwRow5
namespace Go.Proofs.YtohhojbeclbedaaGreatDoor
open Go.RowKit

set_option maxRecDepth 100000 in
set_option maxHeartbeats 2000000 in
theorem form_18 (w : World) : Calls Tryz.prog 173 #[.int .i64 18] w (FormIs .select w) := by
  go_enter Tryz.func173, Tryz.ntmps173
  go_wp2
  exact bodyPost_ret (form_res (f := fmOf .select) (q := isOp .select) rfl rfl (((((((Blk.new _ _ _).alloc _).alloc _).alloc _).alloc _).alloc _).alloc _)) rfl ⟨rfl, only_alloc (only_alloc (only_alloc (only_alloc (only_alloc (only_alloc (only_alloc (only_refl _ _) _) _) _) _) _) _) _⟩
set_option maxRecDepth 100000 in
set_option maxHeartbeats 2000000 in
theorem form_19 (w : World) : Calls Tryz.prog 173 #[.int .i64 19] w (FormIs .branch w) := by
  go_enter Tryz.func173, Tryz.ntmps173
  go_wp2
  exact bodyPost_ret (form_res (f := fmOf .branch) (q := isOp .branch) rfl rfl (((((((Blk.new _ _ _).alloc _).alloc _).alloc _).alloc _).alloc _).alloc _)) rfl ⟨rfl, only_alloc (only_alloc (only_alloc (only_alloc (only_alloc (only_alloc (only_alloc (only_refl _ _) _) _) _) _) _) _) _⟩
set_option maxRecDepth 100000 in
set_option maxHeartbeats 2000000 in
theorem form_20 (w : World) : Calls Tryz.prog 173 #[.int .i64 20] w (FormIs .new_ w) := by
  go_enter Tryz.func173, Tryz.ntmps173
  go_wp2
  exact bodyPost_ret (form_res (f := fmOf .new_) (q := isOp .new_) rfl rfl (((((((Blk.new _ _ _).alloc _).alloc _).alloc _).alloc _).alloc _).alloc _)) rfl ⟨rfl, only_alloc (only_alloc (only_alloc (only_alloc (only_alloc (only_alloc (only_alloc (only_refl _ _) _) _) _) _) _) _) _⟩
set_option maxRecDepth 100000 in
set_option maxHeartbeats 2000000 in
theorem form_21 (w : World) : Calls Tryz.prog 173 #[.int .i64 21] w (FormIs .spawn w) := by
  go_enter Tryz.func173, Tryz.ntmps173
  go_wp2
  exact bodyPost_ret (form_res (f := fmOf .spawn) (q := isOp .spawn) rfl rfl (((((((Blk.new _ _ _).alloc _).alloc _).alloc _).alloc _).alloc _).alloc _)) rfl ⟨rfl, only_alloc (only_alloc (only_alloc (only_alloc (only_alloc (only_alloc (only_alloc (only_refl _ _) _) _) _) _) _) _) _⟩
set_option maxRecDepth 100000 in
set_option maxHeartbeats 2000000 in
theorem form_22 (w : World) : Calls Tryz.prog 173 #[.int .i64 22] w (FormIs .one w) := by
  go_enter Tryz.func173, Tryz.ntmps173
  go_wp2
  exact bodyPost_ret (form_res (f := fmOf .one) (q := isOp .one) rfl rfl (((((((Blk.new _ _ _).alloc _).alloc _).alloc _).alloc _).alloc _).alloc _)) rfl ⟨rfl, only_alloc (only_alloc (only_alloc (only_alloc (only_alloc (only_alloc (only_alloc (only_refl _ _) _) _) _) _) _) _) _⟩
set_option maxRecDepth 100000 in
set_option maxHeartbeats 2000000 in
theorem form_23 (w : World) : Calls Tryz.prog 173 #[.int .i64 23] w (FormIs .two w) := by
  go_enter Tryz.func173, Tryz.ntmps173
  go_wp2
  exact bodyPost_ret (form_res (f := fmOf .two) (q := isOp .two) rfl rfl (((((((Blk.new _ _ _).alloc _).alloc _).alloc _).alloc _).alloc _).alloc _)) rfl ⟨rfl, only_alloc (only_alloc (only_alloc (only_alloc (only_alloc (only_alloc (only_alloc (only_refl _ _) _) _) _) _) _) _) _⟩
set_option maxRecDepth 100000 in
set_option maxHeartbeats 2000000 in
theorem form_24 (w : World) : Calls Tryz.prog 173 #[.int .i64 24] w (FormIs .plain w) := by
  go_enter Tryz.func173, Tryz.ntmps173
  go_wp2
  exact bodyPost_ret (form_res (f := fmOf .plain) (q := isOp .plain) rfl rfl (((((((Blk.new _ _ _).alloc _).alloc _).alloc _).alloc _).alloc _).alloc _)) rfl ⟨rfl, only_alloc (only_alloc (only_alloc (only_alloc (only_alloc (only_alloc (only_alloc (only_refl _ _) _) _) _) _) _) _) _⟩
set_option maxRecDepth 100000 in
set_option maxHeartbeats 2000000 in
theorem form_neg (op : Int) (_ : op < 0) (w : World) : Calls Tryz.prog 173 #[.int .i64 op] w (FormIs .no w) := by
  go_enter Tryz.func173, Tryz.ntmps173
  go_wp2
  exact bodyPost_ret (form_res (f := fmOf .no) (q := isOp .no) rfl rfl (((((((Blk.new _ _ _).alloc _).alloc _).alloc _).alloc _).alloc _).alloc _)) rfl ⟨rfl, only_alloc (only_alloc (only_alloc (only_alloc (only_alloc (only_alloc (only_alloc (only_refl _ _) _) _) _) _) _) _) _⟩
set_option maxRecDepth 100000 in
set_option maxHeartbeats 2000000 in
theorem form_above (op : Int) (_ : 24 < op) (w : World) : Calls Tryz.prog 173 #[.int .i64 op] w (FormIs .no w) := by
  go_enter Tryz.func173, Tryz.ntmps173
  go_wp2
  exact bodyPost_ret (form_res (f := fmOf .no) (q := isOp .no) rfl rfl (((((((Blk.new _ _ _).alloc _).alloc _).alloc _).alloc _).alloc _).alloc _)) rfl ⟨rfl, only_alloc (only_alloc (only_alloc (only_alloc (only_alloc (only_alloc (only_alloc (only_refl _ _) _) _) _) _) _) _) _⟩
end Go.Proofs.YtohhojbeclbedaaGreatDoor

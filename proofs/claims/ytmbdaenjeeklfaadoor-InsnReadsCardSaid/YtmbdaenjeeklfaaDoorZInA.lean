/- Texts joined for the claim's sake: IFmA, IFmB, IFmC, IFmt. -/
import Derived.Test.YtmbdaenjeeklfaaDoorZIbH
/- insn: formOf: the form of each op: 0 to 8. -/
namespace Go.Proofs.YtmbdaenjeeklfaaDoor
open Go.RowKit

set_option maxRecDepth 100000 in
set_option maxHeartbeats 2000000 in
theorem form_0 (w : World) : Calls Tryd.prog 40 #[.int .i64 0] w (FormIs .plain w) := by
  go_enter Tryd.func40, Tryd.ntmps40
  go_wp2
  exact bodyPost_ret (form_res (f := fmOf .plain) (q := isOp .plain) rfl rfl (((((((Blk.new _ _ _).alloc _).alloc _).alloc _).alloc _).alloc _).alloc _)) rfl ⟨rfl, only_alloc (only_alloc (only_alloc (only_alloc (only_alloc (only_alloc (only_alloc (only_refl _ _) _) _) _) _) _) _) _⟩
set_option maxRecDepth 100000 in
set_option maxHeartbeats 2000000 in
theorem form_1 (w : World) : Calls Tryd.prog 40 #[.int .i64 1] w (FormIs .push w) := by
  go_enter Tryd.func40, Tryd.ntmps40
  go_wp2
  exact bodyPost_ret (form_res (f := fmOf .push) (q := isOp .push) rfl rfl (((((((Blk.new _ _ _).alloc _).alloc _).alloc _).alloc _).alloc _).alloc _)) rfl ⟨rfl, only_alloc (only_alloc (only_alloc (only_alloc (only_alloc (only_alloc (only_alloc (only_refl _ _) _) _) _) _) _) _) _⟩
set_option maxRecDepth 100000 in
set_option maxHeartbeats 2000000 in
theorem form_2 (w : World) : Calls Tryd.prog 40 #[.int .i64 2] w (FormIs .plain w) := by
  go_enter Tryd.func40, Tryd.ntmps40
  go_wp2
  exact bodyPost_ret (form_res (f := fmOf .plain) (q := isOp .plain) rfl rfl (((((((Blk.new _ _ _).alloc _).alloc _).alloc _).alloc _).alloc _).alloc _)) rfl ⟨rfl, only_alloc (only_alloc (only_alloc (only_alloc (only_alloc (only_alloc (only_alloc (only_refl _ _) _) _) _) _) _) _) _⟩
set_option maxRecDepth 100000 in
set_option maxHeartbeats 2000000 in
theorem form_3 (w : World) : Calls Tryd.prog 40 #[.int .i64 3] w (FormIs .plain w) := by
  go_enter Tryd.func40, Tryd.ntmps40
  go_wp2
  exact bodyPost_ret (form_res (f := fmOf .plain) (q := isOp .plain) rfl rfl (((((((Blk.new _ _ _).alloc _).alloc _).alloc _).alloc _).alloc _).alloc _)) rfl ⟨rfl, only_alloc (only_alloc (only_alloc (only_alloc (only_alloc (only_alloc (only_alloc (only_refl _ _) _) _) _) _) _) _) _⟩
set_option maxRecDepth 100000 in
set_option maxHeartbeats 2000000 in
theorem form_4 (w : World) : Calls Tryd.prog 40 #[.int .i64 4] w (FormIs .plain w) := by
  go_enter Tryd.func40, Tryd.ntmps40
  go_wp2
  exact bodyPost_ret (form_res (f := fmOf .plain) (q := isOp .plain) rfl rfl (((((((Blk.new _ _ _).alloc _).alloc _).alloc _).alloc _).alloc _).alloc _)) rfl ⟨rfl, only_alloc (only_alloc (only_alloc (only_alloc (only_alloc (only_alloc (only_alloc (only_refl _ _) _) _) _) _) _) _) _⟩
set_option maxRecDepth 100000 in
set_option maxHeartbeats 2000000 in
theorem form_5 (w : World) : Calls Tryd.prog 40 #[.int .i64 5] w (FormIs .plain w) := by
  go_enter Tryd.func40, Tryd.ntmps40
  go_wp2
  exact bodyPost_ret (form_res (f := fmOf .plain) (q := isOp .plain) rfl rfl (((((((Blk.new _ _ _).alloc _).alloc _).alloc _).alloc _).alloc _).alloc _)) rfl ⟨rfl, only_alloc (only_alloc (only_alloc (only_alloc (only_alloc (only_alloc (only_alloc (only_refl _ _) _) _) _) _) _) _) _⟩
set_option maxRecDepth 100000 in
set_option maxHeartbeats 2000000 in
theorem form_6 (w : World) : Calls Tryd.prog 40 #[.int .i64 6] w (FormIs .plain w) := by
  go_enter Tryd.func40, Tryd.ntmps40
  go_wp2
  exact bodyPost_ret (form_res (f := fmOf .plain) (q := isOp .plain) rfl rfl (((((((Blk.new _ _ _).alloc _).alloc _).alloc _).alloc _).alloc _).alloc _)) rfl ⟨rfl, only_alloc (only_alloc (only_alloc (only_alloc (only_alloc (only_alloc (only_alloc (only_refl _ _) _) _) _) _) _) _) _⟩
set_option maxRecDepth 100000 in
set_option maxHeartbeats 2000000 in
theorem form_7 (w : World) : Calls Tryd.prog 40 #[.int .i64 7] w (FormIs .plain w) := by
  go_enter Tryd.func40, Tryd.ntmps40
  go_wp2
  exact bodyPost_ret (form_res (f := fmOf .plain) (q := isOp .plain) rfl rfl (((((((Blk.new _ _ _).alloc _).alloc _).alloc _).alloc _).alloc _).alloc _)) rfl ⟨rfl, only_alloc (only_alloc (only_alloc (only_alloc (only_alloc (only_alloc (only_alloc (only_refl _ _) _) _) _) _) _) _) _⟩
set_option maxRecDepth 100000 in
set_option maxHeartbeats 2000000 in
theorem form_8 (w : World) : Calls Tryd.prog 40 #[.int .i64 8] w (FormIs .plain w) := by
  go_enter Tryd.func40, Tryd.ntmps40
  go_wp2
  exact bodyPost_ret (form_res (f := fmOf .plain) (q := isOp .plain) rfl rfl (((((((Blk.new _ _ _).alloc _).alloc _).alloc _).alloc _).alloc _).alloc _)) rfl ⟨rfl, only_alloc (only_alloc (only_alloc (only_alloc (only_alloc (only_alloc (only_alloc (only_refl _ _) _) _) _) _) _) _) _⟩
end Go.Proofs.YtmbdaenjeeklfaaDoor

/- insn: formOf: the form of each op: 9 to 17. -/
namespace Go.Proofs.YtmbdaenjeeklfaaDoor
open Go.RowKit

set_option maxRecDepth 100000 in
set_option maxHeartbeats 2000000 in
theorem form_9 (w : World) : Calls Tryd.prog 40 #[.int .i64 9] w (FormIs .one w) := by
  go_enter Tryd.func40, Tryd.ntmps40
  go_wp2
  exact bodyPost_ret (form_res (f := fmOf .one) (q := isOp .one) rfl rfl (((((((Blk.new _ _ _).alloc _).alloc _).alloc _).alloc _).alloc _).alloc _)) rfl ⟨rfl, only_alloc (only_alloc (only_alloc (only_alloc (only_alloc (only_alloc (only_alloc (only_refl _ _) _) _) _) _) _) _) _⟩
set_option maxRecDepth 100000 in
set_option maxHeartbeats 2000000 in
theorem form_10 (w : World) : Calls Tryd.prog 40 #[.int .i64 10] w (FormIs .one w) := by
  go_enter Tryd.func40, Tryd.ntmps40
  go_wp2
  exact bodyPost_ret (form_res (f := fmOf .one) (q := isOp .one) rfl rfl (((((((Blk.new _ _ _).alloc _).alloc _).alloc _).alloc _).alloc _).alloc _)) rfl ⟨rfl, only_alloc (only_alloc (only_alloc (only_alloc (only_alloc (only_alloc (only_alloc (only_refl _ _) _) _) _) _) _) _) _⟩
set_option maxRecDepth 100000 in
set_option maxHeartbeats 2000000 in
theorem form_11 (w : World) : Calls Tryd.prog 40 #[.int .i64 11] w (FormIs .jump w) := by
  go_enter Tryd.func40, Tryd.ntmps40
  go_wp2
  exact bodyPost_ret (form_res (f := fmOf .jump) (q := isOp .jump) rfl rfl (((((((Blk.new _ _ _).alloc _).alloc _).alloc _).alloc _).alloc _).alloc _)) rfl ⟨rfl, only_alloc (only_alloc (only_alloc (only_alloc (only_alloc (only_alloc (only_alloc (only_refl _ _) _) _) _) _) _) _) _⟩
set_option maxRecDepth 100000 in
set_option maxHeartbeats 2000000 in
theorem form_12 (w : World) : Calls Tryd.prog 40 #[.int .i64 12] w (FormIs .jump w) := by
  go_enter Tryd.func40, Tryd.ntmps40
  go_wp2
  exact bodyPost_ret (form_res (f := fmOf .jump) (q := isOp .jump) rfl rfl (((((((Blk.new _ _ _).alloc _).alloc _).alloc _).alloc _).alloc _).alloc _)) rfl ⟨rfl, only_alloc (only_alloc (only_alloc (only_alloc (only_alloc (only_alloc (only_alloc (only_refl _ _) _) _) _) _) _) _) _⟩
set_option maxRecDepth 100000 in
set_option maxHeartbeats 2000000 in
theorem form_13 (w : World) : Calls Tryd.prog 40 #[.int .i64 13] w (FormIs .plain w) := by
  go_enter Tryd.func40, Tryd.ntmps40
  go_wp2
  exact bodyPost_ret (form_res (f := fmOf .plain) (q := isOp .plain) rfl rfl (((((((Blk.new _ _ _).alloc _).alloc _).alloc _).alloc _).alloc _).alloc _)) rfl ⟨rfl, only_alloc (only_alloc (only_alloc (only_alloc (only_alloc (only_alloc (only_alloc (only_refl _ _) _) _) _) _) _) _) _⟩
set_option maxRecDepth 100000 in
set_option maxHeartbeats 2000000 in
theorem form_14 (w : World) : Calls Tryd.prog 40 #[.int .i64 14] w (FormIs .one w) := by
  go_enter Tryd.func40, Tryd.ntmps40
  go_wp2
  exact bodyPost_ret (form_res (f := fmOf .one) (q := isOp .one) rfl rfl (((((((Blk.new _ _ _).alloc _).alloc _).alloc _).alloc _).alloc _).alloc _)) rfl ⟨rfl, only_alloc (only_alloc (only_alloc (only_alloc (only_alloc (only_alloc (only_alloc (only_refl _ _) _) _) _) _) _) _) _⟩
set_option maxRecDepth 100000 in
set_option maxHeartbeats 2000000 in
theorem form_15 (w : World) : Calls Tryd.prog 40 #[.int .i64 15] w (FormIs .one w) := by
  go_enter Tryd.func40, Tryd.ntmps40
  go_wp2
  exact bodyPost_ret (form_res (f := fmOf .one) (q := isOp .one) rfl rfl (((((((Blk.new _ _ _).alloc _).alloc _).alloc _).alloc _).alloc _).alloc _)) rfl ⟨rfl, only_alloc (only_alloc (only_alloc (only_alloc (only_alloc (only_alloc (only_alloc (only_refl _ _) _) _) _) _) _) _) _⟩
set_option maxRecDepth 100000 in
set_option maxHeartbeats 2000000 in
theorem form_16 (w : World) : Calls Tryd.prog 40 #[.int .i64 16] w (FormIs .two w) := by
  go_enter Tryd.func40, Tryd.ntmps40
  go_wp2
  exact bodyPost_ret (form_res (f := fmOf .two) (q := isOp .two) rfl rfl (((((((Blk.new _ _ _).alloc _).alloc _).alloc _).alloc _).alloc _).alloc _)) rfl ⟨rfl, only_alloc (only_alloc (only_alloc (only_alloc (only_alloc (only_alloc (only_alloc (only_refl _ _) _) _) _) _) _) _) _⟩
set_option maxRecDepth 100000 in
set_option maxHeartbeats 2000000 in
theorem form_17 (w : World) : Calls Tryd.prog 40 #[.int .i64 17] w (FormIs .two w) := by
  go_enter Tryd.func40, Tryd.ntmps40
  go_wp2
  exact bodyPost_ret (form_res (f := fmOf .two) (q := isOp .two) rfl rfl (((((((Blk.new _ _ _).alloc _).alloc _).alloc _).alloc _).alloc _).alloc _)) rfl ⟨rfl, only_alloc (only_alloc (only_alloc (only_alloc (only_alloc (only_alloc (only_alloc (only_refl _ _) _) _) _) _) _) _) _⟩
end Go.Proofs.YtmbdaenjeeklfaaDoor

/- insn: formOf: the form of each op: 18 to 24. -/
namespace Go.Proofs.YtmbdaenjeeklfaaDoor
open Go.RowKit

set_option maxRecDepth 100000 in
set_option maxHeartbeats 2000000 in
theorem form_18 (w : World) : Calls Tryd.prog 40 #[.int .i64 18] w (FormIs .select w) := by
  go_enter Tryd.func40, Tryd.ntmps40
  go_wp2
  exact bodyPost_ret (form_res (f := fmOf .select) (q := isOp .select) rfl rfl (((((((Blk.new _ _ _).alloc _).alloc _).alloc _).alloc _).alloc _).alloc _)) rfl ⟨rfl, only_alloc (only_alloc (only_alloc (only_alloc (only_alloc (only_alloc (only_alloc (only_refl _ _) _) _) _) _) _) _) _⟩
set_option maxRecDepth 100000 in
set_option maxHeartbeats 2000000 in
theorem form_19 (w : World) : Calls Tryd.prog 40 #[.int .i64 19] w (FormIs .branch w) := by
  go_enter Tryd.func40, Tryd.ntmps40
  go_wp2
  exact bodyPost_ret (form_res (f := fmOf .branch) (q := isOp .branch) rfl rfl (((((((Blk.new _ _ _).alloc _).alloc _).alloc _).alloc _).alloc _).alloc _)) rfl ⟨rfl, only_alloc (only_alloc (only_alloc (only_alloc (only_alloc (only_alloc (only_alloc (only_refl _ _) _) _) _) _) _) _) _⟩
set_option maxRecDepth 100000 in
set_option maxHeartbeats 2000000 in
theorem form_20 (w : World) : Calls Tryd.prog 40 #[.int .i64 20] w (FormIs .new_ w) := by
  go_enter Tryd.func40, Tryd.ntmps40
  go_wp2
  exact bodyPost_ret (form_res (f := fmOf .new_) (q := isOp .new_) rfl rfl (((((((Blk.new _ _ _).alloc _).alloc _).alloc _).alloc _).alloc _).alloc _)) rfl ⟨rfl, only_alloc (only_alloc (only_alloc (only_alloc (only_alloc (only_alloc (only_alloc (only_refl _ _) _) _) _) _) _) _) _⟩
set_option maxRecDepth 100000 in
set_option maxHeartbeats 2000000 in
theorem form_21 (w : World) : Calls Tryd.prog 40 #[.int .i64 21] w (FormIs .spawn w) := by
  go_enter Tryd.func40, Tryd.ntmps40
  go_wp2
  exact bodyPost_ret (form_res (f := fmOf .spawn) (q := isOp .spawn) rfl rfl (((((((Blk.new _ _ _).alloc _).alloc _).alloc _).alloc _).alloc _).alloc _)) rfl ⟨rfl, only_alloc (only_alloc (only_alloc (only_alloc (only_alloc (only_alloc (only_alloc (only_refl _ _) _) _) _) _) _) _) _⟩
set_option maxRecDepth 100000 in
set_option maxHeartbeats 2000000 in
theorem form_22 (w : World) : Calls Tryd.prog 40 #[.int .i64 22] w (FormIs .one w) := by
  go_enter Tryd.func40, Tryd.ntmps40
  go_wp2
  exact bodyPost_ret (form_res (f := fmOf .one) (q := isOp .one) rfl rfl (((((((Blk.new _ _ _).alloc _).alloc _).alloc _).alloc _).alloc _).alloc _)) rfl ⟨rfl, only_alloc (only_alloc (only_alloc (only_alloc (only_alloc (only_alloc (only_alloc (only_refl _ _) _) _) _) _) _) _) _⟩
set_option maxRecDepth 100000 in
set_option maxHeartbeats 2000000 in
theorem form_23 (w : World) : Calls Tryd.prog 40 #[.int .i64 23] w (FormIs .two w) := by
  go_enter Tryd.func40, Tryd.ntmps40
  go_wp2
  exact bodyPost_ret (form_res (f := fmOf .two) (q := isOp .two) rfl rfl (((((((Blk.new _ _ _).alloc _).alloc _).alloc _).alloc _).alloc _).alloc _)) rfl ⟨rfl, only_alloc (only_alloc (only_alloc (only_alloc (only_alloc (only_alloc (only_alloc (only_refl _ _) _) _) _) _) _) _) _⟩
set_option maxRecDepth 100000 in
set_option maxHeartbeats 2000000 in
theorem form_24 (w : World) : Calls Tryd.prog 40 #[.int .i64 24] w (FormIs .plain w) := by
  go_enter Tryd.func40, Tryd.ntmps40
  go_wp2
  exact bodyPost_ret (form_res (f := fmOf .plain) (q := isOp .plain) rfl rfl (((((((Blk.new _ _ _).alloc _).alloc _).alloc _).alloc _).alloc _).alloc _)) rfl ⟨rfl, only_alloc (only_alloc (only_alloc (only_alloc (only_alloc (only_alloc (only_alloc (only_refl _ _) _) _) _) _) _) _) _⟩
set_option maxRecDepth 100000 in
set_option maxHeartbeats 2000000 in
theorem form_neg (op : Int) (_ : op < 0) (w : World) : Calls Tryd.prog 40 #[.int .i64 op] w (FormIs .no w) := by
  go_enter Tryd.func40, Tryd.ntmps40
  go_wp2
  exact bodyPost_ret (form_res (f := fmOf .no) (q := isOp .no) rfl rfl (((((((Blk.new _ _ _).alloc _).alloc _).alloc _).alloc _).alloc _).alloc _)) rfl ⟨rfl, only_alloc (only_alloc (only_alloc (only_alloc (only_alloc (only_alloc (only_alloc (only_refl _ _) _) _) _) _) _) _) _⟩
set_option maxRecDepth 100000 in
set_option maxHeartbeats 2000000 in
theorem form_above (op : Int) (_ : 24 < op) (w : World) : Calls Tryd.prog 40 #[.int .i64 op] w (FormIs .no w) := by
  go_enter Tryd.func40, Tryd.ntmps40
  go_wp2
  exact bodyPost_ret (form_res (f := fmOf .no) (q := isOp .no) rfl rfl (((((((Blk.new _ _ _).alloc _).alloc _).alloc _).alloc _).alloc _).alloc _)) rfl ⟨rfl, only_alloc (only_alloc (only_alloc (only_alloc (only_alloc (only_alloc (only_alloc (only_refl _ _) _) _) _) _) _) _) _⟩
end Go.Proofs.YtmbdaenjeeklfaaDoor

/- insn: formOf: what it answers of any op. -/
namespace Go.Proofs.YtmbdaenjeeklfaaDoor
open Go.RowKit

theorem formOf_any (op : Int) (w : World) : Calls Tryd.prog 40 #[.int .i64 op] w (FormIs (clI op) w) := by
  have h : op < 0 ∨ 24 < op ∨ op = 0 ∨ op = 1 ∨ op = 2 ∨ op = 3 ∨ op = 4 ∨ op = 5 ∨ op = 6 ∨ op = 7 ∨ op = 8 ∨ op = 9 ∨ op = 10 ∨ op = 11 ∨ op = 12 ∨ op = 13 ∨ op = 14 ∨ op = 15 ∨ op = 16 ∨ op = 17 ∨ op = 18 ∨ op = 19 ∨ op = 20 ∨ op = 21 ∨ op = 22 ∨ op = 23 ∨ op = 24 := by omega
  rcases h with h | h | rfl | rfl | rfl | rfl | rfl | rfl | rfl | rfl | rfl | rfl | rfl | rfl | rfl | rfl | rfl | rfl | rfl | rfl | rfl | rfl | rfl | rfl | rfl | rfl | rfl
  · have e : clI op = .no := by unfold clI; rw [if_pos h]
    rw [e]; exact form_neg op h w
  · have e : clI op = .no := by
      unfold clI
      rw [if_neg (by omega)]
      obtain ⟨m, hm⟩ : ∃ m, op.toNat = m + 25 := ⟨op.toNat - 25, by omega⟩
      rw [hm, clN]
    rw [e]; exact form_above op h w
  · exact form_0 w
  · exact form_1 w
  · exact form_2 w
  · exact form_3 w
  · exact form_4 w
  · exact form_5 w
  · exact form_6 w
  · exact form_7 w
  · exact form_8 w
  · exact form_9 w
  · exact form_10 w
  · exact form_11 w
  · exact form_12 w
  · exact form_13 w
  · exact form_14 w
  · exact form_15 w
  · exact form_16 w
  · exact form_17 w
  · exact form_18 w
  · exact form_19 w
  · exact form_20 w
  · exact form_21 w
  · exact form_22 w
  · exact form_23 w
  · exact form_24 w
end Go.Proofs.YtmbdaenjeeklfaaDoor

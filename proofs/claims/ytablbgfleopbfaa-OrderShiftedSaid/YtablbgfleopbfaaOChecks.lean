/- OrderChecks: the walk. -/
import Derived.Test.YtablbgfleopbfaaOWrk
import Derived.Test.YtablbgfleopbfaaORCh
namespace Go.Proofs.Ytablbgfleopbfaa
open Go.RowKit Go.Shelf

theorem fewL_len (xs : List Nd) : (fewL xs).length ≤ 16 := by unfold fewL; rw [List.length_map, List.length_take]; omega
/-- What stands behind few: the table that it answers. -/
structure FS1 (w : World) (v : Value) (zs : List Nd) (W : World) : Prop where
  step : w.grownBy W none
  tab : Tbl W v zs
theorem FS1.none_ {w W W' : World} {v : Value} {zs : List Nd} (h : FS1 w v zs W) (hg : W.grownBy W' none) : FS1 w v zs W' := ⟨only_trans h.step hg, h.tab.keep (.grown hg)⟩

set_option maxRecDepth 100000 in
set_option maxHeartbeats 4000000 in
theorem ochecks_any (xs : List Nd) (A : Option Addr) (c : Nat) (fr : Int) (e : Ed) (w : World) (hT : TblC w (.slice A xs.length c) xs) (h0 : -9223372036854775808 ≤ e.2) (h1 : e.2 ≤ 9223372036854775807) :
    Calls Try.prog 3 #[.slice A xs.length c, .int .i64 fr, edV e] w fun en w' => en = .returned (.bool true) ∧ w.grownBy w' none := by
  have HT := Lib.hid hT
  have HE : Hid (-9223372036854775808 ≤ e.2 ∧ e.2 ≤ 9223372036854775807) := ⟨h0, h1⟩
  have HZ : Hid ((fewL xs).length ≤ 1000) := Nat.le_trans (fewL_len xs) (by decide)
  generalize hzs : fewL xs = zs at *
  have HZS := Lib.hid hzs
  clear hT h0 h1 hzs
  go_enter Try.func3, Try.ntmps3
  go_wp2_with fail
  refine (few_any xs A c _ (HT.out.keep (.alloc _ _))).mono ?_
  rintro en W1 ⟨⟨v, ns, rfl, hot, hns⟩, hg⟩
  have hbx := (Blk.new w 24 (edCells e)).kept hg
  have HBX := Lib.hid hbx
  have s : FS1 w v zs W1 := ⟨only_trans (only_alloc (only_refl _ _) _) hg, by rw [← HZS.out, ← hns]; exact hot.tbl⟩
  clear hot hns hg hbx
  go_wp2_with (first | (go_at_call 9; go_must (refine (ocheck_any zs v _ s.tab HZ.out).mono ?_; rintro en W2 ⟨rfl, hg⟩; replace s := s.none_ hg; replace HBX := Lib.hid (HBX.out.kept hg); clear hg)) | (go_at_call 10; go_must (refine (rCheck_any zs v _ s.tab HZ.out).mono ?_; rintro en W3 ⟨rfl, hg⟩; replace s := s.none_ hg; replace HBX := Lib.hid (HBX.out.kept hg); have c0 : W3.cell? ⟨w.heap.size, 0, none⟩ = some (.int .i64 e.1) := HBX.out.cell 0; have c1 : W3.cell? ⟨w.heap.size, 1, none⟩ = some (.int .i64 e.2) := HBX.out.cell 1; clear hg)) | (go_at_call 11; go_must (refine (oJump_any zs v fr e _ s.tab HZ.out HE.out.1 HE.out.2).mono ?_; rintro en W4 ⟨rfl, hg⟩; replace s := s.none_ hg; replace HBX := Lib.hid (HBX.out.kept hg); clear c0 c1; have c0 : W4.cell? ⟨w.heap.size, 0, none⟩ = some (.int .i64 e.1) := HBX.out.cell 0; have c1 : W4.cell? ⟨w.heap.size, 1, none⟩ = some (.int .i64 e.2) := HBX.out.cell 1; clear hg)) | (go_at_call 12; go_must (refine (rJump_any zs v fr e _ s.tab HZ.out HE.out.1 HE.out.2).mono ?_; rintro en W5 ⟨rfl, hg⟩; replace s := s.none_ hg; clear hg)) | (go_at_call 13; go_must (refine (oworks_any _).mono ?_; rintro en W6 ⟨rfl, hg⟩; replace s := s.none_ hg; clear hg)))
  all_goals go_ret
  all_goals exact ⟨rfl, s.step⟩
end Go.Proofs.Ytablbgfleopbfaa

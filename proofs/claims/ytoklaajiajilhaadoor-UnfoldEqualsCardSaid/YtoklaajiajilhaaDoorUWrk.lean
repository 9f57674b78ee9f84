/- Stage 8's works, from the contracts. -/
import Derived.Test.YtoklaajiajilhaaDoorUCon
import Derived.Test.YtoklaajiajilhaaDoorRws
import Derived.Lib.Hide
import Derived.LoopTactic
import Derived.Deep.DeepMust
import Derived.Shelf.RegionOpen
namespace Go.Proofs.YtoklaajiajilhaaDoor
open Go.RowKit

abbrev uxs : List Nd := [⟨1, 3, false, (0, 0), [(1, 2)]⟩, ⟨2, 0, true, (2, 0), [(0, 0)]⟩, ⟨0, 0, false, (0, 0), []⟩]
theorem u_text {dig : Int → List UInt8} (h12 : dig 12 = [49, 50]) (h13 : dig 13 = [49, 51]) : textA dig uxs (0, 10) 2 = [33, 49, 51, 40, 119, 41, 91, 63, 49, 50, 40, 48, 41, 91, 46, 93, 93] := by
  have h : textA dig uxs (0, 10) 2 = [33] ++ (dig 13 ++ ([40, 119, 41, 91, 63] ++ ((dig 12 ++ [40, 48, 41, 91, 46, 93]) ++ [93]))) := by
    have : ∀ dig : Int → List UInt8, textA dig uxs (0, 10) 2 = [33] ++ (dig 13 ++ ([40, 119, 41, 91, 63] ++ ((dig 12 ++ [40, 48, 41, 91, 46, 93]) ++ [93]))) := fun dig => by kernel_rfl
    exact this dig
  rw [h, h12, h13]; rfl
theorem u_end (dig : Int → List UInt8) : textA dig uxs (2, 0) 3 = [48] := by kernel_rfl
theorem u_e1 : equalA uxs (0, 1) (0, 1) 9 = true := by kernel_rfl
theorem u_e2 : equalA uxs (0, 1) (0, 2) 1 = false := by kernel_rfl
theorem u_e3 : equalA uxs (0, 0) (2, 0) 0 = true := by kernel_rfl

set_option maxRecDepth 100000 in
set_option maxHeartbeats 2000000 in
theorem uworks_of {dig : Int → List UInt8} {L : World → Prop} (hU : UC dig L) (h12 : dig 12 = [49, 50]) (h13 : dig 13 = [49, 51]) (w : World) (hL : L w) : Calls Tryd.prog 10 #[] w fun e w' => e = .returned (.bool true) ∧ w.grownBy w' none := by
  have HU := Lib.hid hU
  have HL := Lib.hid hL
  have HX := Lib.hid (u_text h12 h13)
  clear hU hL h12 h13
  go_enter Tryd.func10, Tryd.ntmps10
  go_upto_region 2 with fail
  generalize hW1 : World.alloc _ _ = W1
  have hg0 : w.grownBy W1 none := by rw [← hW1]; exact only_alloc (only_alloc (only_alloc (only_refl _ _) _) _) _
  have hT : Tbl W1 (.slice (some ⟨w.heap.size + 1 + 1, 0, none⟩) 3 3) uxs := by
    have b1 : Blk W1 w.heap.size 36 (edCells (1, 2)) := by rw [← hW1]; exact ((Blk.new w _ _).alloc _).alloc _
    have b2 : Blk W1 (w.heap.size + 1) 36 (edCells (0, 0)) := by rw [← hW1]; exact (blk_at (by simp) _ _).alloc _
    have b3 : Blk W1 (w.heap.size + 1 + 1) 39 (ndAll [(⟨1, 3, false, (0, 0), [(1, 2)]⟩, .slice (some ⟨w.heap.size, 0, none⟩) 1 1), (⟨2, 0, true, (2, 0), [(0, 0)]⟩, .slice (some ⟨w.heap.size + 1, 0, none⟩) 1 1), (⟨0, 0, false, (0, 0), []⟩, .slice none 0 0)]).toArray := by rw [← hW1]; exact blk_at (by simp) _ _
    exact rows_tbl b3 (fun p hp => by
      simp only [List.mem_cons, List.not_mem_nil, or_false] at hp
      rcases hp with rfl | rfl | rfl
      · exact one_edge b1
      · exact one_edge b2
      · exact Edges.nil_ _)
  have HT := Lib.hid hT
  have HG := Lib.hid hg0
  clear hW1 hg0 hT
  go_wp2_with (first
    | (go_at_call 11; ((with_reducible refine (HU.out.text uxs _ (0, 10) 2 _ (HU.out.keep _ _ HL.out HG.out) HT.out (by decide) (inT_of (by decide) (by decide) (by decide) (by decide))).mono ?_); rw [HX.out]; rintro en W2 ⟨rfl, hg⟩; have HT2 := Lib.hid (HT.out.keep (.grown hg)); have HG2 := Lib.hid (only_trans HG.out hg); clear hg HT HG))
    | (go_at_call 11; ((with_reducible refine (HU.out.text uxs _ (2, 0) 3 _ (HU.out.keep _ _ HL.out HG2.out) HT2.out (by decide) (inT_of (by decide) (by decide) (by decide) (by decide))).mono ?_); rw [u_end]; rintro en W3 ⟨rfl, hg⟩; have HT3 := Lib.hid (HT2.out.keep (.grown hg)); have HG3 := Lib.hid (only_trans HG2.out hg); clear hg HT2 HG2))
    | (go_at_call 8; ((with_reducible refine (HU.out.equal uxs _ (0, 1) (0, 1) 9 _ (HU.out.keep _ _ HL.out HG3.out) HT3.out (by decide) (inT_of (by decide) (by decide) (by decide) (by decide)) (inT_of (by decide) (by decide) (by decide) (by decide))).mono ?_); rw [u_e1]; rintro en W4 ⟨rfl, hg⟩; have HT4 := Lib.hid (HT3.out.keep (.grown hg)); have HG4 := Lib.hid (only_trans HG3.out hg); clear hg HT3 HG3))
    | (go_at_call 8; ((with_reducible refine (HU.out.equal uxs _ (0, 1) (0, 2) 1 _ (HU.out.keep _ _ HL.out HG4.out) HT4.out (by decide) (inT_of (by decide) (by decide) (by decide) (by decide)) (inT_of (by decide) (by decide) (by decide) (by decide))).mono ?_); rw [u_e2]; rintro en W5 ⟨rfl, hg⟩; have HT5 := Lib.hid (HT4.out.keep (.grown hg)); have HG5 := Lib.hid (only_trans HG4.out hg); clear hg HT4 HG4))
    | (go_at_call 8; ((with_reducible refine (HU.out.equal uxs _ (0, 0) (2, 0) 0 _ (HU.out.keep _ _ HL.out HG5.out) HT5.out (by decide) (inT_of (by decide) (by decide) (by decide) (by decide)) (inT_of (by decide) (by decide) (by decide) (by decide))).mono ?_); rw [u_e3]; rintro en W6 ⟨rfl, hg⟩; have HG6 := Lib.hid (only_trans HG5.out hg); clear hg HT5 HG5))
    | fail)
  go_ret
  exact ⟨rfl, HG6.out⟩
end Go.Proofs.YtoklaajiajilhaaDoor

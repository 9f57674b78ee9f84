/- class: Type, Next, Pay: what each answers. -/
import Derived.Test.YtepjkoegbehojaaZCAt
import Derived.Deep.RegionHeld3
namespace Go.Proofs.Ytepjkoegbehojaa
open Go.RowKit Go.Shelf

set_option maxRecDepth 100000 in
set_option maxHeartbeats 2000000 in
theorem ctype_con : TypeC := by
  intro T tv x w hW hT b0 b1
  have HT := Lib.hid hT
  obtain ⟨vc, vo, vp, rfl, hC, hO, hP⟩ := hT
  obtain ⟨n, o⟩ := x
  dsimp only at b0 b1
  obtain ⟨A, cap, rfl, _⟩ := id hC
  obtain ⟨A3, c3, rfl, _⟩ := id hO
  obtain ⟨A4, c4, rfl, _⟩ := id hP
  have hs := hW.small
  have hoI : (T.of_.length : Int) ≤ 1000000 := by omega
  have hpI : (T.prio.length : Int) ≤ 1000000 := by have := hW.len; omega
  by_cases hn : 0 ≤ n ∧ n < (T.of_.length : Int)
  · have hb1 := Lib.hid (show cinB n (T.of_.length : Int) = true from decide_eq_true hn)
    have hb2 := Lib.hid (show cinB n (T.prio.length : Int) = true from decide_eq_true (by rw [hW.len]; exact hn))
    obtain ⟨hn0, hn1⟩ := hn
    obtain ⟨n, rfl⟩ : ∃ k : Nat, n = (k : Int) := ⟨n.toNat, by omega⟩
    obtain ⟨c, hc⟩ : ∃ c, T.of_[n]? = some c := ⟨_, List.getElem?_eq_getElem (by omega)⟩
    obtain ⟨p, hp⟩ : ∃ p, T.prio[n]? = some p := ⟨_, List.getElem?_eq_getElem (by rw [hW.len]; omega)⟩
    obtain ⟨h0, h1⟩ := hW.of_ c (List.mem_of_getElem? hc)
    obtain ⟨bo, oo, rfl, mo⟩ := ints_at hO hc
    obtain ⟨bp, op, rfl, mp⟩ := ints_at hP hp
    have hA : typeA T ((n : Int), o) = atA T c (wrap64 (p + o)) := by
      obtain ⟨c, rfl⟩ : ∃ k : Nat, c = (k : Int) := ⟨c.toNat, by omega⟩
      obtain ⟨y, hy⟩ : ∃ y, T.cls[c]? = some y := ⟨_, List.getElem?_eq_getElem (by omega)⟩
      unfold typeA atA
      rw [if_neg (by dsimp only; omega)]
      dsimp only
      rw [Int.toNat_natCast, List.getD_eq_getElem?_getD, List.getD_eq_getElem?_getD, hc, hp]
      simp only [Option.getD_some, kindC_at hy, nodeAt_nat, hy]
    rw [hA]
    obtain ⟨r, hr⟩ : ∃ r, atA T c (wrap64 (p + o)) = r := ⟨_, rfl⟩
    rw [hr]
    have HR : Hid (atA T c (IntKind.i64.wrap (p + o)) = r) := Lib.hid (by rw [IntWalk.i64_left]; exact hr)
    have HS := Lib.hid hs.1
    have hmp : (n : Int) < (T.prio.length : Int) := by have := hW.len; omega
    have hbo : bo < w.heap.size := cell_lt mo
    have hbp : bp < w.heap.size := cell_lt mp
    clear hC hO hP hW hA hs hc hp hr h0 h1
    go_enter Try.func13, Try.ntmps13
    go_upto_region 3 with (first | (go_at_call 36; with_reducible refine Calls.mono (cin_is hb1.out _) ?_; rintro e w' ⟨rfl, rfl⟩) | (go_at_call 36; with_reducible refine Calls.mono (cin_is hb2.out _) ?_; rintro e w' ⟨rfl, rfl⟩) | fail)
    generalize hW1 : World.alloc _ _ = W1
    have hg1 : w.grownBy W1 none := by rw [← hW1]; exact only_alloc (only_alloc (only_refl _ _) _) _
    have hbt : Blk W1 w.heap.size 27 #[.slice A T.cls.length cap, .slice (some ⟨bo, oo, none⟩) T.of_.length c3, .slice (some ⟨bp, op, none⟩) T.prio.length c4] := by rw [← hW1]; exact (Blk.new w _ _).alloc _
    have hbx : Blk W1 (w.heap.size + 1) 35 #[.int .i64 (n : Int), .int .i64 o] := by rw [← hW1]; exact blk_at (by simp) _ _
    have z0 := hbt.cell 0
    have z1 := hbt.cell 1
    have z2 := hbt.cell 2
    have x0 := hbx.cell 0
    have x1 := hbx.cell 1
    have d0 := Keeps.grown hg1 _ _ mo
    have d1 := Keeps.grown hg1 _ _ mp
    have HG1 := Lib.hid hg1
    have HT1 := Lib.hid (HT.out.keep (.grown hg1))
    clear hW1 hg1 hbt hbx mo mp HT
    go_cut [4, 5] from 6 to 41 (fun u v wx => u = .int .i64 r.1 ∧ v = .int .i64 r.2 ∧ W1.grownBy wx none)
    case first =>
      have s : W1.grownBy W1.drew none := only_drew (only_refl _ _)
      go_region_held3 (fun w' => w'.cell? ⟨w.heap.size, 0, none⟩ = some (.slice A T.cls.length cap) ∧ w'.cell? ⟨w.heap.size, 1, none⟩ = some (.slice (some ⟨bo, oo, none⟩) T.of_.length c3) ∧ w'.cell? ⟨w.heap.size, 2, none⟩ = some (.slice (some ⟨bp, op, none⟩) T.prio.length c4) ∧ w'.cell? ⟨w.heap.size + 1, 0, none⟩ = some (.int .i64 (n : Int)) ∧ w'.cell? ⟨w.heap.size + 1, 1, none⟩ = some (.int .i64 o) ∧ w'.cell? ⟨bo, oo + n, none⟩ = some (.int .i64 c) ∧ w'.cell? ⟨bp, op + n, none⟩ = some (.int .i64 p)) (exact ⟨Keeps.grown s _ _ z0, Keeps.grown s _ _ z1, Keeps.grown s _ _ z2, Keeps.grown s _ _ x0, Keeps.grown s _ _ x1, Keeps.grown s _ _ d0, Keeps.grown s _ _ d1⟩) ((go_at_call 37; (with_reducible refine Calls.mono (cat_is HR.out (HT1.out.keep (.grown s)) HS.out) ?_; rintro e W8 ⟨rfl, hs⟩); replace s := only_trans s hs; clear hs))
      all_goals go_wp2_with fail
      all_goals go_meet
      all_goals exact ⟨rfl, rfl, s⟩
    case rest =>
      obtain ⟨rfl, rfl, hg⟩ := hcut
      have HG2 := Lib.hid (only_trans HG1.out hg)
      clear hg
      go_wp2_with fail
      go_ret2
      exact ⟨rfl, HG2.out⟩
  · have hb1 := Lib.hid (show cinB n (T.of_.length : Int) = false from decide_eq_false hn)
    have hA : typeA T (n, o) = (-1, 0) := by unfold typeA; rw [if_pos (by dsimp only; omega)]
    rw [hA]
    clear hC hO hP hW hA hs hn
    go_enter Try.func13, Try.ntmps13
    go_wp2_with (go_at_call 36; with_reducible refine Calls.mono (cin_is hb1.out _) ?_; rintro e w' ⟨rfl, rfl⟩)
    go_ret2
    exact ⟨rfl, only_alloc (only_alloc (only_refl _ _) _) _⟩

end Go.Proofs.Ytepjkoegbehojaa

/- The statements' works. -/
import Derived.Test.YtgdoklbcmgkllaaBCut
import Derived.Test.YtgdoklbcmgkllaaBInt
import Derived.Test.YtgdoklbcmgkllaaBArg
namespace Go.Proofs.Ytgdoklbcmgkllaa
open Go.RowKit

/-- Instructions' cells, one behind the other. -/
def insL (xs : List (Int × Sg)) : List Value := xs.flatMap fun y => (y.2.cells y.1).toList
theorem sg_size (op : Int) (s : Sg) : (s.cells op).toList.length = 6 := rfl
theorem insL_at : ∀ (xs : List (Int × Sg)) (i j : Nat) (y : Int × Sg) (u : Value), xs[i]? = some y → (y.2.cells y.1)[j]? = some u → (insL xs)[i * 6 + j]? = some u
  | [], i, j, y, u, h, _ => by simp at h
  | x :: xs, 0, j, y, u, h, hu => by
    simp at h
    subst h
    have hj : j < 6 := by
      have := (Array.getElem?_eq_some_iff.1 hu).1
      simpa [Sg.cells] using this
    unfold insL
    rw [List.flatMap_cons, Nat.zero_mul, Nat.zero_add, List.getElem?_append_left (by rw [sg_size]; exact hj), Array.getElem?_toList]
    exact hu
  | x :: xs, i + 1, j, y, u, h, hu => by
    have h2 : xs[i]? = some y := by simpa using h
    have := insL_at xs i j y u h2 hu
    unfold insL at this ⊢
    rw [List.flatMap_cons, List.getElem?_append_right (by rw [sg_size]; omega), sg_size]
    have e : (i + 1) * 6 + j - 6 = i * 6 + j := by omega
    rw [e]
    exact this
theorem codeA_blk {W : World} {b c n : Nat} {xs : List (Int × Sg)} {cells : Array Value} (hb : Blk W b 43 cells) (hc : cells = (insL xs).toArray) (hn : n = xs.length) (hl : xs.length ≤ 1000000) (hI : ∀ y ∈ xs, IntsA (fun k => k < W.heap.size) W y.2.lv y.2.l) : CodeA W (.slice (some ⟨b, 0, none⟩) n c) (biL xs) := by
  subst hn
  refine ⟨some ⟨b, 0, none⟩, c, by simp [biL], by simp [biL]; omega, fun _ => ⟨b, 0, rfl, hb.lt, fun i x hx => ?_⟩⟩
  unfold biL at hx
  rw [List.getElem?_map] at hx
  obtain ⟨y, hy, rfl⟩ := Option.map_eq_some_iff.1 hx
  refine ⟨y.2, rfl, hI y (List.mem_of_getElem? hy), fun j u hu => ?_⟩
  have := insL_at xs i j y u hy hu
  rw [Nat.zero_add, hb.cell, hc, List.getElem?_toArray]
  exact this
theorem ints_none (S : Nat → Prop) (W : World) : IntsA S W (.slice none 0 0) [] := ⟨none, 0, rfl, fun h => absurd rfl h⟩
theorem ints_blk {W : World} {b c n : Nat} {zs : List Int} {cells : Array Value} (hb : Blk W b 3 cells) (hc : cells = (zsV zs).toArray) (hn : n = zs.length) : IntsA (fun k => k < W.heap.size) W (.slice (some ⟨b, 0, none⟩) n c) zs := by
  subst hn
  refine ⟨_, _, rfl, fun _ => ⟨b, 0, rfl, hb.lt, fun i z hz => ?_⟩⟩
  rw [Nat.zero_add, hb.cell, hc, List.getElem?_toArray]
  unfold zsV
  rw [List.getElem?_map, hz]
  rfl
abbrev sg0 : Sg := ⟨0, 0, 0, 0, .slice none 0 0, []⟩
theorem IB.slice {W : World} {v : Value} {zs : List Int} (h : IB W v zs) {n : Nat} (hn : zs.length = n) : ∃ A c, v = .slice A n c ∧ IB W (.slice A n c) zs := by
  subst hn
  obtain ⟨A, c, rfl, h2⟩ := h
  exact ⟨A, c, rfl, A, c, rfl, h2⟩
theorem NX.slice {W : World} {v : Value} {nx : List (List Int)} (h : NX W v nx) {n : Nat} (hn : nx.length = n) : ∃ A c, v = .slice A n c ∧ NX W (.slice A n c) nx := by
  subst hn
  obtain ⟨A, c, rfl, h2⟩ := h
  exact ⟨A, c, rfl, A, c, rfl, h2⟩
theorem cut_w1 : cutA [(12, [2]), (24, []), (24, [])] = (([0, 1, 2], [[2, 1], [], []]), -1, 0) := by decide
theorem cut_w2 : cutA [(0, []), (11, [0])] = (([], []), 0, 14) := by decide
theorem works1 (w : World) : Calls Try.prog 4 #[.slice (some ⟨w.heap.size + 1, 0, none⟩) 3 3] ((w.alloc (.cells #[.int .i64 2] 3)).alloc (.cells #[.int .i64 12, .int .i64 0, .int .i64 0, .int .i64 0, .int .i64 0, .slice (some ⟨w.heap.size, 0, none⟩) 1 1, .int .i64 24, .int .i64 0, .int .i64 0, .int .i64 0, .int .i64 0, .slice none 0 0, .int .i64 24, .int .i64 0, .int .i64 0, .int .i64 0, .int .i64 0, .slice none 0 0] 43)) (CutR [(12, [2]), (24, []), (24, [])] ((w.alloc (.cells #[.int .i64 2] 3)).alloc (.cells #[.int .i64 12, .int .i64 0, .int .i64 0, .int .i64 0, .int .i64 0, .slice (some ⟨w.heap.size, 0, none⟩) 1 1, .int .i64 24, .int .i64 0, .int .i64 0, .int .i64 0, .int .i64 0, .slice none 0 0, .int .i64 24, .int .i64 0, .int .i64 0, .int .i64 0, .int .i64 0, .slice none 0 0] 43))) := by
  have hb1 : Blk ((w.alloc (.cells #[.int .i64 2] 3)).alloc (.cells #[.int .i64 12, .int .i64 0, .int .i64 0, .int .i64 0, .int .i64 0, .slice (some ⟨w.heap.size, 0, none⟩) 1 1, .int .i64 24, .int .i64 0, .int .i64 0, .int .i64 0, .int .i64 0, .slice none 0 0, .int .i64 24, .int .i64 0, .int .i64 0, .int .i64 0, .int .i64 0, .slice none 0 0] 43)) w.heap.size 3 #[.int .i64 2] := (Blk.new _ _ _).alloc _
  have hc1 := codeA_blk (xs := [(12, ⟨0, 0, 0, 0, .slice (some ⟨w.heap.size, 0, none⟩) 1 1, [2]⟩), (24, sg0), (24, sg0)]) (b := w.heap.size + 1) (c := 3) (n := 3) (blk_atB (W := w.alloc (.cells #[.int .i64 2] 3)) (g := w.heap.size + 1) (by simp) 43 #[.int .i64 12, .int .i64 0, .int .i64 0, .int .i64 0, .int .i64 0, .slice (some ⟨w.heap.size, 0, none⟩) 1 1, .int .i64 24, .int .i64 0, .int .i64 0, .int .i64 0, .int .i64 0, .slice none 0 0, .int .i64 24, .int .i64 0, .int .i64 0, .int .i64 0, .int .i64 0, .slice none 0 0]) rfl rfl (by simp) (by
    intro y hy
    simp only [List.mem_cons, List.not_mem_nil, or_false] at hy
    rcases hy with rfl | rfl | rfl
    · exact ints_blk hb1 rfl rfl
    · exact ints_none _ _
    · exact ints_none _ _)
  exact blCut_any [(12, [2]), (24, []), (24, [])] _ _ hc1 (by decide)
theorem works2 (w : World) : Calls Try.prog 4 #[.slice (some ⟨w.heap.size + 1, 0, none⟩) 2 2] ((w.alloc (.cells #[.int .i64 0] 3)).alloc (.cells #[.int .i64 0, .int .i64 0, .int .i64 0, .int .i64 0, .int .i64 0, .slice none 0 0, .int .i64 11, .int .i64 0, .int .i64 0, .int .i64 0, .int .i64 0, .slice (some ⟨w.heap.size, 0, none⟩) 1 1] 43)) (CutR [(0, []), (11, [0])] ((w.alloc (.cells #[.int .i64 0] 3)).alloc (.cells #[.int .i64 0, .int .i64 0, .int .i64 0, .int .i64 0, .int .i64 0, .slice none 0 0, .int .i64 11, .int .i64 0, .int .i64 0, .int .i64 0, .int .i64 0, .slice (some ⟨w.heap.size, 0, none⟩) 1 1] 43))) := by
  have hb1 : Blk ((w.alloc (.cells #[.int .i64 0] 3)).alloc (.cells #[.int .i64 0, .int .i64 0, .int .i64 0, .int .i64 0, .int .i64 0, .slice none 0 0, .int .i64 11, .int .i64 0, .int .i64 0, .int .i64 0, .int .i64 0, .slice (some ⟨w.heap.size, 0, none⟩) 1 1] 43)) w.heap.size 3 #[.int .i64 0] := (Blk.new _ _ _).alloc _
  have hc1 := codeA_blk (xs := [(0, sg0), (11, ⟨0, 0, 0, 0, .slice (some ⟨w.heap.size, 0, none⟩) 1 1, [0]⟩)]) (b := w.heap.size + 1) (c := 2) (n := 2) (blk_atB (W := w.alloc (.cells #[.int .i64 0] 3)) (g := w.heap.size + 1) (by simp) 43 #[.int .i64 0, .int .i64 0, .int .i64 0, .int .i64 0, .int .i64 0, .slice none 0 0, .int .i64 11, .int .i64 0, .int .i64 0, .int .i64 0, .int .i64 0, .slice (some ⟨w.heap.size, 0, none⟩) 1 1]) rfl rfl (by simp) (by
    intro y hy
    simp only [List.mem_cons, List.not_mem_nil, or_false] at hy
    rcases hy with rfl | rfl
    · exact ints_none _ _
    · exact ints_blk hb1 rfl rfl)
  exact blCut_any [(0, []), (11, [0])] _ _ hc1 (by decide)
set_option maxRecDepth 100000 in
set_option maxHeartbeats 4000000 in
theorem works_any (w : World) : Calls Try.prog 8 #[] w fun e w' => e = .returned (.bool true) ∧ w.grownBy w' none := by
  have hct := works1 w
  unfold CutR at hct
  rw [cut_w1] at hct
  have HG1 : Hid (w.grownBy ((w.alloc (.cells #[.int .i64 2] 3)).alloc (.cells #[.int .i64 12, .int .i64 0, .int .i64 0, .int .i64 0, .int .i64 0, .slice (some ⟨w.heap.size, 0, none⟩) 1 1, .int .i64 24, .int .i64 0, .int .i64 0, .int .i64 0, .int .i64 0, .slice none 0 0, .int .i64 24, .int .i64 0, .int .i64 0, .int .i64 0, .int .i64 0, .slice none 0 0] 43)) none) := only_alloc (only_alloc (only_refl _ _) _) _
  go_enter Try.func8, Try.ntmps8
  go_wp2_with fail
  refine hct.mono ?_
  rintro e w2 ⟨fv, rfl, ⟨sv, nv, rfl, hs, hnx⟩, hg2⟩
  have hs0 : IB w2 sv [0, 1, 2] := hs
  have hnx0 : NX w2 nv [[2, 1], [], []] := hnx
  clear hs hnx
  obtain ⟨A1, c1, rfl, hs⟩ := hs0.slice (n := 3) rfl
  obtain ⟨A2, c2, rfl, hnx⟩ := hnx0.slice (n := 3) rfl
  clear hs0 hnx0
  have hg3 : w2.grownBy (w2.alloc (.cells #[.slice A1 3 c1, .slice A2 3 c2] 27)) none := only_alloc (only_refl _ _) _
  have hb3 : Blk (w2.alloc (.cells #[.slice A1 3 c1, .slice A2 3 c2] 27)) w2.heap.size 27 #[.slice A1 3 c1, .slice A2 3 c2] := Blk.new _ _ _
  have HG3 := Lib.hid (only_trans (only_trans HG1.out hg2) hg3)
  have HB3 := Lib.hid hb3
  have HS3 := Lib.hid (hs.kept hg3)
  have HN3 := Lib.hid (hnx.kept hg3)
  clear hct HG1 hg2 hg3 hb3 hs hnx
  go_upto_region 2 with fail
  generalize (w2.alloc (.cells #[.slice A1 3 c1, .slice A2 3 c2] 27)) = w3 at *
  have hct := works2 w3
  unfold CutR at hct
  rw [cut_w2] at hct
  have HG4 : Hid (w3.grownBy ((w3.alloc (.cells #[.int .i64 0] 3)).alloc (.cells #[.int .i64 0, .int .i64 0, .int .i64 0, .int .i64 0, .int .i64 0, .slice none 0 0, .int .i64 11, .int .i64 0, .int .i64 0, .int .i64 0, .int .i64 0, .slice (some ⟨w3.heap.size, 0, none⟩) 1 1] 43)) none) := only_alloc (only_alloc (only_refl _ _) _) _
  go_wp2_with fail
  refine hct.mono ?_
  rintro e w4 ⟨fv, rfl, ⟨sv, nv, rfl, hs, hnx⟩, hg2⟩
  obtain ⟨A3, c3, rfl, _⟩ := IB.slice (zs := []) hs (n := 0) rfl
  obtain ⟨A4, c4, rfl, _⟩ := NX.slice (nx := []) hnx (n := 0) rfl
  have hg5 : w3.grownBy (w4.alloc (.cells #[.slice A3 0 c3, .slice A4 0 c4] 27)) none := only_alloc (only_trans HG4.out hg2) _
  have HG5 := Lib.hid (only_trans HG3.out hg5)
  have HB5 := Lib.hid (HB3.out.kept hg5)
  have HS5 := Lib.hid (HS3.out.kept hg5)
  have HN5 := Lib.hid (HN3.out.kept hg5)
  clear hct HG3 HG4 HB3 HS3 HN3 hg2 hg5 hs hnx
  go_upto_region 3 with fail
  generalize (w4.alloc (.cells #[.slice A3 0 c3, .slice A4 0 c4] 27)) = w5 at *
  generalize w2.heap.size = Bf at *
  have d0 : w5.cell? ⟨Bf, 0, none⟩ = some (.slice A1 3 c1) := HB5.out.cell 0
  have hbl : Bf < w5.heap.size := cell_ltB d0
  have hi1 := bints_any [0, 1, 2] [0, 1, 2] _ (.slice (some ⟨w5.heap.size, 0, none⟩) 3 3) _ _ (w5.alloc (.cells #[.int .i64 0, .int .i64 1, .int .i64 2] 3)) (HS5.out.kept (only_alloc (only_refl _ _) _)).ints (ints_blk (Blk.new _ _ _) rfl rfl) (by decide)
  rw [show decide (([0, 1, 2] : List Int) = [0, 1, 2]) = true by decide] at hi1
  go_wp2_with fail
  refine hi1.mono ?_
  rintro e w7 ⟨rfl, hg7⟩
  have hg8 : w5.grownBy w7 none := only_trans (only_alloc (only_refl _ _) _) hg7
  have HG7 := Lib.hid (only_trans HG5.out hg8)
  have HB7 := Lib.hid (HB5.out.kept hg8)
  have hn7 := HN5.out.kept hg8
  obtain ⟨b2, o2, A5, c5, rfl, k0, hib⟩ := hn7.at_ (i := 0) (l := [2, 1]) rfl
  obtain ⟨b2', o2', A6, c6, e2, k1, _⟩ := hn7.at_ (i := 1) (l := []) rfl
  injection e2 with e2
  injection e2 with e2 e3
  subst e2
  subst e3
  have k0 : w7.cell? ⟨b2, o2, none⟩ = some (.slice A5 2 c5) := k0
  have d1 : w7.cell? ⟨Bf, 1, none⟩ = some (.slice (some ⟨b2, o2, none⟩) 3 c2) := HB7.out.cell 1
  have hb2 := cell_ltB k0
  have hb3 : Bf < w7.heap.size := cell_ltB d1
  have HK1 := Lib.hid k1
  have hi2 := bints_any [2, 1] [2, 1] _ (.slice (some ⟨w7.heap.size, 0, none⟩) 2 2) _ _ (w7.alloc (.cells #[.int .i64 2, .int .i64 1] 3)) (hib.kept (only_alloc (only_refl _ _) _)).ints (ints_blk (Blk.new _ _ _) rfl rfl) (by decide)
  rw [show decide (([2, 1] : List Int) = [2, 1]) = true by decide] at hi2
  clear hi1 hg7 hg8 hn7 k1 hib
  go_wp2_with fail
  refine hi2.mono ?_
  rintro e w8 ⟨rfl, hg8⟩
  have hg9 : w7.grownBy w8 none := only_trans (only_alloc (only_refl _ _) _) hg8
  have HG9 := Lib.hid (only_trans HG7.out hg9)
  have d1 : w8.cell? ⟨Bf, 1, none⟩ = some (.slice (some ⟨b2, o2, none⟩) 3 c2) := (HB7.out.kept hg9).cell 1
  have k1 : w8.cell? ⟨b2, o2 + 1, none⟩ = some (.slice A6 0 c6) := cell_row HK1.out hg9 (fun e => by cases e)
  clear hi2 hg8 hg9 k0 HK1
  go_wp2_with fail
  have ht1 : ∀ w, Calls Try.prog 17 #[.int .i64 17] w fun e w' => e = .returned (.bool true) ∧ w.grownBy w' none := fun w => blTalks_any 17 w
  have ht2 : ∀ w, Calls Try.prog 17 #[.int .i64 20] w fun e w' => e = .returned (.bool false) ∧ w.grownBy w' none := fun w => blTalks_any 20 w
  refine (ht1 _).mono ?_
  rintro e w9 ⟨rfl, hga⟩
  go_wp2_with fail
  refine (ht2 _).mono ?_
  rintro e w10 ⟨rfl, hgb⟩
  have HG10 := Lib.hid (only_trans (only_trans HG9.out hga) hgb)
  clear ht1 ht2
  go_wp2_with fail
  go_ret
  exact ⟨rfl, HG10.out⟩
end Go.Proofs.Ytgdoklbcmgkllaa

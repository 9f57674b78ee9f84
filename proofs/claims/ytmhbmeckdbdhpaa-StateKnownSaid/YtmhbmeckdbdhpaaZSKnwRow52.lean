/- Texts joined for the claim's sake: SKnw. -/
import Derived.Test.YtmhbmeckdbdhpaaZSKnwRow50
import Derived.Test.YtmhbmeckdbdhpaaZSKnwRow51
import Derived.Deep.CutBlock
import Derived.Deep.CutRange
namespace Go.Proofs.Ytmhbmeckdbdhpaa
open Go.RowKit Go.Shelf

/-- The example's rows, as they are turned; the module, in a box. -/
structure KnB (w : World) (be bn bp bt bm : Nat) (ce cp ct : Array Value) (W : World) : Prop where
  gr : w.grownBy W none
  lo : w.heap.size ≤ be ∧ be < bn ∧ bn < bp ∧ bp < bt ∧ bt < bm
  e : Blk W be 67 ce
  n : Blk W bn 70 #[.int .i64 1, .int .i64 3, .bool false, .int .i64 0, .int .i64 0, .slice (some ⟨be, 0, none⟩) 1 1, .int .i64 0, .int .i64 0, .bool false, .int .i64 0, .int .i64 0, NL]
  p : Blk W bp 61 cp
  t : Blk W bt 65 ct
  m : Blk W bm 28 #[.slice (some ⟨bn, 0, none⟩) 2 2, .slice (some ⟨bt, 0, none⟩) 1 1, NL, NL, NL, NL, NL, NL]
section
variable {w W W' : World} {be bn bp bt bm : Nat} {ce cp ct : Array Value}
theorem KnB.kept (h : KnB w be bn bp bt bm ce cp ct W) (hg : W.grownBy W' none) : KnB w be bn bp bt bm ce cp ct W' := ⟨only_trans h.gr hg, h.lo, h.e.kept hg, h.n.kept hg, h.p.kept hg, h.t.kept hg, h.m.kept hg⟩
theorem KnB.putp (h : KnB w be bn bp bt bm ce cp ct W) (k : Nat) (u : Value) : KnB w be bn bp bt bm ce (cp.setIfInBounds k u) ct (W.setCell ⟨bp, k, none⟩ u) := by
  have lo := h.lo
  exact ⟨only_setNew h.gr (by dsimp only; omega) _, h.lo, h.e.far (p := ⟨bp, k, none⟩) (by dsimp only; omega) _, h.n.far (p := ⟨bp, k, none⟩) (by dsimp only; omega) _, h.p.set_ k u, h.t.far (p := ⟨bp, k, none⟩) (by dsimp only; omega) _, h.m.far (p := ⟨bp, k, none⟩) (by dsimp only; omega) _⟩
theorem KnB.putt (h : KnB w be bn bp bt bm ce cp ct W) (k : Nat) (u : Value) : KnB w be bn bp bt bm ce cp (ct.setIfInBounds k u) (W.setCell ⟨bt, k, none⟩ u) := by
  have lo := h.lo
  exact ⟨only_setNew h.gr (by dsimp only; omega) _, h.lo, h.e.far (p := ⟨bt, k, none⟩) (by dsimp only; omega) _, h.n.far (p := ⟨bt, k, none⟩) (by dsimp only; omega) _, h.p.far (p := ⟨bt, k, none⟩) (by dsimp only; omega) _, h.t.set_ k u, h.m.far (p := ⟨bt, k, none⟩) (by dsimp only; omega) _⟩
theorem KnB.pute (h : KnB w be bn bp bt bm ce cp ct W) (k : Nat) (u : Value) : KnB w be bn bp bt bm (ce.setIfInBounds k u) cp ct (W.setCell ⟨be, k, none⟩ u) := by
  have lo := h.lo
  exact ⟨only_setNew h.gr (by dsimp only; omega) _, h.lo, h.e.set_ k u, h.n.far (p := ⟨be, k, none⟩) (by dsimp only; omega) _, h.p.far (p := ⟨be, k, none⟩) (by dsimp only; omega) _, h.t.far (p := ⟨be, k, none⟩) (by dsimp only; omega) _, h.m.far (p := ⟨be, k, none⟩) (by dsimp only; omega) _⟩
end
abbrev prs3 (n : Int) : List Prm := [⟨false, (0, 0)⟩, ⟨true, (n, 4)⟩, ⟨true, (1, 0)⟩]
abbrev cps3 (n : Int) : Array Value := #[.bool false, .int .i64 0, .int .i64 0, .bool true, .int .i64 n, .int .i64 4, .bool true, .int .i64 1, .int .i64 0]
abbrev exBad : List Nd := [⟨1, 3, false, (0, 0), [(0, 0)]⟩, ⟨0, 0, false, (0, 0), []⟩]
abbrev zP : Prm := ⟨false, (0, 0)⟩
theorem kn_1 : (factsA exN13 [prs3 2]).1 = 2 := by kernel_rfl
theorem kn_2 : (factsA exN13 [prs3 (-1)]).1 = 2 := by kernel_rfl
theorem kn_3 : (factsA exN13 [List.replicate 9 zP]).1 = 2 := by kernel_rfl
theorem kn_4 : (factsA exN13 [List.replicate 8 zP]).1 = 0 := by kernel_rfl
theorem kn_5 : (factsA exBad [List.replicate 8 zP]).1 = 10 := by kernel_rfl
theorem zeros_prm {W : World} {b n : Nat} {cs : Array Value} (hb : Blk W b 61 cs) (hn : n ≤ 1000) (hc : ∀ i, i < n → cs[i * 3]? = some (.bool false) ∧ cs[i * 3 + 1]? = some (.int .i64 0) ∧ cs[i * 3 + 2]? = some (.int .i64 0)) : PrmsV W (.slice (some ⟨b, 0, none⟩) n n) (List.replicate n zP) := by
  refine ⟨_, n, by rw [List.length_replicate], by rw [List.length_replicate]; exact Nat.le_refl _, by omega, fun _ => ⟨b, 0, rfl, fun i p hp => ?_⟩⟩
  rw [List.getElem?_replicate] at hp
  split at hp
  · rename_i hi
    cases hp
    obtain ⟨h1, h2, h3⟩ := hc i hi
    refine ⟨by unfold Prm.Fit; decide, ?_, ?_, ?_⟩
    · rw [Nat.zero_add]; exact (hb.cell _).trans h1
    · rw [Nat.zero_add]; exact (hb.cell _).trans h2
    · rw [Nat.zero_add]; exact (hb.cell _).trans h3
  · cases hp
def zPrm (n : Nat) : Array Value := ((List.replicate n [Value.bool false, .int .i64 0, .int .i64 0]).flatMap id).toArray
theorem make_9 (W : World) : (Instr.makeSlice 62 (.int .i64 9) (.int .i64 9)).run Try.prog W = .ok (.slice (some ⟨W.heap.size, 0, none⟩) 9 9) (W.alloc (.cells (zPrm 9) 61)) := by kernel_rfl
theorem make_8 (W : World) : (Instr.makeSlice 62 (.int .i64 8) (.int .i64 8)).run Try.prog W = .ok (.slice (some ⟨W.heap.size, 0, none⟩) 8 8) (W.alloc (.cells (zPrm 8) 61)) := by kernel_rfl
theorem zPrm_9 : ∀ i, i < 9 → (zPrm 9)[i * 3]? = some (.bool false) ∧ (zPrm 9)[i * 3 + 1]? = some (.int .i64 0) ∧ (zPrm 9)[i * 3 + 2]? = some (.int .i64 0) := fun i hi => by
  have h : i = 0 ∨ i = 1 ∨ i = 2 ∨ i = 3 ∨ i = 4 ∨ i = 5 ∨ i = 6 ∨ i = 7 ∨ i = 8 := by omega
  rcases h with rfl | rfl | rfl | rfl | rfl | rfl | rfl | rfl | rfl <;> exact ⟨rfl, rfl, rfl⟩
theorem zPrm_8 : ∀ i, i < 8 → (zPrm 8)[i * 3]? = some (.bool false) ∧ (zPrm 8)[i * 3 + 1]? = some (.int .i64 0) ∧ (zPrm 8)[i * 3 + 2]? = some (.int .i64 0) := fun i hi => by
  have h : i = 0 ∨ i = 1 ∨ i = 2 ∨ i = 3 ∨ i = 4 ∨ i = 5 ∨ i = 6 ∨ i = 7 := by omega
  rcases h with rfl | rfl | rfl | rfl | rfl | rfl | rfl | rfl <;> exact ⟨rfl, rfl, rfl⟩
abbrev kt0 : StT := zeroT
abbrev kt1 : StT := ⟨0, 0, [zeroS, zeroS, zeroS, ⟨2, 0, 9⟩] ++ List.replicate 12 zeroS⟩
abbrev kt2 : StT := ⟨0, 0, [zeroS, zeroS, zeroS, ⟨2, 0, 9⟩, zeroS, ⟨2, 0, 4⟩] ++ List.replicate 10 zeroS⟩
abbrev kt3 : StT := ⟨0, 0, [zeroS, zeroS, zeroS, ⟨2, 0, 9⟩, zeroS, ⟨2, 0, 4⟩, ⟨2, 1, 0⟩] ++ List.replicate 9 zeroS⟩
abbrev kt4 : StT := ⟨0, 0, [zeroS, zeroS, zeroS, ⟨2, 0, 9⟩, zeroS, ⟨2, 0, 4⟩, ⟨2, 1, 0⟩, ⟨1, 0, 1⟩] ++ List.replicate 8 zeroS⟩
abbrev kl1 : StT := ⟨-3, 0, [zeroS, zeroS, zeroS, ⟨2, 0, 9⟩, zeroS, ⟨2, 0, 4⟩, ⟨2, 1, 0⟩, ⟨1, 0, 1⟩] ++ List.replicate 8 zeroS⟩
abbrev kl2 : StT := ⟨-3, 0, [zeroS, zeroS, zeroS, ⟨2, 0, 6⟩, zeroS, ⟨2, 0, 4⟩, ⟨2, 1, 0⟩, ⟨1, 0, 1⟩] ++ List.replicate 8 zeroS⟩
abbrev kl3 : StT := ⟨-3, 0, [zeroS, zeroS, zeroS, ⟨2, 0, 6⟩, zeroS, ⟨2, 0, 1⟩, ⟨2, 1, 0⟩, ⟨1, 0, 1⟩] ++ List.replicate 8 zeroS⟩
abbrev ktR : StT := ⟨4, 0, [zeroS, zeroS, zeroS, ⟨2, 0, 9⟩, zeroS, ⟨2, 0, 4⟩, ⟨2, 1, 0⟩, ⟨1, 0, 1⟩] ++ List.replicate 8 zeroS⟩
theorem kn_l : leastA (clsT exN13).cls kt4 = some 4 := by kernel_rfl
theorem kn_s : shiftA (clsT exN13).cls kt4 kl3 = (-3, true) := by kernel_rfl
theorem kn_r : raiseA (clsT exN13).cls kt4 = ktR := by kernel_rfl
theorem kn_e1 : entryA (clsT exN13).cls [exS13] 1 = zeroT := by kernel_rfl
theorem kn_e2 : entryA (clsT exN13).cls [exS13] (-1) = zeroT := by kernel_rfl
theorem kn_b1 : busyB (clsT exN13).cls ⟨1, 0, 0⟩ = false := by kernel_rfl
theorem kn_b2 : busyB (clsT exN13).cls ⟨2, 1, 0⟩ = false := by kernel_rfl
theorem kn_b3 : busyB (clsT exN13).cls ⟨2, 3, 0⟩ = false := by kernel_rfl
theorem kn_b4 : busyB (clsT exN13).cls ⟨2, -1, 0⟩ = false := by kernel_rfl
theorem kn_b5 : busyB (clsT exN13).cls ⟨2, 2, 0⟩ = true := by kernel_rfl
theorem kn_f (W : World) : (Instr.field 45 (stV ktR) 0).run Try.prog W = .ok (.int .i64 4) W := by kernel_rfl
theorem ks_z : decide (zeroT = zeroT) = true := decide_eq_true rfl
set_option maxRecDepth 100000 in
set_option maxHeartbeats 4000000 in
theorem sknw_any (w : World) : Calls Try.prog 5 #[] w fun e w' => e = .returned (.bool true) ∧ w.grownBy w' none := by
  go_enter Try.func5, Try.ntmps5
  go_upto_region 2 with (first
    | (go_at_call 21; go_must (refine (example_any _).mono ?_; rintro e w1 ⟨be, bn, bp, bt, rfl, hx, hg, hl⟩; have HX := Lib.hid hx; have HG1 := Lib.hid hg; have HL1 := Lib.hid hl; have hbt : bt < w1.heap.size := hx.t.lt; clear hx hg hl))
    | fail)
  obtain ⟨W2, hW2⟩ : ∃ W2, w1.alloc (.cells #[.slice (some ⟨bn, 0, none⟩) 2 2, .slice (some ⟨bt, 0, none⟩) 1 1, NL, NL, NL, NL, NL, NL] 28) = W2 := ⟨_, rfl⟩
  obtain ⟨bm, hbm⟩ : ∃ bm, w1.heap.size = bm := ⟨_, rfl⟩
  have hg2 : w1.grownBy W2 none := by rw [← hW2]; exact only_alloc (only_refl _ _) _
  have HK2 : Hid (KnB w be bn bp bt bm #[.int .i64 1, .int .i64 0] (cps3 0) #[.slice (some ⟨bp, 0, none⟩) 3 3, NL, NL] W2) := Lib.hid ⟨only_trans HG1.out hg2, by have := HL1.out; omega, HX.out.e.kept hg2, HX.out.n.kept hg2, HX.out.p.kept hg2, HX.out.t.kept hg2, by rw [← hW2, ← hbm]; exact Blk.new _ _ _⟩
  rw [hW2, hbm]
  clear hW2 hbm hg2 hbt HX HG1 HL1
  have m1 := HK2.out.m.cell 1
  have t0 := HK2.out.t.cell 0
  have p4 := HK2.out.p.cell 4
  have f4 := HK2.out.p.frozen 4
  have HK3 := Lib.hid (HK2.out.putp 4 (.int .i64 2))
  go_upto_region 3 with fail
  clear m1 t0 p4 f4 HK2
  generalize (World.setCell _ _ _) = W3 at *
  have m0 : W3.cell? ⟨bm, 0, none⟩ = some (.slice (some ⟨bn, 0, none⟩) 2 2) := HK3.out.m.cell 0
  have m1 : W3.cell? ⟨bm, 1, none⟩ = some (.slice (some ⟨bt, 0, none⟩) 1 1) := HK3.out.m.cell 1
  have m2 : W3.cell? ⟨bm, 2, none⟩ = some (.slice none 0 0) := HK3.out.m.cell 2
  have m3 : W3.cell? ⟨bm, 3, none⟩ = some (.slice none 0 0) := HK3.out.m.cell 3
  have m4 : W3.cell? ⟨bm, 4, none⟩ = some (.slice none 0 0) := HK3.out.m.cell 4
  have m5 : W3.cell? ⟨bm, 5, none⟩ = some (.slice none 0 0) := HK3.out.m.cell 5
  have m6 : W3.cell? ⟨bm, 6, none⟩ = some (.slice none 0 0) := HK3.out.m.cell 6
  have m7 : W3.cell? ⟨bm, 7, none⟩ = some (.slice none 0 0) := HK3.out.m.cell 7
  go_upto_region 4 with (first
    | (go_at_call 7; go_must (refine (sfacts_any exN13 [prs3 2] (.slice (some ⟨bn, 0, none⟩) 2 2) (.slice (some ⟨bt, 0, none⟩) 1 1) NL NL NL NL NL NL _ (nodes_tbl (e := (1, 0)) HK3.out.n HK3.out.e) (tpl_one HK3.out.t (prm_three (x := (2, 4)) (by decide) HK3.out.p)) (by decide) (by decide) (by decide)).mono ?_; rw [kn_1]; rintro e V3 ⟨⟨fv, rfl, hf⟩, hg⟩; have HV3 := Lib.hid (HK3.out.kept hg); obtain ⟨A1, n1, c1, A2, n2, c2, A3, n3, c3, A4, n4, c4, rfl⟩ := fac_shape hf; clear hf hg))
    | fail)
  have HK4 := Lib.hid (HV3.out.kept (only_alloc (only_refl _ _) (.cells #[.slice A1 n1 c1, .slice A2 n2 c2, .slice A3 n3 c3, .slice A4 n4 c4] 35)))
  clear m0 m1 m2 m3 m4 m5 m6 m7 HV3 HK3
  generalize V3.heap.size = f3 at *
  generalize V3.alloc _ = W4 at *
  have m1 := HK4.out.m.cell 1
  have t0 := HK4.out.t.cell 0
  have p4 : W4.cell? ⟨bp, 4, none⟩ = some (.int .i64 2) := HK4.out.p.cell 4
  have f4 := HK4.out.p.frozen 4
  have HK5 := Lib.hid (HK4.out.putp 4 (.int .i64 (-1)))
  go_upto_region 5 with fail
  clear m1 t0 p4 f4 HK4
  generalize (World.setCell _ _ _) = W5 at *
  have m0 : W5.cell? ⟨bm, 0, none⟩ = some (.slice (some ⟨bn, 0, none⟩) 2 2) := HK5.out.m.cell 0
  have m1 : W5.cell? ⟨bm, 1, none⟩ = some (.slice (some ⟨bt, 0, none⟩) 1 1) := HK5.out.m.cell 1
  have m2 : W5.cell? ⟨bm, 2, none⟩ = some (.slice none 0 0) := HK5.out.m.cell 2
  have m3 : W5.cell? ⟨bm, 3, none⟩ = some (.slice none 0 0) := HK5.out.m.cell 3
  have m4 : W5.cell? ⟨bm, 4, none⟩ = some (.slice none 0 0) := HK5.out.m.cell 4
  have m5 : W5.cell? ⟨bm, 5, none⟩ = some (.slice none 0 0) := HK5.out.m.cell 5
  have m6 : W5.cell? ⟨bm, 6, none⟩ = some (.slice none 0 0) := HK5.out.m.cell 6
  have m7 : W5.cell? ⟨bm, 7, none⟩ = some (.slice none 0 0) := HK5.out.m.cell 7
  go_upto_region 6 with (first
    | (go_at_call 7; go_must (refine (sfacts_any exN13 [prs3 (-1)] (.slice (some ⟨bn, 0, none⟩) 2 2) (.slice (some ⟨bt, 0, none⟩) 1 1) NL NL NL NL NL NL _ (nodes_tbl (e := (1, 0)) HK5.out.n HK5.out.e) (tpl_one HK5.out.t (prm_three (x := (-1, 4)) (by decide) HK5.out.p)) (by decide) (by decide) (by decide)).mono ?_; rw [kn_2]; rintro e V5 ⟨⟨fv, rfl, hf⟩, hg⟩; have HV5 := Lib.hid (HK5.out.kept hg); obtain ⟨A1, n1, c1, A2, n2, c2, A3, n3, c3, A4, n4, c4, rfl⟩ := fac_shape hf; clear hf hg))
    | fail)
  have HK6 := Lib.hid (HV5.out.kept (only_alloc (only_refl _ _) (.cells #[.slice A1 n1 c1, .slice A2 n2 c2, .slice A3 n3 c3, .slice A4 n4 c4] 35)))
  clear m0 m1 m2 m3 m4 m5 m6 m7 HV5 HK5
  generalize V5.heap.size = f5 at *
  generalize V5.alloc _ = W6 at *
  have m1 := HK6.out.m.cell 1
  have t0 := HK6.out.t.cell 0
  have f0 := HK6.out.t.frozen 0
  have hbt := HK6.out.t.lt
  have hbm := HK6.out.m.lt
  have hmk := make_9
  go_cut [47] from 47 to 51 (fun _ wx => ∃ z, KnB w be bn bp bt bm #[.int .i64 1, .int .i64 0] (((cps3 0).setIfInBounds 4 (.int .i64 2)).setIfInBounds 4 (.int .i64 (-1))) #[.slice (some ⟨z, 0, none⟩) 9 9, NL, NL] wx ∧ Blk wx z 61 (zPrm 9))
  case first =>
    have HP : Hid (∀ wx, wx = ((W6.setCell ⟨bt, 0, none⟩ (.slice (some ⟨W6.heap.size, 0, none⟩) 9 9)).alloc (.cells (zPrm 9) 61)).drew → ∃ z, KnB w be bn bp bt bm #[.int .i64 1, .int .i64 0] (((cps3 0).setIfInBounds 4 (.int .i64 2)).setIfInBounds 4 (.int .i64 (-1))) #[.slice (some ⟨z, 0, none⟩) 9 9, NL, NL] wx ∧ Blk wx z 61 (zPrm 9)) := Lib.hid fun wx e => by
      subst e
      exact ⟨W6.heap.size, ((HK6.out.putt 0 (.slice (some ⟨W6.heap.size, 0, none⟩) 9 9)).kept (only_alloc (only_refl _ _) (.cells (zPrm 9) 61))).kept (only_drew (only_refl _ _)), blk_at (by simp) _ _⟩
    go_region_with fail
    all_goals go_wp2_with fail
    all_goals go_meet
    all_goals exact HP.out _ rfl
  case rest =>
  obtain ⟨z9, hk7, hz9⟩ := hcut
  have HK7 := Lib.hid hk7
  have HZ9 := Lib.hid hz9
  clear hk7 hz9 m1 t0 f0 hbt hbm hmk HK6
  generalize wc = W7 at *
  have m0 : W7.cell? ⟨bm, 0, none⟩ = some (.slice (some ⟨bn, 0, none⟩) 2 2) := HK7.out.m.cell 0
  have m1 : W7.cell? ⟨bm, 1, none⟩ = some (.slice (some ⟨bt, 0, none⟩) 1 1) := HK7.out.m.cell 1
  have m2 : W7.cell? ⟨bm, 2, none⟩ = some (.slice none 0 0) := HK7.out.m.cell 2
  have m3 : W7.cell? ⟨bm, 3, none⟩ = some (.slice none 0 0) := HK7.out.m.cell 3
  have m4 : W7.cell? ⟨bm, 4, none⟩ = some (.slice none 0 0) := HK7.out.m.cell 4
  have m5 : W7.cell? ⟨bm, 5, none⟩ = some (.slice none 0 0) := HK7.out.m.cell 5
  have m6 : W7.cell? ⟨bm, 6, none⟩ = some (.slice none 0 0) := HK7.out.m.cell 6
  have m7 : W7.cell? ⟨bm, 7, none⟩ = some (.slice none 0 0) := HK7.out.m.cell 7
  go_upto_region 8 with (first
    | (go_at_call 7; go_must (refine (sfacts_any exN13 [List.replicate 9 zP] (.slice (some ⟨bn, 0, none⟩) 2 2) (.slice (some ⟨bt, 0, none⟩) 1 1) NL NL NL NL NL NL _ (nodes_tbl (e := (1, 0)) HK7.out.n HK7.out.e) (tpl_one HK7.out.t (zeros_prm HZ9.out (by decide) zPrm_9)) (by decide) (by decide) (by decide)).mono ?_; rw [kn_3]; rintro e V7 ⟨⟨fv, rfl, hf⟩, hg⟩; have HV7 := Lib.hid (HK7.out.kept hg); obtain ⟨A1, n1, c1, A2, n2, c2, A3, n3, c3, A4, n4, c4, rfl⟩ := fac_shape hf; clear hf hg))
    | fail)
  have HK8 := Lib.hid (HV7.out.kept (only_alloc (only_refl _ _) (.cells #[.slice A1 n1 c1, .slice A2 n2 c2, .slice A3 n3 c3, .slice A4 n4 c4] 35)))
  clear m0 m1 m2 m3 m4 m5 m6 m7 HV7 HK7
  generalize V7.heap.size = f7 at *
  generalize V7.alloc _ = W8 at *
  clear HZ9
  have m1 := HK8.out.m.cell 1
  have t0 : W8.cell? ⟨bt, 0, none⟩ = some (.slice (some ⟨z9, 0, none⟩) 9 9) := HK8.out.t.cell 0
  have f0 := HK8.out.t.frozen 0
  have hbt := HK8.out.t.lt
  have hbm := HK8.out.m.lt
  have hmk := make_8
  go_cut [57] from 57 to 61 (fun _ wx => ∃ z, KnB w be bn bp bt bm #[.int .i64 1, .int .i64 0] (((cps3 0).setIfInBounds 4 (.int .i64 2)).setIfInBounds 4 (.int .i64 (-1))) #[.slice (some ⟨z, 0, none⟩) 8 8, NL, NL] wx ∧ Blk wx z 61 (zPrm 8))
  case first =>
    have HP : Hid (∀ wx, wx = ((W8.setCell ⟨bt, 0, none⟩ (.slice (some ⟨W8.heap.size, 0, none⟩) 8 8)).alloc (.cells (zPrm 8) 61)).drew → ∃ z, KnB w be bn bp bt bm #[.int .i64 1, .int .i64 0] (((cps3 0).setIfInBounds 4 (.int .i64 2)).setIfInBounds 4 (.int .i64 (-1))) #[.slice (some ⟨z, 0, none⟩) 8 8, NL, NL] wx ∧ Blk wx z 61 (zPrm 8)) := Lib.hid fun wx e => by
      subst e
      exact ⟨W8.heap.size, ((HK8.out.putt 0 (.slice (some ⟨W8.heap.size, 0, none⟩) 8 8)).kept (only_alloc (only_refl _ _) (.cells (zPrm 8) 61))).kept (only_drew (only_refl _ _)), blk_at (by simp) _ _⟩
    go_region_with fail
    all_goals go_wp2_with fail
    all_goals go_meet
    all_goals exact HP.out _ rfl
  case rest =>
  obtain ⟨z8, hk9, hz8⟩ := hcut
  have HK9 := Lib.hid hk9
  have HZ8 := Lib.hid hz8
  clear hk9 hz8 m1 t0 f0 hbt hbm hmk HK8
  generalize wc = W9 at *
  have m0 : W9.cell? ⟨bm, 0, none⟩ = some (.slice (some ⟨bn, 0, none⟩) 2 2) := HK9.out.m.cell 0
  have m1 : W9.cell? ⟨bm, 1, none⟩ = some (.slice (some ⟨bt, 0, none⟩) 1 1) := HK9.out.m.cell 1
  have m2 : W9.cell? ⟨bm, 2, none⟩ = some (.slice none 0 0) := HK9.out.m.cell 2
  have m3 : W9.cell? ⟨bm, 3, none⟩ = some (.slice none 0 0) := HK9.out.m.cell 3
  have m4 : W9.cell? ⟨bm, 4, none⟩ = some (.slice none 0 0) := HK9.out.m.cell 4
  have m5 : W9.cell? ⟨bm, 5, none⟩ = some (.slice none 0 0) := HK9.out.m.cell 5
  have m6 : W9.cell? ⟨bm, 6, none⟩ = some (.slice none 0 0) := HK9.out.m.cell 6
  have m7 : W9.cell? ⟨bm, 7, none⟩ = some (.slice none 0 0) := HK9.out.m.cell 7
  go_upto_region 10 with (first
    | (go_at_call 7; go_must (refine (sfacts_any exN13 [List.replicate 8 zP] (.slice (some ⟨bn, 0, none⟩) 2 2) (.slice (some ⟨bt, 0, none⟩) 1 1) NL NL NL NL NL NL _ (nodes_tbl (e := (1, 0)) HK9.out.n HK9.out.e) (tpl_one HK9.out.t (zeros_prm HZ8.out (by decide) zPrm_8)) (by decide) (by decide) (by decide)).mono ?_; rw [kn_4]; rintro e V9 ⟨⟨fv, rfl, hf⟩, hg⟩; have HV9 := Lib.hid (HK9.out.kept hg); obtain ⟨A1, n1, c1, A2, n2, c2, A3, n3, c3, A4, n4, c4, rfl⟩ := fac_shape hf; have HZ8b := Lib.hid (HZ8.out.kept hg); clear hf hg))
    | fail)
  have HK10 := Lib.hid (HV9.out.kept (only_alloc (only_refl _ _) (.cells #[.slice A1 n1 c1, .slice A2 n2 c2, .slice A3 n3 c3, .slice A4 n4 c4] 35)))
  have HZ8c := Lib.hid (HZ8b.out.kept (only_alloc (only_refl _ _) (.cells #[.slice A1 n1 c1, .slice A2 n2 c2, .slice A3 n3 c3, .slice A4 n4 c4] 35)))
  clear HZ8 HZ8b
  clear m0 m1 m2 m3 m4 m5 m6 m7 HV9 HK9
  generalize V9.heap.size = f9 at *
  generalize V9.alloc _ = W10 at *
  have m0 := HK10.out.m.cell 0
  have n5 := HK10.out.n.cell 5
  have g0 : W10.cell? ⟨be, 0, none⟩ = some (.int .i64 1) := HK10.out.e.cell 0
  have g1 : W10.cell? ⟨be, 1, none⟩ = some (.int .i64 0) := HK10.out.e.cell 1
  have f0 := HK10.out.e.frozen 0
  have f1 := HK10.out.e.frozen 1
  have HK11 := Lib.hid ((HK10.out.pute 0 (.int .i64 0)).pute 1 (.int .i64 0))
  have HZ11 := Lib.hid ((HZ8c.out.far (p := ⟨be, 0, none⟩) (Blk.ne_ HZ8c.out HK10.out.e (by decide)) (.int .i64 0)).far (p := ⟨be, 1, none⟩) (Blk.ne_ HZ8c.out HK10.out.e (by decide)) (.int .i64 0))
  go_upto_region 11 with fail
  clear m0 n5 g0 g1 f0 f1 HK10 HZ8c
  generalize (World.setCell _ _ _) = W11 at *
  have m0 : W11.cell? ⟨bm, 0, none⟩ = some (.slice (some ⟨bn, 0, none⟩) 2 2) := HK11.out.m.cell 0
  have m1 : W11.cell? ⟨bm, 1, none⟩ = some (.slice (some ⟨bt, 0, none⟩) 1 1) := HK11.out.m.cell 1
  have m2 : W11.cell? ⟨bm, 2, none⟩ = some (.slice none 0 0) := HK11.out.m.cell 2
  have m3 : W11.cell? ⟨bm, 3, none⟩ = some (.slice none 0 0) := HK11.out.m.cell 3
  have m4 : W11.cell? ⟨bm, 4, none⟩ = some (.slice none 0 0) := HK11.out.m.cell 4
  have m5 : W11.cell? ⟨bm, 5, none⟩ = some (.slice none 0 0) := HK11.out.m.cell 5
  have m6 : W11.cell? ⟨bm, 6, none⟩ = some (.slice none 0 0) := HK11.out.m.cell 6
  have m7 : W11.cell? ⟨bm, 7, none⟩ = some (.slice none 0 0) := HK11.out.m.cell 7
  go_upto_region 12 with (first
    | (go_at_call 7; go_must (refine (sfacts_any exBad [List.replicate 8 zP] (.slice (some ⟨bn, 0, none⟩) 2 2) (.slice (some ⟨bt, 0, none⟩) 1 1) NL NL NL NL NL NL _ (nodes_tbl (e := (0, 0)) HK11.out.n HK11.out.e) (tpl_one HK11.out.t (zeros_prm HZ11.out (by decide) zPrm_8)) (by decide) (by decide) (by decide)).mono ?_; rw [kn_5]; rintro e V11 ⟨⟨fv, rfl, hf⟩, hg⟩; have HV11 := Lib.hid (HK11.out.kept hg); obtain ⟨A1, n1, c1, A2, n2, c2, A3, n3, c3, A4, n4, c4, rfl⟩ := fac_shape hf; clear hf hg))
    | fail)
  have HK12 := Lib.hid (HV11.out.kept (only_alloc (only_refl _ _) (.cells #[.slice A1 n1 c1, .slice A2 n2 c2, .slice A3 n3 c3, .slice A4 n4 c4] 35)))
  clear m0 m1 m2 m3 m4 m5 m6 m7 HV11 HK11
  generalize V11.heap.size = f11 at *
  generalize V11.alloc _ = W12 at *
  clear HZ11
  have HG12 := Lib.hid HK12.out.gr
  clear HK12
  go_upto_region 15 with (first
    | (go_at_call 21; go_must (refine (example_any _).mono ?_; rintro e V12 ⟨xe, xn, xp, xt, rfl, hx, hg, _⟩; have HX := Lib.hid hx; have HG13 := Lib.hid (only_trans HG12.out hg); clear hx hg))
    | (go_at_call 7; go_must (refine (sfacts_any exN13 [exP13] (.slice (some ⟨xn, 0, none⟩) 2 2) (.slice (some ⟨xt, 0, none⟩) 1 1) NL NL NL NL NL NL _ HX.out.tbl HX.out.tpl (by decide) (by decide) (by decide)).mono ?_; rw [ex_facts]; rintro e w2 ⟨⟨fv, rfl, hf⟩, hg⟩; have HF := Lib.hid hf; have HG2 := Lib.hid (only_trans HG13.out hg); obtain ⟨A1, n1, c1, A2, n2, c2, A3, n3, c3, A4, n4, c4, rfl⟩ := fac_shape hf; clear hf hg))
    | fail)
  clear HX HG12 HG13
  obtain ⟨W13, hW3⟩ : ∃ W3, w2.alloc (.cells #[.slice A1 n1 c1, .slice A2 n2 c2, .slice A3 n3 c3, .slice A4 n4 c4] 35) = W3 := ⟨_, rfl⟩
  obtain ⟨b1, hb1⟩ : ∃ b1, w2.heap.size = b1 := ⟨_, rfl⟩
  have HI3 : Hid (WkS w2 b1 #[.slice A1 n1 c1, .slice A2 n2 c2, .slice A3 n3 c3, .slice A4 n4 c4] [] W13) := Lib.hid ⟨by rw [← hW3]; exact only_alloc (only_refl _ _) _, by rw [← hW3, ← hb1]; exact Blk.new _ _ _, fun p hp => by cases hp⟩
  have HB1 : Hid (w2.heap.size = b1 ∧ W13.heap.size = b1 + 1) := Lib.hid ⟨hb1, by rw [← hW3, ← hb1]; simp⟩
  rw [hW3, hb1]
  clear hW3 hb1
  refine wp_region_lit ?_
  refine wpList_alloc_st rfl rfl ?_
  simp only [Act.put, List.setIfInBounds_toArray, List.set_cons_zero, List.set_cons_succ]
  have hst : StB (W13.alloc (.cells (stC zeroT) 45)) (b1 + 1) kt0 := by rw [← HB1.out.2]; exact Blk.new _ _ _
  have hi := HI3.out.kept (only_alloc (only_refl W13 none) (.cells (stC zeroT) 45))
  have HI4 : Hid (WkS w2 b1 #[.slice A1 n1 c1, .slice A2 n2 c2, .slice A3 n3 c3, .slice A4 n4 c4] [(b1 + 1, kt0)] (W13.alloc (.cells (stC zeroT) 45))) := Lib.hid ⟨hi.gr, hi.bf, fun p hp => by obtain rfl := List.mem_singleton.1 hp; exact ⟨by have := HB1.out.1; dsimp only; omega, hst⟩⟩
  rw [HB1.out.2]
  clear hi hst HI3
  generalize W13.alloc _ = W14 at *
  have hst : StB W14 (b1 + 1) kt0 := (HI4.out.st (b1 + 1, kt0) List.mem_cons_self).2
  have d0 : W14.cell? ⟨b1 + 1, 11, none⟩ = some (.int .i64 0) := hst.cell 11
  have d1 : W14.cell? ⟨b1 + 1, 12, none⟩ = some (.int .i64 0) := hst.cell 12
  have d2 : W14.cell? ⟨b1 + 1, 13, none⟩ = some (.int .i64 0) := hst.cell 13
  have e0 := hst.frozen 11
  have e1 := hst.frozen 12
  have e2 := hst.frozen 13
  have HI5 := Lib.hid (WkS.slot (HI4.out.sub (l' := []) (fun p hp => by cases hp)) hst (by have := HB1.out.1; omega) (by omega) (fun p hp => by cases hp) (i := 3) (by decide) 2 0 9 kt1 rfl)
  clear hst
  go_upto_region 17 with fail
  clear d0 d1 d2 e0 e1 e2 HI4
  generalize (World.setCell _ _ _) = W15 at *
  have hst : StB W15 (b1 + 1) kt1 := (HI5.out.st (b1 + 1, kt1) List.mem_cons_self).2
  have d0 : W15.cell? ⟨b1 + 1, 17, none⟩ = some (.int .i64 0) := hst.cell 17
  have d1 : W15.cell? ⟨b1 + 1, 18, none⟩ = some (.int .i64 0) := hst.cell 18
  have d2 : W15.cell? ⟨b1 + 1, 19, none⟩ = some (.int .i64 0) := hst.cell 19
  have e0 := hst.frozen 17
  have e1 := hst.frozen 18
  have e2 := hst.frozen 19
  have HI6 := Lib.hid (WkS.slot (HI5.out.sub (l' := []) (fun p hp => by cases hp)) hst (by have := HB1.out.1; omega) (by omega) (fun p hp => by cases hp) (i := 5) (by decide) 2 0 4 kt2 rfl)
  clear hst
  go_upto_region 18 with fail
  clear d0 d1 d2 e0 e1 e2 HI5
  generalize (World.setCell _ _ _) = W16 at *
  have hst : StB W16 (b1 + 1) kt2 := (HI6.out.st (b1 + 1, kt2) List.mem_cons_self).2
  have d0 : W16.cell? ⟨b1 + 1, 20, none⟩ = some (.int .i64 0) := hst.cell 20
  have d1 : W16.cell? ⟨b1 + 1, 21, none⟩ = some (.int .i64 0) := hst.cell 21
  have d2 : W16.cell? ⟨b1 + 1, 22, none⟩ = some (.int .i64 0) := hst.cell 22
  have e0 := hst.frozen 20
  have e1 := hst.frozen 21
  have e2 := hst.frozen 22
  have HI7 := Lib.hid (WkS.slot (HI6.out.sub (l' := []) (fun p hp => by cases hp)) hst (by have := HB1.out.1; omega) (by omega) (fun p hp => by cases hp) (i := 6) (by decide) 2 1 0 kt3 rfl)
  clear hst
  go_upto_region 19 with fail
  clear d0 d1 d2 e0 e1 e2 HI6
  generalize (World.setCell _ _ _) = W17 at *
  have hst : StB W17 (b1 + 1) kt3 := (HI7.out.st (b1 + 1, kt3) List.mem_cons_self).2
  have d0 : W17.cell? ⟨b1 + 1, 23, none⟩ = some (.int .i64 0) := hst.cell 23
  have d1 : W17.cell? ⟨b1 + 1, 24, none⟩ = some (.int .i64 0) := hst.cell 24
  have d2 : W17.cell? ⟨b1 + 1, 25, none⟩ = some (.int .i64 0) := hst.cell 25
  have e0 := hst.frozen 23
  have e1 := hst.frozen 24
  have e2 := hst.frozen 25
  have HI8 := Lib.hid (WkS.slot (HI7.out.sub (l' := []) (fun p hp => by cases hp)) hst (by have := HB1.out.1; omega) (by omega) (fun p hp => by cases hp) (i := 7) (by decide) 1 0 1 kt4 rfl)
  clear hst
  go_upto_region 20 with fail
  clear d0 d1 d2 e0 e1 e2 HI7
  generalize (World.setCell _ _ _) = W18 at *
  have x0 : W18.cell? ⟨b1, 0, none⟩ = some (.slice A1 n1 c1) := HI8.out.bf.cell 0
  have x1 : W18.cell? ⟨b1, 1, none⟩ = some (.slice A2 n2 c2) := HI8.out.bf.cell 1
  have x2 : W18.cell? ⟨b1, 2, none⟩ = some (.slice A3 n3 c3) := HI8.out.bf.cell 2
  have x3 : W18.cell? ⟨b1, 3, none⟩ = some (.slice A4 n4 c4) := HI8.out.bf.cell 3
  have HS8 : Hid (StB W18 (b1 + 1) kt4) := Lib.hid (HI8.out.st (b1 + 1, kt4) List.mem_cons_self).2
  have HF8 := Lib.hid ((HF.out.keep (.grown HI8.out.gr)).tbl)
  go_upto_region 21 with (first
    | (refine wpList_load_st (s := kt4) rfl (.tmp 14) rfl rfl rfl HS8.out ?_)
    | (go_at_call 16; go_must (refine (sleast_any (clsT exN13).cls (.slice A1 n1 c1) (.slice A2 n2 c2) (.slice A3 n3 c3) (.slice A4 n4 c4) kt4 _ HF8.out ex_cls rfl).mono ?_; rw [kn_l]; rintro e W19 ⟨rfl, hg⟩; have HI9 := Lib.hid (HI8.out.kept hg); clear hg))
    | fail)
  clear x0 x1 x2 x3 HS8 HF8 HI8
  have HS9 : Hid (StB W19 (b1 + 1) kt4) := Lib.hid (HI9.out.st (b1 + 1, kt4) List.mem_cons_self).2
  refine wp_region_lit ?_
  refine wpList_load_st (s := kt4) rfl (.tmp 14) rfl rfl rfl HS9.out ?_
  refine wpList_alloc_st rfl rfl ?_
  refine wpList_store_st (s := kt4) (s0 := zeroT) rfl (.tmp 17) (.tmp 104) rfl rfl rfl rfl rfl (Blk.new _ _ _) ?_
  simp only [Act.put, List.setIfInBounds_toArray, List.set_cons_zero, List.set_cons_succ]
  have hi := HI9.out.new kt4
  obtain ⟨W20, hW9⟩ : ∃ W9, (W19.alloc (.cells (stC zeroT) 45)).setRow W19.heap.size (stC kt4) = W9 := ⟨_, rfl⟩
  obtain ⟨b4, hb4⟩ : ∃ b4, W19.heap.size = b4 := ⟨_, rfl⟩
  have hl4 : b1 + 1 < b4 := by rw [← hb4]; exact HS9.out.lt
  rw [hW9, hb4] at hi
  rw [hW9, hb4]
  have HI10 := Lib.hid hi
  have H4 := Lib.hid hl4
  clear hi hW9 hb4 hl4 HI9 HS9
  have hst : StB W20 (b4) kt4 := (HI10.out.st (b4, kt4) List.mem_cons_self).2
  have d0 : W20.cell? ⟨b4, 0, none⟩ = some (.int .i64 0) := hst.cell 0
  have e0 := hst.frozen 0
  have HI11 := Lib.hid (WkS.cell (HI10.out.sub (l' := [(b1 + 1, kt4)]) (fun p hp => by obtain rfl := List.mem_singleton.1 hp; exact List.mem_cons_of_mem _ List.mem_cons_self)) hst (by have h1 := HB1.out.1; have h2 := H4.out; omega) (by have h2 := H4.out; omega) (fun p hp => by have h2 := H4.out; obtain rfl := List.mem_singleton.1 hp; dsimp only; omega) 0 (.int .i64 (-3)) kl1 (by kernel_rfl))
  clear hst
  go_upto_region 23 with fail
  clear d0 e0 HI10
  generalize (World.setCell _ _ _) = W21 at *
  have hst : StB W21 (b4) kl1 := (HI11.out.st (b4, kl1) List.mem_cons_self).2
  have d0 : W21.cell? ⟨b4, 13, none⟩ = some (.int .i64 9) := hst.cell 13
  have e0 := hst.frozen 13
  have HI12 := Lib.hid (WkS.cell (HI11.out.sub (l' := [(b1 + 1, kt4)]) (fun p hp => by obtain rfl := List.mem_singleton.1 hp; exact List.mem_cons_of_mem _ List.mem_cons_self)) hst (by have h1 := HB1.out.1; have h2 := H4.out; omega) (by have h2 := H4.out; omega) (fun p hp => by have h2 := H4.out; obtain rfl := List.mem_singleton.1 hp; dsimp only; omega) 13 (.int .i64 6) kl2 (by kernel_rfl))
  clear hst
  go_upto_region 24 with fail
  clear d0 e0 HI11
  generalize (World.setCell _ _ _) = W22 at *
  have hst : StB W22 (b4) kl2 := (HI12.out.st (b4, kl2) List.mem_cons_self).2
  have d0 : W22.cell? ⟨b4, 19, none⟩ = some (.int .i64 4) := hst.cell 19
  have e0 := hst.frozen 19
  have HI13 := Lib.hid (WkS.cell (HI12.out.sub (l' := [(b1 + 1, kt4)]) (fun p hp => by obtain rfl := List.mem_singleton.1 hp; exact List.mem_cons_of_mem _ List.mem_cons_self)) hst (by have h1 := HB1.out.1; have h2 := H4.out; omega) (by have h2 := H4.out; omega) (fun p hp => by have h2 := H4.out; obtain rfl := List.mem_singleton.1 hp; dsimp only; omega) 19 (.int .i64 1) kl3 (by kernel_rfl))
  clear hst
  go_upto_region 25 with fail
  clear d0 e0 HI12
  generalize (World.setCell _ _ _) = W23 at *
  have x0 : W23.cell? ⟨b1, 0, none⟩ = some (.slice A1 n1 c1) := HI13.out.bf.cell 0
  have x1 : W23.cell? ⟨b1, 1, none⟩ = some (.slice A2 n2 c2) := HI13.out.bf.cell 1
  have x2 : W23.cell? ⟨b1, 2, none⟩ = some (.slice A3 n3 c3) := HI13.out.bf.cell 2
  have x3 : W23.cell? ⟨b1, 3, none⟩ = some (.slice A4 n4 c4) := HI13.out.bf.cell 3
  have HSa : Hid (StB W23 (b1 + 1) kt4) := Lib.hid (HI13.out.st (b1 + 1, kt4) (List.mem_cons_of_mem _ List.mem_cons_self)).2
  have HSb : Hid (StB W23 b4 kl3) := Lib.hid (HI13.out.st (b4, kl3) List.mem_cons_self).2
  have HF13 := Lib.hid ((HF.out.keep (.grown HI13.out.gr)).tbl)
  go_upto_region 26 with (first
    | (refine wpList_load_st (s := kt4) rfl (.tmp 14) rfl rfl rfl HSa.out ?_)
    | (refine wpList_load_st (s := kl3) rfl (.tmp 17) rfl rfl rfl HSb.out ?_)
    | (go_at_call 20; go_must (refine (sshift_any (clsT exN13).cls (.slice A1 n1 c1) (.slice A2 n2 c2) (.slice A3 n3 c3) (.slice A4 n4 c4) kt4 kl3 _ HF13.out ex_cls rfl rfl).mono ?_; rw [kn_s]; rintro e W24 ⟨rfl, hg⟩; have HI14 := Lib.hid (HI13.out.kept hg); clear hg))
    | fail)
  clear x0 x1 x2 x3 HSa HSb HF13 HI13
  simp only [List.append_eq, List.cons_append, List.nil_append]
  have hfd := kn_f
  go_wp2_with (first
    | (refine wpList_load_stG (s := kt4) rfl (.tmp 14) rfl rfl rfl (HI15.out.st (b1 + 1, kt4) (List.mem_cons_of_mem _ List.mem_cons_self)).2 ?_)
    | (refine wpList_build_stG rfl _ rfl zeroT (by kernel_rfl) ?_)
    | (go_at_call 17; refine (sbusy_any (clsT exN13).cls (.slice A1 n1 c1) (.slice A2 n2 c2) (.slice A3 n3 c3) (.slice A4 n4 c4) ⟨2, 2, 0⟩ _ (HF.out.keep (.grown HI24.out.gr)).tbl ex_cls).mono ?_; rw [kn_b5]; rintro e W35 ⟨rfl, hg⟩; have HI25 := Lib.hid (HI24.out.kept hg); clear hg x0 x1 x2 x3; have x0 : W35.cell? ⟨b1, 0, none⟩ = some (.slice A1 n1 c1) := HI25.out.bf.cell 0; have x1 : W35.cell? ⟨b1, 1, none⟩ = some (.slice A2 n2 c2) := HI25.out.bf.cell 1; have x2 : W35.cell? ⟨b1, 2, none⟩ = some (.slice A3 n3 c3) := HI25.out.bf.cell 2; have x3 : W35.cell? ⟨b1, 3, none⟩ = some (.slice A4 n4 c4) := HI25.out.bf.cell 3)
    | (go_at_call 17; refine (sbusy_any (clsT exN13).cls (.slice A1 n1 c1) (.slice A2 n2 c2) (.slice A3 n3 c3) (.slice A4 n4 c4) ⟨2, -1, 0⟩ _ (HF.out.keep (.grown HI23.out.gr)).tbl ex_cls).mono ?_; rw [kn_b4]; rintro e W34 ⟨rfl, hg⟩; have HI24 := Lib.hid (HI23.out.kept hg); clear hg x0 x1 x2 x3; have x0 : W34.cell? ⟨b1, 0, none⟩ = some (.slice A1 n1 c1) := HI24.out.bf.cell 0; have x1 : W34.cell? ⟨b1, 1, none⟩ = some (.slice A2 n2 c2) := HI24.out.bf.cell 1; have x2 : W34.cell? ⟨b1, 2, none⟩ = some (.slice A3 n3 c3) := HI24.out.bf.cell 2; have x3 : W34.cell? ⟨b1, 3, none⟩ = some (.slice A4 n4 c4) := HI24.out.bf.cell 3)
    | (go_at_call 17; refine (sbusy_any (clsT exN13).cls (.slice A1 n1 c1) (.slice A2 n2 c2) (.slice A3 n3 c3) (.slice A4 n4 c4) ⟨2, 3, 0⟩ _ (HF.out.keep (.grown HI22.out.gr)).tbl ex_cls).mono ?_; rw [kn_b3]; rintro e W33 ⟨rfl, hg⟩; have HI23 := Lib.hid (HI22.out.kept hg); clear hg x0 x1 x2 x3; have x0 : W33.cell? ⟨b1, 0, none⟩ = some (.slice A1 n1 c1) := HI23.out.bf.cell 0; have x1 : W33.cell? ⟨b1, 1, none⟩ = some (.slice A2 n2 c2) := HI23.out.bf.cell 1; have x2 : W33.cell? ⟨b1, 2, none⟩ = some (.slice A3 n3 c3) := HI23.out.bf.cell 2; have x3 : W33.cell? ⟨b1, 3, none⟩ = some (.slice A4 n4 c4) := HI23.out.bf.cell 3)
    | (go_at_call 17; refine (sbusy_any (clsT exN13).cls (.slice A1 n1 c1) (.slice A2 n2 c2) (.slice A3 n3 c3) (.slice A4 n4 c4) ⟨2, 1, 0⟩ _ (HF.out.keep (.grown HI21.out.gr)).tbl ex_cls).mono ?_; rw [kn_b2]; rintro e W32 ⟨rfl, hg⟩; have HI22 := Lib.hid (HI21.out.kept hg); clear hg x0 x1 x2 x3; have x0 : W32.cell? ⟨b1, 0, none⟩ = some (.slice A1 n1 c1) := HI22.out.bf.cell 0; have x1 : W32.cell? ⟨b1, 1, none⟩ = some (.slice A2 n2 c2) := HI22.out.bf.cell 1; have x2 : W32.cell? ⟨b1, 2, none⟩ = some (.slice A3 n3 c3) := HI22.out.bf.cell 2; have x3 : W32.cell? ⟨b1, 3, none⟩ = some (.slice A4 n4 c4) := HI22.out.bf.cell 3)
    | (go_at_call 17; refine (sbusy_any (clsT exN13).cls (.slice A1 n1 c1) (.slice A2 n2 c2) (.slice A3 n3 c3) (.slice A4 n4 c4) ⟨1, 0, 0⟩ _ (HF.out.keep (.grown HI20.out.gr)).tbl ex_cls).mono ?_; rw [kn_b1]; rintro e W31 ⟨rfl, hg⟩; have HI21 := Lib.hid (HI20.out.kept hg); clear hg x0 x1 x2 x3; have x0 : W31.cell? ⟨b1, 0, none⟩ = some (.slice A1 n1 c1) := HI21.out.bf.cell 0; have x1 : W31.cell? ⟨b1, 1, none⟩ = some (.slice A2 n2 c2) := HI21.out.bf.cell 1; have x2 : W31.cell? ⟨b1, 2, none⟩ = some (.slice A3 n3 c3) := HI21.out.bf.cell 2; have x3 : W31.cell? ⟨b1, 3, none⟩ = some (.slice A4 n4 c4) := HI21.out.bf.cell 3)
    | (go_at_call 18; refine (ssame_any (a := zeroT) (b := zeroT) rfl rfl _).mono ?_; rw [ks_z]; rintro e W30 ⟨rfl, hg⟩; have HI20 := Lib.hid (HI19.out.kept hg); clear hg x0 x1 x2 x3; have x0 : W30.cell? ⟨b1, 0, none⟩ = some (.slice A1 n1 c1) := HI20.out.bf.cell 0; have x1 : W30.cell? ⟨b1, 1, none⟩ = some (.slice A2 n2 c2) := HI20.out.bf.cell 1; have x2 : W30.cell? ⟨b1, 2, none⟩ = some (.slice A3 n3 c3) := HI20.out.bf.cell 2; have x3 : W30.cell? ⟨b1, 3, none⟩ = some (.slice A4 n4 c4) := HI20.out.bf.cell 3)
    | (go_at_call 11; refine (sentry_any (clsT exN13) [exS13] (.agg #[.slice A1 n1 c1, .slice A2 n2 c2, .slice A3 n3 c3, .slice A4 n4 c4]) (-1) _ (HF.out.keep (.grown HI18.out.gr)) ex_cls).mono ?_; rw [kn_e2]; rintro e W29 ⟨rfl, hg⟩; have HI19 := Lib.hid (HI18.out.kept hg); clear hg x0 x1 x2 x3; have x0 : W29.cell? ⟨b1, 0, none⟩ = some (.slice A1 n1 c1) := HI19.out.bf.cell 0; have x1 : W29.cell? ⟨b1, 1, none⟩ = some (.slice A2 n2 c2) := HI19.out.bf.cell 1; have x2 : W29.cell? ⟨b1, 2, none⟩ = some (.slice A3 n3 c3) := HI19.out.bf.cell 2; have x3 : W29.cell? ⟨b1, 3, none⟩ = some (.slice A4 n4 c4) := HI19.out.bf.cell 3)
    | (go_at_call 18; refine (ssame_any (a := zeroT) (b := zeroT) rfl rfl _).mono ?_; rw [ks_z]; rintro e W28 ⟨rfl, hg⟩; have HI18 := Lib.hid (HI17.out.kept hg); clear hg x0 x1 x2 x3; have x0 : W28.cell? ⟨b1, 0, none⟩ = some (.slice A1 n1 c1) := HI18.out.bf.cell 0; have x1 : W28.cell? ⟨b1, 1, none⟩ = some (.slice A2 n2 c2) := HI18.out.bf.cell 1; have x2 : W28.cell? ⟨b1, 2, none⟩ = some (.slice A3 n3 c3) := HI18.out.bf.cell 2; have x3 : W28.cell? ⟨b1, 3, none⟩ = some (.slice A4 n4 c4) := HI18.out.bf.cell 3)
    | (go_at_call 11; refine (sentry_any (clsT exN13) [exS13] (.agg #[.slice A1 n1 c1, .slice A2 n2 c2, .slice A3 n3 c3, .slice A4 n4 c4]) 1 _ (HF.out.keep (.grown HI16.out.gr)) ex_cls).mono ?_; rw [kn_e1]; rintro e W27 ⟨rfl, hg⟩; have HI17 := Lib.hid (HI16.out.kept hg); clear hg x0 x1 x2 x3; have x0 : W27.cell? ⟨b1, 0, none⟩ = some (.slice A1 n1 c1) := HI17.out.bf.cell 0; have x1 : W27.cell? ⟨b1, 1, none⟩ = some (.slice A2 n2 c2) := HI17.out.bf.cell 1; have x2 : W27.cell? ⟨b1, 2, none⟩ = some (.slice A3 n3 c3) := HI17.out.bf.cell 2; have x3 : W27.cell? ⟨b1, 3, none⟩ = some (.slice A4 n4 c4) := HI17.out.bf.cell 3)
    | (go_at_call 15; refine (sraise_any (clsT exN13).cls (.slice A1 n1 c1) (.slice A2 n2 c2) (.slice A3 n3 c3) (.slice A4 n4 c4) kt4 _ (HF.out.keep (.grown HI15.out.gr)).tbl ex_cls rfl).mono ?_; rw [kn_r]; rintro e W26 ⟨rfl, hg⟩; have HI16 := Lib.hid (HI15.out.kept hg); clear hg x0 x1 x2 x3; have x0 : W26.cell? ⟨b1, 0, none⟩ = some (.slice A1 n1 c1) := HI16.out.bf.cell 0; have x1 : W26.cell? ⟨b1, 1, none⟩ = some (.slice A2 n2 c2) := HI16.out.bf.cell 1; have x2 : W26.cell? ⟨b1, 2, none⟩ = some (.slice A3 n3 c3) := HI16.out.bf.cell 2; have x3 : W26.cell? ⟨b1, 3, none⟩ = some (.slice A4 n4 c4) := HI16.out.bf.cell 3)
    | (go_at_call 13; refine (works_any _).mono ?_; rintro e W25 ⟨rfl, hg⟩; have HI15 := Lib.hid (HI14.out.kept hg); clear hg; have x0 : W25.cell? ⟨b1, 0, none⟩ = some (.slice A1 n1 c1) := HI15.out.bf.cell 0; have x1 : W25.cell? ⟨b1, 1, none⟩ = some (.slice A2 n2 c2) := HI15.out.bf.cell 1; have x2 : W25.cell? ⟨b1, 2, none⟩ = some (.slice A3 n3 c3) := HI15.out.bf.cell 2; have x3 : W25.cell? ⟨b1, 3, none⟩ = some (.slice A4 n4 c4) := HI15.out.bf.cell 3)
    | fail)
  go_ret
  exact ⟨rfl, only_trans HG2.out HI25.out.gr⟩
end Go.Proofs.Ytmhbmeckdbdhpaa

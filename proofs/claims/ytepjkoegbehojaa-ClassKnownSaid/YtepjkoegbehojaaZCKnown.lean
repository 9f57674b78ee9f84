/- ClassKnown: the walk, from the contracts. -/
import Derived.Test.YtepjkoegbehojaaZCTables
import Derived.Test.YtepjkoegbehojaaZOvt
import Derived.Deep.CutBlock
import Derived.Deep.CutRange
import Derived.Deep.RegionHeld3
namespace Go.Proofs.Ytepjkoegbehojaa
open Go.RowKit Go.Shelf

theorem or_k : orderL exK = (-1, 0) := by kernel_rfl
theorem or_bad : (orderL [wd 1 0 0 0]).2 = 10 := by kernel_rfl
theorem len_k : (clsT exK).cls.length = 5 ∧ (clsT exK).of_.length = 16 ∧ (clsT exK).prio.length = 16 := ⟨by kernel_rfl, by kernel_rfl, by kernel_rfl⟩
theorem pr_k4 : (clsT exK).prio[4]? = some 1 := by kernel_rfl
theorem ty_k4 : typeA (clsT exK) (4, 3) = (0, 4) := by kernel_rfl
theorem ty_k7 : typeA (clsT exK) (7, 3) = (3, 0) := by kernel_rfl
theorem py_k6 : payA (clsT exK) 2 2 = (0, 3) := by kernel_rfl
theorem nx_k6 : nextA (clsT exK) 2 2 0 = (3, 0) := by kernel_rfl
theorem ty_k16 : typeA (clsT exK) (16, 0) = (-1, 0) := by kernel_rfl
theorem nx_k99 : nextA (clsT exK) 99 1 0 = (-1, 0) := by kernel_rfl
theorem py_k0 : payA (clsT exK) 0 1 = (-1, 0) := by kernel_rfl
theorem nx_k01 : nextA (clsT exK) 0 1 1 = (-1, 0) := by kernel_rfl
/-- Edges that lie in memory, one list after another. -/
def EdS (W : World) (l : List (Nd × Value)) : Prop := ∀ p ∈ l, Edges W p.2 p.1.next
theorem EdS.kept {W W' : World} {l : List (Nd × Value)} (h : EdS W l) (hg : W.grownBy W' none) : EdS W' l := fun p hp => (h p hp).keep (.grown hg)
theorem EdS.snoc {W : World} {l : List (Nd × Value)} (h : EdS W l) {p : Nd × Value} (hp : Edges W p.2 p.1.next) : EdS W (l ++ [p]) := fun q hq => by
  rcases List.mem_append.1 hq with hq | hq
  · exact h q hq
  · obtain rfl := List.mem_singleton.1 hq; exact hp
theorem edge_new (W : World) (e : Ed) : Edges (W.alloc (.cells (edCells e) 43)) (.slice (some ⟨W.heap.size, 0, none⟩) 1 1) [e] :=
  ⟨_, _, rfl, by simp, fun _ => ⟨W.heap.size, 0, rfl, fun i x hx => by
    match i, hx with
    | 0, hx => cases hx; exact ⟨(Blk.new W _ _).cell 0, (Blk.new W _ _).cell 1⟩
    | i + 1, hx => simp at hx⟩⟩
abbrev kS (g : Nat) : Value := .slice (some ⟨g, 0, none⟩) 1 1
abbrev kAl : Nd := ⟨5, 0, false, (0, 0), [(5, 1)]⟩
abbrev kCh : Nd := ⟨1, 2, true, (4, 2), [(7, 0)]⟩
/-- What stands of the example's table. -/
structure KF (B : Nat) (A0 : Option Addr) (c0 bo oo d1 bp op d2 : Nat) (W : World) : Prop where
  bt : Blk W B 27 #[.slice A0 5 c0, .slice (some ⟨bo, oo, none⟩) 16 d1, .slice (some ⟨bp, op, none⟩) 16 d2]
  tab : TabV W (.agg #[.slice A0 5 c0, .slice (some ⟨bo, oo, none⟩) 16 d1, .slice (some ⟨bp, op, none⟩) 16 d2]) (clsT exK)
  o0 : W.cell? ⟨bo, oo, none⟩ = some (.int .i64 0)
  o1 : W.cell? ⟨bo, oo + 1, none⟩ = some (.int .i64 1)
  o2 : W.cell? ⟨bo, oo + 2, none⟩ = some (.int .i64 0)
  o3 : W.cell? ⟨bo, oo + 3, none⟩ = some (.int .i64 1)
  o4 : W.cell? ⟨bo, oo + 4, none⟩ = some (.int .i64 0)
  o5 : W.cell? ⟨bo, oo + 5, none⟩ = some (.int .i64 0)
  o6 : W.cell? ⟨bo, oo + 6, none⟩ = some (.int .i64 2)
  o7 : W.cell? ⟨bo, oo + 7, none⟩ = some (.int .i64 3)
  p4 : W.cell? ⟨bp, op + 4, none⟩ = some (.int .i64 1)
theorem KF.kept {B : Nat} {A0 : Option Addr} {c0 bo oo d1 bp op d2 : Nat} {W W' : World} (h : KF B A0 c0 bo oo d1 bp op d2 W) (hg : W.grownBy W' none) : KF B A0 c0 bo oo d1 bp op d2 W' :=
  have k := Keeps.grown hg
  ⟨h.bt.kept hg, h.tab.keep k, k _ _ h.o0, k _ _ h.o1, k _ _ h.o2, k _ _ h.o3, k _ _ h.o4, k _ _ h.o5, k _ _ h.o6, k _ _ h.o7, k _ _ h.p4⟩
theorem KF.cs {B : Nat} {A0 : Option Addr} {c0 bo oo d1 bp op d2 : Nat} {W : World} (h : KF B A0 c0 bo oo d1 bp op d2 W) : W.cell? ⟨B, 1, none⟩ = some (.slice (some ⟨bo, oo, none⟩) 16 d1) ∧ W.cell? ⟨B, 2, none⟩ = some (.slice (some ⟨bp, op, none⟩) 16 d2) ∧ W.cell? ⟨bo, oo, none⟩ = some (.int .i64 0) ∧ W.cell? ⟨bo, oo + 1, none⟩ = some (.int .i64 1) ∧ W.cell? ⟨bo, oo + 2, none⟩ = some (.int .i64 0) ∧ W.cell? ⟨bo, oo + 3, none⟩ = some (.int .i64 1) ∧ W.cell? ⟨bo, oo + 4, none⟩ = some (.int .i64 0) ∧ W.cell? ⟨bo, oo + 5, none⟩ = some (.int .i64 0) ∧ W.cell? ⟨bo, oo + 7, none⟩ = some (.int .i64 3) ∧ W.cell? ⟨bp, op + 4, none⟩ = some (.int .i64 1) :=
  ⟨h.bt.cell 1, h.bt.cell 2, h.o0, h.o1, h.o2, h.o3, h.o4, h.o5, h.o7, h.p4⟩
theorem kf_shape {W : World} {tv : Value} (h : TabV W tv (clsT exK)) : ∃ A0 c0 bo oo d1 bp op d2, tv = .agg #[.slice A0 5 c0, .slice (some ⟨bo, oo, none⟩) 16 d1, .slice (some ⟨bp, op, none⟩) 16 d2] := by
  obtain ⟨A0, c0, A1, d1, A2, d2, rfl⟩ := tab_open h len_k.1 len_k.2.1 len_k.2.2
  obtain ⟨_, hO, hP⟩ := tab_parts h
  rw [ex_k] at hO
  obtain ⟨Ax, cx, hx, _, hxo⟩ := hO
  simp only [Value.slice.injEq] at hx
  obtain ⟨rfl, _, rfl⟩ := hx
  obtain ⟨bo, oo, rfl, hc⟩ := hxo (by decide)
  obtain ⟨Ay, cy, hy, _, hyo⟩ := hP
  have hnn : (clsT exK).prio ≠ [] := fun e => by have := pr_k4; rw [e] at this; cases this
  simp only [Value.slice.injEq] at hy
  obtain ⟨rfl, _, rfl⟩ := hy
  obtain ⟨bp, op, rfl, hd⟩ := hyo hnn
  exact ⟨A0, c0, bo, oo, d1, bp, op, d2, rfl⟩
theorem kf_mk {B : Nat} {W : World} {A0 : Option Addr} {c0 bo oo d1 bp op d2 : Nat} (h : TabV W (.agg #[.slice A0 5 c0, .slice (some ⟨bo, oo, none⟩) 16 d1, .slice (some ⟨bp, op, none⟩) 16 d2]) (clsT exK))
    (hb : Blk W B 27 #[.slice A0 5 c0, .slice (some ⟨bo, oo, none⟩) 16 d1, .slice (some ⟨bp, op, none⟩) 16 d2]) : KF B A0 c0 bo oo d1 bp op d2 W := by
  obtain ⟨_, hO, hP⟩ := tab_parts h
  rw [ex_k] at hO
  obtain ⟨Ax, cx, hx, _, hxo⟩ := hO
  obtain ⟨b1, f1, rfl, hc⟩ := hxo (by decide)
  simp only [Value.slice.injEq, Option.some.injEq, Addr.mk.injEq, and_true] at hx
  obtain ⟨⟨rfl, rfl⟩, _, rfl⟩ := hx
  obtain ⟨Ay, cy, hy, _, hyo⟩ := hP
  have hnn : (clsT exK).prio ≠ [] := fun e => by have := pr_k4; rw [e] at this; cases this
  obtain ⟨b2, f2, rfl, hd⟩ := hyo hnn
  simp only [Value.slice.injEq, Option.some.injEq, Addr.mk.injEq, and_true] at hy
  obtain ⟨⟨rfl, rfl⟩, _, rfl⟩ := hy
  exact ⟨hb, h, hc 0 _ rfl, hc 1 _ rfl, hc 2 _ rfl, hc 3 _ rfl, hc 4 _ rfl, hc 5 _ rfl, hc 6 _ rfl, hc 7 _ rfl, hd 4 _ pr_k4⟩

set_option maxRecDepth 100000 in
set_option maxHeartbeats 4000000 in
theorem cknown_of (hC : OfC) (hT : TypeC) (hN : NextC) (hP : PayC) (w : World) : Calls Try.prog 7 #[] w fun e w' => e = .returned (.bool true) ∧ w.grownBy w' none := by
  have HC := Lib.hid hC
  have HTC := Lib.hid hT
  have HNC := Lib.hid hN
  have HPC := Lib.hid hP
  have HWF := Lib.hid (wf_clsT exK)
  clear hC hT hN hP
  go_enter Try.func7, Try.ntmps7
  go_upto_region 2 with (first
    | (go_at_call 23; refine (word_is _ _ _ _ _).mono ?_; rintro e W5 ⟨g5, rfl, he, hg⟩; have HW5 : Hid (w.grownBy W5 none ∧ EdS W5 [(wd 1 0 1 0, kS g1), (wd 2 1 0 2, kS g2), (wd 1 0 3 0, kS g3), (wd 2 1 4 1, kS g4), (kAl, kS W4.heap.size), (wd 1 0 1 0, kS g5)]) := Lib.hid ⟨only_trans (only_alloc HW4.out.1 _) hg, (((HW4.out.2.kept (only_alloc (only_refl _ _) _)).snoc (p := (kAl, kS W4.heap.size)) (edge_new _ _)).kept hg).snoc (p := (wd 1 0 1 0, kS g5)) he⟩; clear he hg HW4)
    | (go_at_call 23; refine (word_is _ _ _ _ _).mono ?_; rintro e W4 ⟨g4, rfl, he, hg⟩; have HW4 : Hid (w.grownBy W4 none ∧ EdS W4 [(wd 1 0 1 0, kS g1), (wd 2 1 0 2, kS g2), (wd 1 0 3 0, kS g3), (wd 2 1 4 1, kS g4)]) := Lib.hid ⟨only_trans HW3.out.1 hg, (HW3.out.2.kept hg).snoc (p := (wd 2 1 4 1, kS g4)) he⟩; clear he hg HW3)
    | (go_at_call 23; refine (word_is _ _ _ _ _).mono ?_; rintro e W3 ⟨g3, rfl, he, hg⟩; have HW3 : Hid (w.grownBy W3 none ∧ EdS W3 [(wd 1 0 1 0, kS g1), (wd 2 1 0 2, kS g2), (wd 1 0 3 0, kS g3)]) := Lib.hid ⟨only_trans HW2.out.1 hg, (HW2.out.2.kept hg).snoc (p := (wd 1 0 3 0, kS g3)) he⟩; clear he hg HW2)
    | (go_at_call 23; refine (word_is _ _ _ _ _).mono ?_; rintro e W2 ⟨g2, rfl, he, hg⟩; have HW2 : Hid (w.grownBy W2 none ∧ EdS W2 [(wd 1 0 1 0, kS g1), (wd 2 1 0 2, kS g2)]) := Lib.hid ⟨only_trans HW1.out.1 hg, (HW1.out.2.kept hg).snoc (p := (wd 2 1 0 2, kS g2)) he⟩; clear he hg HW1)
    | (go_at_call 23; refine (word_is _ _ _ _ _).mono ?_; rintro e W1 ⟨g1, rfl, he, hg⟩; have HW1 : Hid (w.grownBy W1 none ∧ EdS W1 [(wd 1 0 1 0, kS g1)]) := Lib.hid ⟨hg, fun p hp => by obtain rfl := List.mem_singleton.1 hp; exact he⟩; clear he hg)
    | fail)
  generalize hWe : World.alloc W5 _ = We
  generalize hWn : World.alloc We _ = Wn
  have g1' : W5.grownBy We none := by rw [← hWe]; exact only_alloc (only_refl _ _) _
  have g2' : We.grownBy Wn none := by rw [← hWn]; exact only_alloc (only_refl _ _) _
  have hE : EdS Wn [(wd 1 0 1 0, kS g1), (wd 2 1 0 2, kS g2), (wd 1 0 3 0, kS g3), (wd 2 1 4 1, kS g4), (kAl, kS W4.heap.size), (wd 1 0 1 0, kS g5), (kCh, kS W5.heap.size), (endN, .slice none 0 0)] := (((HW5.out.2.kept g1').snoc (p := (kCh, kS W5.heap.size)) (by rw [← hWe]; exact edge_new _ _)).snoc (p := (endN, .slice none 0 0)) (Edges.nil_ _)).kept g2'
  have hb : Blk Wn (W5.heap.size + 1) 46 (ndAll [(wd 1 0 1 0, kS g1), (wd 2 1 0 2, kS g2), (wd 1 0 3 0, kS g3), (wd 2 1 4 1, kS g4), (kAl, kS W4.heap.size), (wd 1 0 1 0, kS g5), (kCh, kS W5.heap.size), (endN, .slice none 0 0)]).toArray := by rw [← hWn]; exact blk_at (by rw [← hWe]; simp) _ _
  have hN := tbl_rows hb hE
  have HTN : Hid (Tbl Wn (.slice (some ⟨W5.heap.size + 1, 0, none⟩) 8 8) exK) := Lib.hid hN
  have HGN : Hid (w.grownBy Wn none) := Lib.hid (only_trans (only_trans HW5.out.1 g1') g2')
  clear hWe hWn g1' g2' hE hb hN HW5
  go_upto_region 3 with (first
    | (go_at_call 9; go_must (refine (HC.out exK _ _ HTN.out (by decide)).mono ?_; rw [or_k]; rintro e V1 ⟨⟨tv, rfl, ht⟩, hg⟩; have HT1 := Lib.hid ht; have HV1 : Hid (w.grownBy V1 none) := Lib.hid (only_trans HGN.out hg); obtain ⟨A0, c0, bo, oo, d1, bp, op, d2, rfl⟩ := kf_shape ht; clear hg ht HTN HGN))
    | fail)
  have hb : Blk (V1.alloc (.cells #[.slice A0 5 c0, .slice (some ⟨bo, oo, none⟩) 16 d1, .slice (some ⟨bp, op, none⟩) 16 d2] 27)) V1.heap.size 27 #[.slice A0 5 c0, .slice (some ⟨bo, oo, none⟩) 16 d1, .slice (some ⟨bp, op, none⟩) 16 d2] := Blk.new _ _ _
  have hk := kf_mk (HT1.out.keep (.grown (only_alloc (only_refl V1 none) (.cells #[.slice A0 5 c0, .slice (some ⟨bo, oo, none⟩) 16 d1, .slice (some ⟨bp, op, none⟩) 16 d2] 27)))) hb
  have HG0 : Hid (w.grownBy (V1.alloc (.cells #[.slice A0 5 c0, .slice (some ⟨bo, oo, none⟩) 16 d1, .slice (some ⟨bp, op, none⟩) 16 d2] 27)) none) := Lib.hid (only_alloc HV1.out _)
  revert HG0 hk
  clear hb HT1 HV1
  generalize V1.alloc _ = U0
  generalize V1.heap.size = B
  intro hk HG0
  have HK0 := Lib.hid hk
  clear hk
  have t0 := HK0.out.bt.cell 0
  have t1 := HK0.out.bt.cell 1
  have t2 := HK0.out.bt.cell 2
  go_upto_region 6 with (first | (go_at_call 13; go_must (refine (HTC.out (clsT exK) _ (4, 3) _ HWF.out HK0.out.tab (by decide) (by decide)).mono ?_; rw [ty_k4]; rintro e U1 ⟨rfl, hg⟩; have HK1 := Lib.hid (HK0.out.kept hg); have HG1 := Lib.hid (only_trans HG0.out hg); clear hg t0 t1 t2; have t0 := HK1.out.bt.cell 0; have t1 := HK1.out.bt.cell 1; have t2 := HK1.out.bt.cell 2)) | fail)
  go_upto_region 7 with (first | (go_at_call 13; go_must (refine (HTC.out (clsT exK) _ (7, 3) _ HWF.out HK1.out.tab (by decide) (by decide)).mono ?_; rw [ty_k7]; rintro e U2 ⟨rfl, hg⟩; have HK2 := Lib.hid (HK1.out.kept hg); have HG2 := Lib.hid (only_trans HG1.out hg); clear hg t0 t1 t2; have t0 := HK2.out.bt.cell 0; have t1 := HK2.out.bt.cell 1; have t2 := HK2.out.bt.cell 2)) | fail)
  have s : U2.grownBy U2.drew none := only_drew (only_refl _ _)
  have z := HK2.out.o6
  go_cut [8, 9] from 61 to 69 (fun u v wx => u = .int .i64 0 ∧ v = .int .i64 3 ∧ U2.grownBy wx none)
  case first =>
    go_region_held3 (fun w' => w'.cell? ⟨B, 0, none⟩ = some (.slice A0 5 c0) ∧ w'.cell? ⟨B, 1, none⟩ = some (.slice (some ⟨bo, oo, none⟩) 16 d1) ∧ w'.cell? ⟨B, 2, none⟩ = some (.slice (some ⟨bp, op, none⟩) 16 d2) ∧ w'.cell? ⟨bo, oo + 6, none⟩ = some (.int .i64 2)) (exact ⟨Keeps.grown s _ _ t0, Keeps.grown s _ _ t1, Keeps.grown s _ _ t2, Keeps.grown s _ _ z⟩) ((go_at_call 17; ((refine (HPC.out (clsT exK) _ 2 2 _ HWF.out (HK2.out.tab.keep (.grown s)) (by decide) (by decide)).mono ?_); rw [py_k6]; rintro e W8 ⟨rfl, hs⟩); replace s := only_trans s hs; clear hs))
    all_goals go_wp2_with fail
    all_goals go_meet
    all_goals exact ⟨rfl, rfl, s⟩
  case rest =>
    obtain ⟨rfl, rfl, hg⟩ := hcut
    generalize wc = U3 at *
    have HK3 := Lib.hid (HK2.out.kept hg)
    have HG3 := Lib.hid (only_trans HG2.out hg)
    clear hg t0 t1 t2 s z
    have t0 := HK3.out.bt.cell 0
    have t1 := HK3.out.bt.cell 1
    have t2 := HK3.out.bt.cell 2
    go_upto_region 8 with fail
    have s : U3.grownBy U3.drew none := only_drew (only_refl _ _)
    have z := HK3.out.o6
    go_cut [10, 11] from 70 to 78 (fun u v wx => u = .int .i64 3 ∧ v = .int .i64 0 ∧ U3.grownBy wx none)
    case first =>
      go_region_held3 (fun w' => w'.cell? ⟨B, 0, none⟩ = some (.slice A0 5 c0) ∧ w'.cell? ⟨B, 1, none⟩ = some (.slice (some ⟨bo, oo, none⟩) 16 d1) ∧ w'.cell? ⟨B, 2, none⟩ = some (.slice (some ⟨bp, op, none⟩) 16 d2) ∧ w'.cell? ⟨bo, oo + 6, none⟩ = some (.int .i64 2)) (exact ⟨Keeps.grown s _ _ t0, Keeps.grown s _ _ t1, Keeps.grown s _ _ t2, Keeps.grown s _ _ z⟩) ((go_at_call 15; ((refine (HNC.out (clsT exK) _ 2 2 0 _ HWF.out (HK3.out.tab.keep (.grown s)) (by decide) (by decide) (by decide) (by decide)).mono ?_); rw [nx_k6]; rintro e W8 ⟨rfl, hs⟩); replace s := only_trans s hs; clear hs))
      all_goals go_wp2_with fail
      all_goals go_meet
      all_goals exact ⟨rfl, rfl, s⟩
    case rest =>
      obtain ⟨rfl, rfl, hg⟩ := hcut
      generalize wc = U4 at *
      have HK4 := Lib.hid (HK3.out.kept hg)
      have HG4 := Lib.hid (only_trans HG3.out hg)
      clear hg t0 t1 t2 s z
      have t0 := HK4.out.bt.cell 0
      have t1 := HK4.out.bt.cell 1
      have t2 := HK4.out.bt.cell 2
      go_upto_region 10 with (first | (go_at_call 13; go_must (refine (HTC.out (clsT exK) _ (16, 0) _ HWF.out HK4.out.tab (by decide) (by decide)).mono ?_; rw [ty_k16]; rintro e U5 ⟨rfl, hg⟩; have HK5 := Lib.hid (HK4.out.kept hg); have HG5 := Lib.hid (only_trans HG4.out hg); clear hg t0 t1 t2; have t0 := HK5.out.bt.cell 0; have t1 := HK5.out.bt.cell 1; have t2 := HK5.out.bt.cell 2)) | fail)
      go_upto_region 11 with (first | (go_at_call 15; go_must (refine (HNC.out (clsT exK) _ 99 1 0 _ HWF.out HK5.out.tab (by decide) (by decide) (by decide) (by decide)).mono ?_; rw [nx_k99]; rintro e U6 ⟨rfl, hg⟩; have HK6 := Lib.hid (HK5.out.kept hg); have HG6 := Lib.hid (only_trans HG5.out hg); clear hg t0 t1 t2; have t0 := HK6.out.bt.cell 0; have t1 := HK6.out.bt.cell 1; have t2 := HK6.out.bt.cell 2)) | fail)
      have s : U6.grownBy U6.drew none := only_drew (only_refl _ _)
      have z := HK6.out.o0
      go_cut [16, 17] from 90 to 98 (fun u v wx => u = .int .i64 (-1) ∧ v = .int .i64 0 ∧ U6.grownBy wx none)
      case first =>
        go_region_held3 (fun w' => w'.cell? ⟨B, 0, none⟩ = some (.slice A0 5 c0) ∧ w'.cell? ⟨B, 1, none⟩ = some (.slice (some ⟨bo, oo, none⟩) 16 d1) ∧ w'.cell? ⟨B, 2, none⟩ = some (.slice (some ⟨bp, op, none⟩) 16 d2) ∧ w'.cell? ⟨bo, oo, none⟩ = some (.int .i64 0)) (exact ⟨Keeps.grown s _ _ t0, Keeps.grown s _ _ t1, Keeps.grown s _ _ t2, Keeps.grown s _ _ z⟩) ((go_at_call 17; ((refine (HPC.out (clsT exK) _ 0 1 _ HWF.out (HK6.out.tab.keep (.grown s)) (by decide) (by decide)).mono ?_); rw [py_k0]; rintro e W8 ⟨rfl, hs⟩); replace s := only_trans s hs; clear hs))
        all_goals go_wp2_with fail
        all_goals go_meet
        all_goals exact ⟨rfl, rfl, s⟩
      case rest =>
        obtain ⟨rfl, rfl, hg⟩ := hcut
        generalize wc = U7 at *
        have HK7 := Lib.hid (HK6.out.kept hg)
        have HG7 := Lib.hid (only_trans HG6.out hg)
        clear hg t0 t1 t2 s z
        have t0 := HK7.out.bt.cell 0
        have t1 := HK7.out.bt.cell 1
        have t2 := HK7.out.bt.cell 2
        go_upto_region 12 with fail
        have s : U7.grownBy U7.drew none := only_drew (only_refl _ _)
        have z := HK7.out.o0
        go_cut [18, 19] from 99 to 107 (fun u v wx => u = .int .i64 (-1) ∧ v = .int .i64 0 ∧ U7.grownBy wx none)
        case first =>
          go_region_held3 (fun w' => w'.cell? ⟨B, 0, none⟩ = some (.slice A0 5 c0) ∧ w'.cell? ⟨B, 1, none⟩ = some (.slice (some ⟨bo, oo, none⟩) 16 d1) ∧ w'.cell? ⟨B, 2, none⟩ = some (.slice (some ⟨bp, op, none⟩) 16 d2) ∧ w'.cell? ⟨bo, oo, none⟩ = some (.int .i64 0)) (exact ⟨Keeps.grown s _ _ t0, Keeps.grown s _ _ t1, Keeps.grown s _ _ t2, Keeps.grown s _ _ z⟩) ((go_at_call 15; ((refine (HNC.out (clsT exK) _ 0 1 1 _ HWF.out (HK7.out.tab.keep (.grown s)) (by decide) (by decide) (by decide) (by decide)).mono ?_); rw [nx_k01]; rintro e W8 ⟨rfl, hs⟩); replace s := only_trans s hs; clear hs))
          all_goals go_wp2_with fail
          all_goals go_meet
          all_goals exact ⟨rfl, rfl, s⟩
        case rest =>
          obtain ⟨rfl, rfl, hg⟩ := hcut
          generalize wc = U8 at *
          have HK8 := Lib.hid (HK7.out.kept hg)
          have HG8 := Lib.hid (only_trans HG7.out hg)
          clear hg t0 t1 t2 s z
          have t0 := HK8.out.bt.cell 0
          have t1 := HK8.out.bt.cell 1
          have t2 := HK8.out.bt.cell 2
          clear t0 t1 t2
          go_wp2_with (first
            | (go_at_call 23; go_must (refine (word_is _ _ _ _ _).mono ?_; rintro e X1 ⟨gx, rfl, he, hg⟩; have HX1 : Hid (U8.grownBy X1 none ∧ Edges X1 (kS gx) [(0, 0)]) := Lib.hid ⟨hg, he⟩; clear he hg))
            | (go_at_call 9; go_must (refine (HC.out [wd 1 0 0 0] _ _ (tbl_rows (ns := [(wd 1 0 0 0, kS gx)]) (Blk.new _ _ _) (fun p hp => by obtain rfl := List.mem_singleton.1 hp; exact HX1.out.2.keep (.grown (only_alloc (only_refl _ _) _)))) (by decide)).mono ?_; rw [or_bad]; generalize clsT [wd 1 0 0 0] = Tb; rintro e X2 ⟨⟨tv, rfl, ht⟩, hg⟩; obtain ⟨a0, b0, a1, b1, a2, b2, rfl⟩ := tab_shape ht; have HX2 : Hid (U8.grownBy X2 none) := Lib.hid (only_trans (only_alloc HX1.out.1 _) hg); clear ht hg HX1))
            | fail)
          have hx := only_alloc HX2.out (.cells #[.slice a0 Tb.cls.length b0, .slice a1 Tb.of_.length b1, .slice a2 Tb.prio.length b2] 27)
          revert hx
          generalize X2.alloc _ = X4
          intro hx
          have hk := HK8.out.kept hx
          have HG9 := Lib.hid (only_trans HG8.out hx)
          clear hx HX2
          simp only [List.append_eq, List.cons_append, List.nil_append]
          refine region_known (by kernel_rfl)
            [(114, .bool true), (115, .bool true), (116, .bool true), (117, .bool true), (118, .pointer (some ⟨B, 1, none⟩)), (119, .slice (some ⟨bo, oo, none⟩) 16 d1), (120, .pointer (some ⟨bo, oo + 0, none⟩)), (121, .int .i64 0), (122, .pointer (some ⟨B, 1, none⟩)), (123, .slice (some ⟨bo, oo, none⟩) 16 d1), (124, .pointer (some ⟨bo, oo + 2, none⟩)), (125, .int .i64 0), (126, .bool true), (127, .bool true), (128, .bool true), (129, .pointer (some ⟨B, 1, none⟩)), (130, .slice (some ⟨bo, oo, none⟩) 16 d1), (131, .pointer (some ⟨bo, oo + 1, none⟩)), (132, .int .i64 1), (133, .pointer (some ⟨B, 1, none⟩)), (134, .slice (some ⟨bo, oo, none⟩) 16 d1), (135, .pointer (some ⟨bo, oo + 3, none⟩)), (136, .int .i64 1), (137, .bool true), (138, .bool true), (139, .bool true), (140, .pointer (some ⟨B, 1, none⟩)), (141, .slice (some ⟨bo, oo, none⟩) 16 d1), (142, .pointer (some ⟨bo, oo + 4, none⟩)), (143, .int .i64 0), (144, .pointer (some ⟨B, 1, none⟩)), (145, .slice (some ⟨bo, oo, none⟩) 16 d1), (146, .pointer (some ⟨bo, oo + 0, none⟩)), (147, .int .i64 0), (148, .bool true), (149, .bool true), (150, .bool true), (151, .pointer (some ⟨B, 1, none⟩)), (152, .slice (some ⟨bo, oo, none⟩) 16 d1), (153, .pointer (some ⟨bo, oo + 5, none⟩)), (154, .int .i64 0), (155, .pointer (some ⟨B, 1, none⟩)), (156, .slice (some ⟨bo, oo, none⟩) 16 d1), (157, .pointer (some ⟨bo, oo + 0, none⟩)), (158, .int .i64 0), (159, .bool true), (160, .bool true), (161, .bool true), (162, .pointer (some ⟨B, 2, none⟩)), (163, .slice (some ⟨bp, op, none⟩) 16 d2), (164, .pointer (some ⟨bp, op + 4, none⟩)), (165, .int .i64 1), (166, .bool true), (167, .bool true), (168, .bool true), (169, .int .i64 0), (170, .pointer (some ⟨B, 1, none⟩)), (171, .slice (some ⟨bo, oo, none⟩) 16 d1), (172, .pointer (some ⟨bo, oo + 0, none⟩)), (173, .int .i64 0), (174, .bool true), (175, .bool true), (176, .bool true), (177, .int .i64 4), (178, .bool true), (179, .bool true), (180, .bool true), (181, .int .i64 3), (182, .pointer (some ⟨B, 1, none⟩)), (183, .slice (some ⟨bo, oo, none⟩) 16 d1), (184, .pointer (some ⟨bo, oo + 7, none⟩)), (185, .int .i64 3), (186, .bool true), (187, .bool true), (188, .bool true), (189, .int .i64 0), (190, .bool true), (191, .bool true), (192, .bool true), (193, .int .i64 0), (194, .pointer (some ⟨B, 1, none⟩)), (195, .slice (some ⟨bo, oo, none⟩) 16 d1), (196, .pointer (some ⟨bo, oo + 0, none⟩)), (197, .int .i64 0), (198, .bool true), (199, .bool true), (200, .bool true), (201, .int .i64 3), (202, .bool true), (203, .bool true), (204, .bool true), (205, .int .i64 3), (206, .pointer (some ⟨B, 1, none⟩)), (207, .slice (some ⟨bo, oo, none⟩) 16 d1), (208, .pointer (some ⟨bo, oo + 7, none⟩)), (209, .int .i64 3), (210, .bool true), (211, .bool true), (212, .bool true), (213, .int .i64 0), (214, .bool true), (215, .bool true), (216, .bool true), (217, .int .i64 (-1)), (218, .bool true), (219, .bool true), (220, .bool true), (221, .int .i64 0), (222, .bool true), (223, .bool true), (224, .bool true), (225, .int .i64 (-1)), (226, .bool true), (227, .bool true), (228, .bool true), (229, .int .i64 0), (230, .bool true), (231, .bool true), (232, .bool true), (233, .int .i64 (-1)), (234, .bool true), (235, .bool true), (236, .bool true), (237, .int .i64 0), (238, .bool true), (239, .bool true), (240, .bool true), (241, .int .i64 (-1)), (242, .bool true), (243, .bool true), (244, .bool true), (245, .int .i64 0), (246, .bool true), (247, .bool true), (248, .bool true), (249, .int .i64 10), (250, .bool true), (251, .bool true), (0, .bool true)]
            [(2, .pointer (some ⟨B, 0, none⟩)), (4, .int .i64 0), (5, .int .i64 4), (6, .int .i64 3), (7, .int .i64 0), (8, .int .i64 0), (9, .int .i64 3), (10, .int .i64 3), (11, .int .i64 0), (12, .int .i64 (-1)), (13, .int .i64 0), (14, .int .i64 (-1)), (15, .int .i64 0), (16, .int .i64 (-1)), (17, .int .i64 0), (18, .int .i64 (-1)), (19, .int .i64 0), (21, .int .i64 10)]
            (by kernel_rfl) [114, 115, 116, 117, 118, 119, 120, 121, 122, 123, 124, 125, 126, 127, 128, 129, 130, 131, 132, 133, 134, 135, 136, 137, 138, 139, 140, 141, 142, 143, 144, 145, 146, 147, 148, 149, 150, 151, 152, 153, 154, 155, 156, 157, 158, 159, 160, 161, 162, 163, 164, 165, 166, 167, 168, 169, 170, 171, 172, 173, 174, 175, 176, 177, 178, 179, 180, 181, 182, 183, 184, 185, 186, 187, 188, 189, 190, 191, 192, 193, 194, 195, 196, 197, 198, 199, 200, 201, 202, 203, 204, 205, 206, 207, 208, 209, 210, 211, 212, 213, 214, 215, 216, 217, 218, 219, 220, 221, 222, 223, 224, 225, 226, 227, 228, 229, 230, 231, 232, 233, 234, 235, 236, 237, 238, 239, 240, 241, 242, 243, 244, 245, 246, 247, 248, 249, 250, 251, 0] (by kernel_rfl) (by kernel_rfl) (by decide) (by kernel_rfl) ⟨rfl, rfl, rfl, rfl, rfl, rfl, rfl, rfl, rfl, rfl, rfl, rfl, rfl, rfl, rfl, rfl, rfl, rfl, trivial⟩ ?hops ?hQ
          case hops =>
            exact ⟨og (t := 114) (c := .bool true) rfl (by kernel_rfl) (ov_move_c rfl),
                og (t := 115) (c := .bool true) rfl (by kernel_rfl) (ov_call0 rfl  (fun W => by kernel_rfl) (fun W _ => cworks_of HC.out W)),
                og (t := 116) (c := .bool true) rfl (by kernel_rfl) (ov_pick_tt rfl (by kernel_rfl) (by kernel_rfl)),
                og (t := 117) (c := .bool true) rfl (by kernel_rfl) (ov_move rfl (by kernel_rfl)),
                og (t := 118) (c := .pointer (some ⟨B, 1, none⟩)) rfl (by kernel_rfl) (ov_fld_Table1 rfl (by kernel_rfl)),
                og (t := 119) (c := .slice (some ⟨bo, oo, none⟩) 16 d1) rfl (by kernel_rfl) (ov_ld_ints rfl (by kernel_rfl) hk.cs.1),
                og (t := 120) (c := .pointer (some ⟨bo, oo + 0, none⟩)) rfl (by kernel_rfl) (ov_ixc_ints (n := 16) (c := d1) 0 rfl (by kernel_rfl) rfl (by decide)),
                og (t := 121) (c := .int .i64 0) rfl (by kernel_rfl) (ov_ld_int rfl (by kernel_rfl) hk.o0),
                og (t := 122) (c := .pointer (some ⟨B, 1, none⟩)) rfl (by kernel_rfl) (ov_fld_Table1 rfl (by kernel_rfl)),
                og (t := 123) (c := .slice (some ⟨bo, oo, none⟩) 16 d1) rfl (by kernel_rfl) (ov_ld_ints rfl (by kernel_rfl) hk.cs.1),
                og (t := 124) (c := .pointer (some ⟨bo, oo + 2, none⟩)) rfl (by kernel_rfl) (ov_ixc_ints (n := 16) (c := d1) 2 rfl (by kernel_rfl) rfl (by decide)),
                og (t := 125) (c := .int .i64 0) rfl (by kernel_rfl) (ov_ld_int rfl (by kernel_rfl) hk.o2),
                og (t := 126) (c := .bool true) rfl (by kernel_rfl) (ov_eql_int (a := 0) (c := 0) rfl (by kernel_rfl) (by kernel_rfl) (by decide)),
                og (t := 127) (c := .bool true) rfl (by kernel_rfl) (ov_pick_tt rfl (by kernel_rfl) (by kernel_rfl)),
                og (t := 128) (c := .bool true) rfl (by kernel_rfl) (ov_move rfl (by kernel_rfl)),
                og (t := 129) (c := .pointer (some ⟨B, 1, none⟩)) rfl (by kernel_rfl) (ov_fld_Table1 rfl (by kernel_rfl)),
                og (t := 130) (c := .slice (some ⟨bo, oo, none⟩) 16 d1) rfl (by kernel_rfl) (ov_ld_ints rfl (by kernel_rfl) hk.cs.1),
                og (t := 131) (c := .pointer (some ⟨bo, oo + 1, none⟩)) rfl (by kernel_rfl) (ov_ixc_ints (n := 16) (c := d1) 1 rfl (by kernel_rfl) rfl (by decide)),
                og (t := 132) (c := .int .i64 1) rfl (by kernel_rfl) (ov_ld_int rfl (by kernel_rfl) hk.o1),
                og (t := 133) (c := .pointer (some ⟨B, 1, none⟩)) rfl (by kernel_rfl) (ov_fld_Table1 rfl (by kernel_rfl)),
                og (t := 134) (c := .slice (some ⟨bo, oo, none⟩) 16 d1) rfl (by kernel_rfl) (ov_ld_ints rfl (by kernel_rfl) hk.cs.1),
                og (t := 135) (c := .pointer (some ⟨bo, oo + 3, none⟩)) rfl (by kernel_rfl) (ov_ixc_ints (n := 16) (c := d1) 3 rfl (by kernel_rfl) rfl (by decide)),
                og (t := 136) (c := .int .i64 1) rfl (by kernel_rfl) (ov_ld_int rfl (by kernel_rfl) hk.o3),
                og (t := 137) (c := .bool true) rfl (by kernel_rfl) (ov_eql_int (a := 1) (c := 1) rfl (by kernel_rfl) (by kernel_rfl) (by decide)),
                og (t := 138) (c := .bool true) rfl (by kernel_rfl) (ov_pick_tt rfl (by kernel_rfl) (by kernel_rfl)),
                og (t := 139) (c := .bool true) rfl (by kernel_rfl) (ov_move rfl (by kernel_rfl)),
                og (t := 140) (c := .pointer (some ⟨B, 1, none⟩)) rfl (by kernel_rfl) (ov_fld_Table1 rfl (by kernel_rfl)),
                og (t := 141) (c := .slice (some ⟨bo, oo, none⟩) 16 d1) rfl (by kernel_rfl) (ov_ld_ints rfl (by kernel_rfl) hk.cs.1),
                og (t := 142) (c := .pointer (some ⟨bo, oo + 4, none⟩)) rfl (by kernel_rfl) (ov_ixc_ints (n := 16) (c := d1) 4 rfl (by kernel_rfl) rfl (by decide)),
                og (t := 143) (c := .int .i64 0) rfl (by kernel_rfl) (ov_ld_int rfl (by kernel_rfl) hk.o4),
                og (t := 144) (c := .pointer (some ⟨B, 1, none⟩)) rfl (by kernel_rfl) (ov_fld_Table1 rfl (by kernel_rfl)),
                og (t := 145) (c := .slice (some ⟨bo, oo, none⟩) 16 d1) rfl (by kernel_rfl) (ov_ld_ints rfl (by kernel_rfl) hk.cs.1),
                og (t := 146) (c := .pointer (some ⟨bo, oo + 0, none⟩)) rfl (by kernel_rfl) (ov_ixc_ints (n := 16) (c := d1) 0 rfl (by kernel_rfl) rfl (by decide)),
                og (t := 147) (c := .int .i64 0) rfl (by kernel_rfl) (ov_ld_int rfl (by kernel_rfl) hk.o0),
                og (t := 148) (c := .bool true) rfl (by kernel_rfl) (ov_eql_int (a := 0) (c := 0) rfl (by kernel_rfl) (by kernel_rfl) (by decide)),
                og (t := 149) (c := .bool true) rfl (by kernel_rfl) (ov_pick_tt rfl (by kernel_rfl) (by kernel_rfl)),
                og (t := 150) (c := .bool true) rfl (by kernel_rfl) (ov_move rfl (by kernel_rfl)),
                og (t := 151) (c := .pointer (some ⟨B, 1, none⟩)) rfl (by kernel_rfl) (ov_fld_Table1 rfl (by kernel_rfl)),
                og (t := 152) (c := .slice (some ⟨bo, oo, none⟩) 16 d1) rfl (by kernel_rfl) (ov_ld_ints rfl (by kernel_rfl) hk.cs.1),
                og (t := 153) (c := .pointer (some ⟨bo, oo + 5, none⟩)) rfl (by kernel_rfl) (ov_ixc_ints (n := 16) (c := d1) 5 rfl (by kernel_rfl) rfl (by decide)),
                og (t := 154) (c := .int .i64 0) rfl (by kernel_rfl) (ov_ld_int rfl (by kernel_rfl) hk.o5),
                og (t := 155) (c := .pointer (some ⟨B, 1, none⟩)) rfl (by kernel_rfl) (ov_fld_Table1 rfl (by kernel_rfl)),
                og (t := 156) (c := .slice (some ⟨bo, oo, none⟩) 16 d1) rfl (by kernel_rfl) (ov_ld_ints rfl (by kernel_rfl) hk.cs.1),
                og (t := 157) (c := .pointer (some ⟨bo, oo + 0, none⟩)) rfl (by kernel_rfl) (ov_ixc_ints (n := 16) (c := d1) 0 rfl (by kernel_rfl) rfl (by decide)),
                og (t := 158) (c := .int .i64 0) rfl (by kernel_rfl) (ov_ld_int rfl (by kernel_rfl) hk.o0),
                og (t := 159) (c := .bool true) rfl (by kernel_rfl) (ov_eql_int (a := 0) (c := 0) rfl (by kernel_rfl) (by kernel_rfl) (by decide)),
                og (t := 160) (c := .bool true) rfl (by kernel_rfl) (ov_pick_tt rfl (by kernel_rfl) (by kernel_rfl)),
                og (t := 161) (c := .bool true) rfl (by kernel_rfl) (ov_move rfl (by kernel_rfl)),
                og (t := 162) (c := .pointer (some ⟨B, 2, none⟩)) rfl (by kernel_rfl) (ov_fld_Table2 rfl (by kernel_rfl)),
                og (t := 163) (c := .slice (some ⟨bp, op, none⟩) 16 d2) rfl (by kernel_rfl) (ov_ld_ints rfl (by kernel_rfl) hk.cs.2.1),
                og (t := 164) (c := .pointer (some ⟨bp, op + 4, none⟩)) rfl (by kernel_rfl) (ov_ixc_ints (n := 16) (c := d2) 4 rfl (by kernel_rfl) rfl (by decide)),
                og (t := 165) (c := .int .i64 1) rfl (by kernel_rfl) (ov_ld_int rfl (by kernel_rfl) hk.p4),
                og (t := 166) (c := .bool true) rfl (by kernel_rfl) (ov_eql_int_c (a := 1) (c := 1) rfl (by kernel_rfl) (by decide)),
                og (t := 167) (c := .bool true) rfl (by kernel_rfl) (ov_pick_tt rfl (by kernel_rfl) (by kernel_rfl)),
                og (t := 168) (c := .bool true) rfl (by kernel_rfl) (ov_move rfl (by kernel_rfl)),
                og (t := 169) (c := .int .i64 0) rfl (by kernel_rfl) (ov_move rfl (by kernel_rfl)),
                og (t := 170) (c := .pointer (some ⟨B, 1, none⟩)) rfl (by kernel_rfl) (ov_fld_Table1 rfl (by kernel_rfl)),
                og (t := 171) (c := .slice (some ⟨bo, oo, none⟩) 16 d1) rfl (by kernel_rfl) (ov_ld_ints rfl (by kernel_rfl) hk.cs.1),
                og (t := 172) (c := .pointer (some ⟨bo, oo + 0, none⟩)) rfl (by kernel_rfl) (ov_ixc_ints (n := 16) (c := d1) 0 rfl (by kernel_rfl) rfl (by decide)),
                og (t := 173) (c := .int .i64 0) rfl (by kernel_rfl) (ov_ld_int rfl (by kernel_rfl) hk.o0),
                og (t := 174) (c := .bool true) rfl (by kernel_rfl) (ov_eql_int (a := 0) (c := 0) rfl (by kernel_rfl) (by kernel_rfl) (by decide)),
                og (t := 175) (c := .bool true) rfl (by kernel_rfl) (ov_pick_tt rfl (by kernel_rfl) (by kernel_rfl)),
                og (t := 176) (c := .bool true) rfl (by kernel_rfl) (ov_move rfl (by kernel_rfl)),
                og (t := 177) (c := .int .i64 4) rfl (by kernel_rfl) (ov_move rfl (by kernel_rfl)),
                og (t := 178) (c := .bool true) rfl (by kernel_rfl) (ov_eql_int_c (a := 4) (c := 4) rfl (by kernel_rfl) (by decide)),
                og (t := 179) (c := .bool true) rfl (by kernel_rfl) (ov_pick_tt rfl (by kernel_rfl) (by kernel_rfl)),
                og (t := 180) (c := .bool true) rfl (by kernel_rfl) (ov_move rfl (by kernel_rfl)),
                og (t := 181) (c := .int .i64 3) rfl (by kernel_rfl) (ov_move rfl (by kernel_rfl)),
                og (t := 182) (c := .pointer (some ⟨B, 1, none⟩)) rfl (by kernel_rfl) (ov_fld_Table1 rfl (by kernel_rfl)),
                og (t := 183) (c := .slice (some ⟨bo, oo, none⟩) 16 d1) rfl (by kernel_rfl) (ov_ld_ints rfl (by kernel_rfl) hk.cs.1),
                og (t := 184) (c := .pointer (some ⟨bo, oo + 7, none⟩)) rfl (by kernel_rfl) (ov_ixc_ints (n := 16) (c := d1) 7 rfl (by kernel_rfl) rfl (by decide)),
                og (t := 185) (c := .int .i64 3) rfl (by kernel_rfl) (ov_ld_int rfl (by kernel_rfl) hk.o7),
                og (t := 186) (c := .bool true) rfl (by kernel_rfl) (ov_eql_int (a := 3) (c := 3) rfl (by kernel_rfl) (by kernel_rfl) (by decide)),
                og (t := 187) (c := .bool true) rfl (by kernel_rfl) (ov_pick_tt rfl (by kernel_rfl) (by kernel_rfl)),
                og (t := 188) (c := .bool true) rfl (by kernel_rfl) (ov_move rfl (by kernel_rfl)),
                og (t := 189) (c := .int .i64 0) rfl (by kernel_rfl) (ov_move rfl (by kernel_rfl)),
                og (t := 190) (c := .bool true) rfl (by kernel_rfl) (ov_eql_int_c (a := 0) (c := 0) rfl (by kernel_rfl) (by decide)),
                og (t := 191) (c := .bool true) rfl (by kernel_rfl) (ov_pick_tt rfl (by kernel_rfl) (by kernel_rfl)),
                og (t := 192) (c := .bool true) rfl (by kernel_rfl) (ov_move rfl (by kernel_rfl)),
                og (t := 193) (c := .int .i64 0) rfl (by kernel_rfl) (ov_move rfl (by kernel_rfl)),
                og (t := 194) (c := .pointer (some ⟨B, 1, none⟩)) rfl (by kernel_rfl) (ov_fld_Table1 rfl (by kernel_rfl)),
                og (t := 195) (c := .slice (some ⟨bo, oo, none⟩) 16 d1) rfl (by kernel_rfl) (ov_ld_ints rfl (by kernel_rfl) hk.cs.1),
                og (t := 196) (c := .pointer (some ⟨bo, oo + 0, none⟩)) rfl (by kernel_rfl) (ov_ixc_ints (n := 16) (c := d1) 0 rfl (by kernel_rfl) rfl (by decide)),
                og (t := 197) (c := .int .i64 0) rfl (by kernel_rfl) (ov_ld_int rfl (by kernel_rfl) hk.o0),
                og (t := 198) (c := .bool true) rfl (by kernel_rfl) (ov_eql_int (a := 0) (c := 0) rfl (by kernel_rfl) (by kernel_rfl) (by decide)),
                og (t := 199) (c := .bool true) rfl (by kernel_rfl) (ov_pick_tt rfl (by kernel_rfl) (by kernel_rfl)),
                og (t := 200) (c := .bool true) rfl (by kernel_rfl) (ov_move rfl (by kernel_rfl)),
                og (t := 201) (c := .int .i64 3) rfl (by kernel_rfl) (ov_move rfl (by kernel_rfl)),
                og (t := 202) (c := .bool true) rfl (by kernel_rfl) (ov_eql_int_c (a := 3) (c := 3) rfl (by kernel_rfl) (by decide)),
                og (t := 203) (c := .bool true) rfl (by kernel_rfl) (ov_pick_tt rfl (by kernel_rfl) (by kernel_rfl)),
                og (t := 204) (c := .bool true) rfl (by kernel_rfl) (ov_move rfl (by kernel_rfl)),
                og (t := 205) (c := .int .i64 3) rfl (by kernel_rfl) (ov_move rfl (by kernel_rfl)),
                og (t := 206) (c := .pointer (some ⟨B, 1, none⟩)) rfl (by kernel_rfl) (ov_fld_Table1 rfl (by kernel_rfl)),
                og (t := 207) (c := .slice (some ⟨bo, oo, none⟩) 16 d1) rfl (by kernel_rfl) (ov_ld_ints rfl (by kernel_rfl) hk.cs.1),
                og (t := 208) (c := .pointer (some ⟨bo, oo + 7, none⟩)) rfl (by kernel_rfl) (ov_ixc_ints (n := 16) (c := d1) 7 rfl (by kernel_rfl) rfl (by decide)),
                og (t := 209) (c := .int .i64 3) rfl (by kernel_rfl) (ov_ld_int rfl (by kernel_rfl) hk.o7),
                og (t := 210) (c := .bool true) rfl (by kernel_rfl) (ov_eql_int (a := 3) (c := 3) rfl (by kernel_rfl) (by kernel_rfl) (by decide)),
                og (t := 211) (c := .bool true) rfl (by kernel_rfl) (ov_pick_tt rfl (by kernel_rfl) (by kernel_rfl)),
                og (t := 212) (c := .bool true) rfl (by kernel_rfl) (ov_move rfl (by kernel_rfl)),
                og (t := 213) (c := .int .i64 0) rfl (by kernel_rfl) (ov_move rfl (by kernel_rfl)),
                og (t := 214) (c := .bool true) rfl (by kernel_rfl) (ov_eql_int_c (a := 0) (c := 0) rfl (by kernel_rfl) (by decide)),
                og (t := 215) (c := .bool true) rfl (by kernel_rfl) (ov_pick_tt rfl (by kernel_rfl) (by kernel_rfl)),
                og (t := 216) (c := .bool true) rfl (by kernel_rfl) (ov_move rfl (by kernel_rfl)),
                og (t := 217) (c := .int .i64 (-1)) rfl (by kernel_rfl) (ov_move rfl (by kernel_rfl)),
                og (t := 218) (c := .bool true) rfl (by kernel_rfl) (ov_eql_int_c (a := (-1)) (c := (-1)) rfl (by kernel_rfl) (by decide)),
                og (t := 219) (c := .bool true) rfl (by kernel_rfl) (ov_pick_tt rfl (by kernel_rfl) (by kernel_rfl)),
                og (t := 220) (c := .bool true) rfl (by kernel_rfl) (ov_move rfl (by kernel_rfl)),
                og (t := 221) (c := .int .i64 0) rfl (by kernel_rfl) (ov_move rfl (by kernel_rfl)),
                og (t := 222) (c := .bool true) rfl (by kernel_rfl) (ov_eql_int_c (a := 0) (c := 0) rfl (by kernel_rfl) (by decide)),
                og (t := 223) (c := .bool true) rfl (by kernel_rfl) (ov_pick_tt rfl (by kernel_rfl) (by kernel_rfl)),
                og (t := 224) (c := .bool true) rfl (by kernel_rfl) (ov_move rfl (by kernel_rfl)),
                og (t := 225) (c := .int .i64 (-1)) rfl (by kernel_rfl) (ov_move rfl (by kernel_rfl)),
                og (t := 226) (c := .bool true) rfl (by kernel_rfl) (ov_eql_int_c (a := (-1)) (c := (-1)) rfl (by kernel_rfl) (by decide)),
                og (t := 227) (c := .bool true) rfl (by kernel_rfl) (ov_pick_tt rfl (by kernel_rfl) (by kernel_rfl)),
                og (t := 228) (c := .bool true) rfl (by kernel_rfl) (ov_move rfl (by kernel_rfl)),
                og (t := 229) (c := .int .i64 0) rfl (by kernel_rfl) (ov_move rfl (by kernel_rfl)),
                og (t := 230) (c := .bool true) rfl (by kernel_rfl) (ov_eql_int_c (a := 0) (c := 0) rfl (by kernel_rfl) (by decide)),
                og (t := 231) (c := .bool true) rfl (by kernel_rfl) (ov_pick_tt rfl (by kernel_rfl) (by kernel_rfl)),
                og (t := 232) (c := .bool true) rfl (by kernel_rfl) (ov_move rfl (by kernel_rfl)),
                og (t := 233) (c := .int .i64 (-1)) rfl (by kernel_rfl) (ov_move rfl (by kernel_rfl)),
                og (t := 234) (c := .bool true) rfl (by kernel_rfl) (ov_eql_int_c (a := (-1)) (c := (-1)) rfl (by kernel_rfl) (by decide)),
                og (t := 235) (c := .bool true) rfl (by kernel_rfl) (ov_pick_tt rfl (by kernel_rfl) (by kernel_rfl)),
                og (t := 236) (c := .bool true) rfl (by kernel_rfl) (ov_move rfl (by kernel_rfl)),
                og (t := 237) (c := .int .i64 0) rfl (by kernel_rfl) (ov_move rfl (by kernel_rfl)),
                og (t := 238) (c := .bool true) rfl (by kernel_rfl) (ov_eql_int_c (a := 0) (c := 0) rfl (by kernel_rfl) (by decide)),
                og (t := 239) (c := .bool true) rfl (by kernel_rfl) (ov_pick_tt rfl (by kernel_rfl) (by kernel_rfl)),
                og (t := 240) (c := .bool true) rfl (by kernel_rfl) (ov_move rfl (by kernel_rfl)),
                og (t := 241) (c := .int .i64 (-1)) rfl (by kernel_rfl) (ov_move rfl (by kernel_rfl)),
                og (t := 242) (c := .bool true) rfl (by kernel_rfl) (ov_eql_int_c (a := (-1)) (c := (-1)) rfl (by kernel_rfl) (by decide)),
                og (t := 243) (c := .bool true) rfl (by kernel_rfl) (ov_pick_tt rfl (by kernel_rfl) (by kernel_rfl)),
                og (t := 244) (c := .bool true) rfl (by kernel_rfl) (ov_move rfl (by kernel_rfl)),
                og (t := 245) (c := .int .i64 0) rfl (by kernel_rfl) (ov_move rfl (by kernel_rfl)),
                og (t := 246) (c := .bool true) rfl (by kernel_rfl) (ov_eql_int_c (a := 0) (c := 0) rfl (by kernel_rfl) (by decide)),
                og (t := 247) (c := .bool true) rfl (by kernel_rfl) (ov_pick_tt rfl (by kernel_rfl) (by kernel_rfl)),
                og (t := 248) (c := .bool true) rfl (by kernel_rfl) (ov_move rfl (by kernel_rfl)),
                og (t := 249) (c := .int .i64 10) rfl (by kernel_rfl) (ov_move rfl (by kernel_rfl)),
                og (t := 250) (c := .bool true) rfl (by kernel_rfl) (ov_eql_errno_c (a := 10) (c := 10) rfl (by kernel_rfl) (by decide)),
                og (t := 251) (c := .bool true) rfl (by kernel_rfl) (ov_pick_tt rfl (by kernel_rfl) (by kernel_rfl)),
                og (t := 0) (c := .bool true) rfl (by kernel_rfl) (ov_assign rfl (by kernel_rfl)),
                trivial⟩
          case hQ =>
            intro vs W hg hv
            have hv0 := hv 0 (.bool true) (by kernel_rfl) (by decide)
            clear hv
            simp only [List.foldl_cons, List.foldl_nil, List.setIfInBounds_toArray, List.set_cons_zero, List.set_cons_succ]
            have HGX := Lib.hid (only_trans HG9.out hg)
            have HV := Lib.hid hv0
            clear hg hv0
            go_wp2_with fail
            go_ret
            exact ⟨congrArg Ending.returned HV.out, HGX.out⟩
end Go.Proofs.Ytepjkoegbehojaa

/- Texts joined for the claim's sake: MKnw. -/
import Derived.Test.YtohhojbeclbedaaGreatDoorZMKnwRow41
import Derived.Test.YtohhojbeclbedaaGreatDoorZMKnwRow42
import Derived.Test.YtohhojbeclbedaaGreatDoorZMKnwRow51
namespace Go.Proofs.YtohhojbeclbedaaGreatDoor
open Go.RowKit

set_option maxRecDepth 100000 in
set_option maxHeartbeats 4000000 in
theorem mknown_any (w : World) (hE : ErrType w) : Calls Tryz.prog 7 #[] w fun e w' => e = .returned (.bool true) ∧ w.grownBy w' none := by
  have HE := Lib.hid hE
  clear hE
  go_enter Tryz.func7, Tryz.ntmps7
  go_upto_region 2 with fail
  generalize hW : World.alloc _ _ = w1
  have b0 : Blk w1 (w.heap.size) 62 #[.int .i64 1, .int .i64 0] := by
    rw [← hW]
    repeat (first | exact blk_new_at (by simp) _ _ | refine Blk.alloc ?_ _)
  have b1 : Blk w1 (w.heap.size + 1) 62 #[.int .i64 2, .int .i64 0, .int .i64 3, .int .i64 200] := by
    rw [← hW]
    repeat (first | exact blk_new_at (by simp) _ _ | refine Blk.alloc ?_ _)
  have b2 : Blk w1 (w.heap.size + 1 + 1) 62 #[.int .i64 0, .int .i64 5] := by
    rw [← hW]
    repeat (first | exact blk_new_at (by simp) _ _ | refine Blk.alloc ?_ _)
  have b3 : Blk w1 (w.heap.size + 1 + 1 + 1) 62 #[.int .i64 0, .int .i64 0] := by
    rw [← hW]
    repeat (first | exact blk_new_at (by simp) _ _ | refine Blk.alloc ?_ _)
  have b4 : Blk w1 (w.heap.size + 1 + 1 + 1 + 1) 65 #[.int .i64 1, .int .i64 300, .bool true, .int .i64 2, .int .i64 1, .slice (some ⟨w.heap.size, 0, none⟩) 1 1, .int .i64 4, .int .i64 4, .bool false, .int .i64 0, .int .i64 0, .slice (some ⟨w.heap.size + 1, 0, none⟩) 2 2, .int .i64 0, .int .i64 0, .bool false, .int .i64 0, .int .i64 0, .slice none 0 0, .int .i64 5, .int .i64 0, .bool false, .int .i64 0, .int .i64 0, .slice (some ⟨w.heap.size + 1 + 1, 0, none⟩) 1 1, .int .i64 2, .int .i64 0, .bool false, .int .i64 0, .int .i64 0, .slice (some ⟨w.heap.size + 1 + 1 + 1, 0, none⟩) 1 1] := by
    rw [← hW]
    repeat (first | exact blk_new_at (by simp) _ _ | refine Blk.alloc ?_ _)
  have b5 : Blk w1 (w.heap.size + 1 + 1 + 1 + 1 + 1) 69 #[.bool false, .int .i64 0, .int .i64 0, .bool true, .int .i64 1, .int .i64 130] := by
    rw [← hW]
    repeat (first | exact blk_new_at (by simp) _ _ | refine Blk.alloc ?_ _)
  have b6 : Blk w1 (w.heap.size + 1 + 1 + 1 + 1 + 1 + 1) 3 #[.int .i64 0] := by
    rw [← hW]
    repeat (first | exact blk_new_at (by simp) _ _ | refine Blk.alloc ?_ _)
  have b7 : Blk w1 (w.heap.size + 1 + 1 + 1 + 1 + 1 + 1 + 1) 52 #[.int .i64 1, .int .i64 (-1), .int .i64 0, .int .i64 0, .int .i64 0, .slice none 0 0, .int .i64 11, .int .i64 0, .int .i64 0, .int .i64 0, .int .i64 0, .slice (some ⟨w.heap.size + 1 + 1 + 1 + 1 + 1 + 1, 0, none⟩) 1 1] := by
    rw [← hW]
    repeat (first | exact blk_new_at (by simp) _ _ | refine Blk.alloc ?_ _)
  have b8 : Blk w1 (w.heap.size + 1 + 1 + 1 + 1 + 1 + 1 + 1 + 1) 50 #[.slice (some ⟨w.heap.size + 1 + 1 + 1 + 1 + 1, 0, none⟩) 2 2, .slice (some ⟨w.heap.size + 1 + 1 + 1 + 1 + 1 + 1 + 1, 0, none⟩) 2 2, .slice none 0 0] := by
    rw [← hW]
    repeat (first | exact blk_new_at (by simp) _ _ | refine Blk.alloc ?_ _)
  have b9 : Blk w1 (w.heap.size + 1 + 1 + 1 + 1 + 1 + 1 + 1 + 1 + 1) 67 #[.int .i64 1, .int .i64 2] := by
    rw [← hW]
    repeat (first | exact blk_new_at (by simp) _ _ | refine Blk.alloc ?_ _)
  have b10 : Blk w1 (w.heap.size + 1 + 1 + 1 + 1 + 1 + 1 + 1 + 1 + 1 + 1) 71 #[.bool false, .int .i64 64, .int .i64 0, .bool true, .int .i64 0, .int .i64 1] := by
    rw [← hW]
    repeat (first | exact blk_new_at (by simp) _ _ | refine Blk.alloc ?_ _)
  have b11 : Blk w1 (w.heap.size + 1 + 1 + 1 + 1 + 1 + 1 + 1 + 1 + 1 + 1 + 1) 74 #[.int .i64 0, .slice (some ⟨w.heap.size + 1 + 1 + 1 + 1 + 1 + 1 + 1 + 1 + 1 + 1, 0, none⟩) 2 2] := by
    rw [← hW]
    repeat (first | exact blk_new_at (by simp) _ _ | refine Blk.alloc ?_ _)
  have b12 : Blk w1 (w.heap.size + 1 + 1 + 1 + 1 + 1 + 1 + 1 + 1 + 1 + 1 + 1 + 1) 28 #[.slice (some ⟨w.heap.size + 1 + 1 + 1 + 1, 0, none⟩) 5 5, .slice (some ⟨w.heap.size + 1 + 1 + 1 + 1 + 1 + 1 + 1 + 1, 0, none⟩) 1 1, .slice (some ⟨w.heap.size + 1 + 1 + 1 + 1 + 1 + 1 + 1 + 1 + 1, 0, none⟩) 1 1, .slice (some ⟨w.heap.size + 1 + 1 + 1 + 1 + 1 + 1 + 1 + 1 + 1 + 1 + 1, 0, none⟩) 1 1, .slice none 0 0, .slice none 0 0, .slice none 0 0, .slice none 0 0] := by
    rw [← hW]
    repeat (first | exact blk_new_at (by simp) _ _ | refine Blk.alloc ?_ _)
  have hg : w.grownBy w1 none := by
    rw [← hW]
    repeat (first | exact only_refl _ _ | refine only_alloc ?_ _)
  clear hW
  have l4 : ListA NodE 6 (fun k => k < w1.heap.size) w1 (.slice (some ⟨w.heap.size + 1 + 1 + 1 + 1, 0, none⟩) 5 5) nodesK := ListA.of_blk (E := NodE) (sz := 6) (S := fun k => k < w1.heap.size) (W := w1) (xs := nodesK) [#[.int .i64 1, .int .i64 300, .bool true, .int .i64 2, .int .i64 1, .slice (some ⟨w.heap.size, 0, none⟩) 1 1], #[.int .i64 4, .int .i64 4, .bool false, .int .i64 0, .int .i64 0, .slice (some ⟨w.heap.size + 1, 0, none⟩) 2 2], #[.int .i64 0, .int .i64 0, .bool false, .int .i64 0, .int .i64 0, .slice none 0 0], #[.int .i64 5, .int .i64 0, .bool false, .int .i64 0, .int .i64 0, .slice (some ⟨w.heap.size + 1 + 1, 0, none⟩) 1 1], #[.int .i64 2, .int .i64 0, .bool false, .int .i64 0, .int .i64 0, .slice (some ⟨w.heap.size + 1 + 1 + 1, 0, none⟩) 1 1]] b4 rfl (by simp) b4.lt ⟨⟨_, rfl, ListA.of_blk (E := EdgE) (sz := 2) (S := fun k => k < w1.heap.size) (W := w1) (xs := [⟨1, 0⟩]) [#[.int .i64 1, .int .i64 0]] b0 rfl (by simp) b0.lt ⟨rfl, trivial⟩ (by decide)⟩, ⟨_, rfl, ListA.of_blk (E := EdgE) (sz := 2) (S := fun k => k < w1.heap.size) (W := w1) (xs := [⟨2, 0⟩, ⟨3, 200⟩]) [#[.int .i64 2, .int .i64 0], #[.int .i64 3, .int .i64 200]] b1 rfl (by simp) b1.lt ⟨rfl, rfl, trivial⟩ (by decide)⟩, ⟨_, rfl, ListA.nil_ _ _⟩, ⟨_, rfl, ListA.of_blk (E := EdgE) (sz := 2) (S := fun k => k < w1.heap.size) (W := w1) (xs := [⟨0, 5⟩]) [#[.int .i64 0, .int .i64 5]] b2 rfl (by simp) b2.lt ⟨rfl, trivial⟩ (by decide)⟩, ⟨_, rfl, ListA.of_blk (E := EdgE) (sz := 2) (S := fun k => k < w1.heap.size) (W := w1) (xs := [⟨0, 0⟩]) [#[.int .i64 0, .int .i64 0]] b3 rfl (by simp) b3.lt ⟨rfl, trivial⟩ (by decide)⟩, trivial⟩ (by decide)
  have l8 : ListA TplE 3 (fun k => k < w1.heap.size) w1 (.slice (some ⟨w.heap.size + 1 + 1 + 1 + 1 + 1 + 1 + 1 + 1, 0, none⟩) 1 1) [tplK []] := ListA.of_blk (E := TplE) (sz := 3) (S := fun k => k < w1.heap.size) (W := w1) (xs := [tplK []]) [#[.slice (some ⟨w.heap.size + 1 + 1 + 1 + 1 + 1, 0, none⟩) 2 2, .slice (some ⟨w.heap.size + 1 + 1 + 1 + 1 + 1 + 1 + 1, 0, none⟩) 2 2, .slice none 0 0]] b8 rfl (by simp) b8.lt ⟨⟨_, _, _, rfl, ListA.of_blk (E := ParE) (sz := 3) (S := fun k => k < w1.heap.size) (W := w1) (xs := (tplK []).params) [#[.bool false, .int .i64 0, .int .i64 0], #[.bool true, .int .i64 1, .int .i64 130]] b5 rfl (by simp) b5.lt ⟨rfl, rfl, trivial⟩ (by decide), ListA.of_blk (E := InsE) (sz := 6) (S := fun k => k < w1.heap.size) (W := w1) (xs := (tplK []).code) [#[.int .i64 1, .int .i64 (-1), .int .i64 0, .int .i64 0, .int .i64 0, .slice none 0 0], #[.int .i64 11, .int .i64 0, .int .i64 0, .int .i64 0, .int .i64 0, .slice (some ⟨w.heap.size + 1 + 1 + 1 + 1 + 1 + 1, 0, none⟩) 1 1]] b7 rfl (by simp) b7.lt ⟨⟨_, rfl, ⟨none, 0, rfl, fun h => absurd rfl h⟩⟩, ⟨_, rfl, (ListA.of_blk (E := IntE) (sz := 1) (S := fun k => k < w1.heap.size) (W := w1) (xs := [(0 : Int)]) [#[.int .i64 0]] b6 rfl (by simp) b6.lt ⟨rfl, trivial⟩ (by decide)).ints⟩, trivial⟩ (by decide), ListA.nil_ _ _⟩, trivial⟩ (by decide)
  have l9 : ListA EdgE 2 (fun k => k < w1.heap.size) w1 (.slice (some ⟨w.heap.size + 1 + 1 + 1 + 1 + 1 + 1 + 1 + 1 + 1, 0, none⟩) 1 1) [⟨1, 2⟩] := ListA.of_blk (E := EdgE) (sz := 2) (S := fun k => k < w1.heap.size) (W := w1) (xs := [⟨1, 2⟩]) [#[.int .i64 1, .int .i64 2]] b9 rfl (by simp) b9.lt ⟨rfl, trivial⟩ (by decide)
  have l11 : ListA StaE 2 (fun k => k < w1.heap.size) w1 (.slice (some ⟨w.heap.size + 1 + 1 + 1 + 1 + 1 + 1 + 1 + 1 + 1 + 1 + 1, 0, none⟩) 1 1) startsK := ListA.of_blk (E := StaE) (sz := 2) (S := fun k => k < w1.heap.size) (W := w1) (xs := startsK) [#[.int .i64 0, .slice (some ⟨w.heap.size + 1 + 1 + 1 + 1 + 1 + 1 + 1 + 1 + 1 + 1, 0, none⟩) 2 2]] b11 rfl (by simp) b11.lt ⟨⟨_, rfl, ListA.of_blk (E := ArgE) (sz := 3) (S := fun k => k < w1.heap.size) (W := w1) (xs := [⟨false, 64, 0⟩, ⟨true, 0, 1⟩]) [#[.bool false, .int .i64 64, .int .i64 0], #[.bool true, .int .i64 0, .int .i64 1]] b10 rfl (by simp) b10.lt ⟨rfl, rfl, trivial⟩ (by decide)⟩, trivial⟩ (by decide)
  have HG := Lib.hid hg
  have HB := Lib.hid b12
  have HM : Hid (ModR (fun k => k < w1.heap.size) w1 knownM (some ⟨w.heap.size + 1 + 1 + 1 + 1, 0, none⟩) (some ⟨w.heap.size + 1 + 1 + 1 + 1 + 1 + 1 + 1 + 1, 0, none⟩) (some ⟨w.heap.size + 1 + 1 + 1 + 1 + 1 + 1 + 1 + 1 + 1, 0, none⟩) (some ⟨w.heap.size + 1 + 1 + 1 + 1 + 1 + 1 + 1 + 1 + 1 + 1 + 1, 0, none⟩) 5 5 1 1 1 1 1 1) := Lib.hid ⟨l4, l8, l9, l11⟩
  clear b0 b1 b2 b3 b4 b5 b6 b7 b8 b9 b10 b11 b12 hg l4 l8 l9 l11
  generalize hB12 : w.heap.size + 1 + 1 + 1 + 1 + 1 + 1 + 1 + 1 + 1 + 1 + 1 + 1 = bm at *
  generalize hB11 : w.heap.size + 1 + 1 + 1 + 1 + 1 + 1 + 1 + 1 + 1 + 1 + 1 = B11 at *
  generalize hB9 : w.heap.size + 1 + 1 + 1 + 1 + 1 + 1 + 1 + 1 + 1 = B9 at *
  generalize hB8 : w.heap.size + 1 + 1 + 1 + 1 + 1 + 1 + 1 + 1 = B8 at *
  generalize hB4 : w.heap.size + 1 + 1 + 1 + 1 = B4 at *
  clear hB4 hB8 hB9 hB11 hB12
  go_upto_region 5 with fail
  obtain ⟨J, hJ⟩ : ∃ J, joined typesK codeK bootK = J := ⟨_, rfl⟩
  have HJ := Lib.hid hJ
  have HV : Hid (putV knownM = .tuple #[.string ⟨J.toArray⟩, .int .i64 0]) := Lib.hid (by unfold putV; rw [put_known, hJ])
  have HJs : Hid (J.length ≤ 1000) := Lib.hid (by
    have l1 := sev_short (n := typesK.length) (by decide)
    have l2 := sev_short (n := codeK.length) (by decide)
    have l3 := sev_short (n := bootK.length) (by decide)
    have e1 : typesK.length = 26 := rfl
    have e2 : codeK.length = 12 := rfl
    have e3 : bootK.length = 11 := rfl
    rw [← hJ]
    simp only [joined, List.length_append, sec_len]
    have : hd5.length = 5 := rfl
    omega)
  clear hJ
  refine wp_region_lit ?_
  refine wpList_load_row rfl 28 (.tmp 1) rfl bm rfl 28 #[.slice (some ⟨B4, 0, none⟩) 5 5, .slice (some ⟨B8, 0, none⟩) 1 1, .slice (some ⟨B9, 0, none⟩) 1 1, .slice (some ⟨B11, 0, none⟩) 1 1, .slice none 0 0, .slice none 0 0, .slice none 0 0, .slice none 0 0] _ _ HB.out Tryz.underlying28 rfl (by kernel_rfl) ?_
  simp only [Act.put, List.setIfInBounds_toArray, List.set_cons_zero, List.set_cons_succ]
  go_wp2_with fail
  refine (mput_any knownM _ _ _ _ _ _ _ _ _ _ _ _ _ _ _ _ _ _ _ _ _ _ _ _ w1 HM.out fit_known).mono ?_
  rintro e w2 ⟨he, g2⟩
  rw [HV.out] at he
  subst he
  have HG2 := Lib.hid (only_trans HG.out g2)
  have HB2 := Lib.hid (HB.out.kept g2)
  have HM2 := Lib.hid (HM.out.kept (KeptS.none_ g2))
  have HL2 : Hid (w1.heap.size ≤ w2.heap.size) := Lib.hid g2.size
  clear g2 HG HB HM
  go_wp2_with fail
  refine (join_any typesK codeK bootK w2).mono ?_
  rintro e w3 ⟨he, g3⟩
  have hjv : joinV typesK codeK bootK = (J, 0) := by
    unfold joinV
    rw [if_pos ⟨by decide, by decide, by decide⟩, HJ.out]
  rw [hjv] at he
  subst he
  clear hjv
  have HG3 := Lib.hid (only_trans HG2.out g3)
  have HB3 := Lib.hid (HB2.out.kept g3)
  have HM3 := Lib.hid (HM2.out.kept (KeptS.none_ g3))
  have HL3 : Hid (w1.heap.size ≤ w3.heap.size) := Lib.hid (Nat.le_trans HL2.out g3.size)
  clear g3 HG2 HB2 HM2 HL2
  go_wp2_with fail
  refine (mread_any ⟨J.toArray⟩ (by show J.toArray.size ≤ _; have := HJs.out; simp; omega) w3 (HE.out.kept HG3.out (fun _ e => by cases e))).mono ?_
  intro e w4 hr
  obtain ⟨hsp, hcu⟩ := split_of typesK codeK bootK (by decide) (by decide) (by decide) HJ.out
  obtain ⟨m', hm, hn, ht, hc, hs⟩ := read_at (partsOf typesK codeK bootK).p1 (partsOf typesK codeK bootK).p2 (partsOf typesK codeK bootK).p3
  have hrd := (hcu readT).trans hm
  obtain ⟨g4, cs, rfl, hmod⟩ := readP_ok hr hsp hrd
  clear hr hrd hcu hsp hm HV HJ
  obtain ⟨x0, x1, x2, x3, x4, x5, x6, x7, rfl, k0, k1, k2, k3, k4, k5, k6, k7⟩ := hmod
  obtain ⟨hl1, hl2⟩ := known_lists ht
  obtain ⟨X0, s0, e0, -, -⟩ := k0.slice
  rw [hn] at e0
  have e0' : x0 = .slice X0 5 s0 := e0
  subst e0'
  obtain ⟨X1, s1, e1, -, -⟩ := k1.slice
  rw [hl1] at e1
  subst e1
  obtain ⟨X2, s2, e2, -, -⟩ := k2.slice
  rw [hc] at e2
  have e2' : x2 = .slice X2 1 s2 := e2
  subst e2'
  obtain ⟨X3, s3, e3, -, -⟩ := k3.slice
  rw [hs] at e3
  have e3' : x3 = .slice X3 1 s3 := e3
  subst e3'
  obtain ⟨X4, s4, rfl, -, -⟩ := k4.slice
  obtain ⟨X5, s5, rfl, -, -⟩ := k5.slice
  obtain ⟨X6, s6, rfl, -, -⟩ := k6.slice
  obtain ⟨X7, s7, rfl, -, -⟩ := k7.slice
  clear e0 e2 e3 k4 k5 k6 k7 hl1
  have HG4 := Lib.hid (only_trans HG3.out g4)
  have HB4 := Lib.hid (HB3.out.kept g4)
  have HM4 := Lib.hid (HM3.out.kept (KeptS.none_ g4))
  have HR := Lib.hid (And.intro k0 (And.intro k1 (And.intro k2 k3)))
  have HT := Lib.hid ht
  have HLL := Lib.hid hl2
  have HN := Lib.hid hn
  have HC := Lib.hid hc
  have HS := Lib.hid hs
  clear g4 HG3 HB3 HM3 k0 k1 k2 k3 ht hl2 hn hc hs HL3
  go_upto_region 8 with fail
  generalize hW : World.alloc w4 _ = w5
  have hga : w4.grownBy w5 none := by rw [← hW]; exact only_alloc (only_refl _ _) _
  have hx5 : Blk w5 w4.heap.size 28 #[.slice X0 5 s0, .slice X1 1 s1, .slice X2 1 s2, .slice X3 1 s3, .slice X4 m'.at0.length s4, .slice X5 m'.at1.length s5, .slice X6 m'.at2.length s6, .slice X7 m'.at3.length s7] := by rw [← hW]; exact Blk.new _ _ _
  have HG5 := Lib.hid (only_trans HG4.out hga)
  have hb5 := HB4.out.kept hga
  have HSM : Hid (∀ W, w5.grownBy W none → Calls Tryz.prog 15 #[.agg #[.slice X0 5 s0, .slice X1 1 s1, .slice X2 1 s2, .slice X3 1 s3, .slice X4 m'.at0.length s4, .slice X5 m'.at1.length s5, .slice X6 m'.at2.length s6, .slice X7 m'.at3.length s7], .agg #[.slice (some ⟨B4, 0, none⟩) 5 5, .slice (some ⟨B8, 0, none⟩) 1 1, .slice (some ⟨B9, 0, none⟩) 1 1, .slice (some ⟨B11, 0, none⟩) 1 1, .slice none 0 0, .slice none 0 0, .slice none 0 0, .slice none 0 0]] W fun e w' => e = .returned (.bool true) ∧ W.grownBy w' none) := Lib.hid fun W hg => by
    have h1 := only_trans hga hg
    have hm4 := HM4.out.kept (KeptS.none_ h1)
    exact msame_any m' knownM _ _ _ _ _ _ _ _ _ _ _ _ _ _ _ _ _ _ _ _ _ _ _ _ _ _ _ _ _ _ _ _ _ _ _ _ _ _ _ _ _ _ _ _ W (HR.out.1.kept nod_ok (KeptS.none_ h1)) (HR.out.2.1.kept tpl_ok (KeptS.none_ h1)) (HR.out.2.2.1.kept edg_ok (KeptS.none_ h1)) (HR.out.2.2.2.kept sta_ok (KeptS.none_ h1)) (by rw [HN.out]; exact hm4.l0) hm4.l1 (by rw [HC.out]; exact hm4.l2) (by rw [HS.out]; exact hm4.l3) HT.out.symm HLL.out
  clear hW hga HG4
  generalize w4.heap.size = bx at *
  have c0 := hx5.cell 0
  have d0 := hb5.cell 0
  have c1 := hx5.cell 1
  have d1 := hb5.cell 1
  have c2 := hx5.cell 2
  have d2 := hb5.cell 2
  have c3 := hx5.cell 3
  have d3 := hb5.cell 3
  have c4 := hx5.cell 4
  have d4 := hb5.cell 4
  have c5 := hx5.cell 5
  have d5 := hb5.cell 5
  have c6 := hx5.cell 6
  have d6 := hb5.cell 6
  have c7 := hx5.cell 7
  have d7 := hb5.cell 7
  clear hx5 hb5
  go_wp2_with fail
  refine (HSM.out w5 (only_refl _ _)).mono ?_
  rintro e w6 ⟨rfl, g6⟩
  have HG6 := Lib.hid (only_trans HG5.out g6)
  clear g6 HG5 HSM c0 d0 c1 d1 c2 d2 c3 d3 c4 d4 c5 d5 c6 d6 c7 d7 HR HT HLL HN HC HS HM4 HB4
  have hme := make_e9
  go_upto_region 12 with fail
  clear hme
  generalize hW : World.alloc _ _ = w7
  have f0 : Blk w7 (w6.heap.size) 62 (#[.int .i64 0, .int .i64 0]) := by
    rw [← hW]
    repeat (first | exact blk_new_at (by simp) _ _ | refine Blk.alloc ?_ _)
  have f1 : Blk w7 (w6.heap.size + 1) 62 (rowZ #[.int .i64 0, .int .i64 0] 9) := by
    rw [← hW]
    repeat (first | exact blk_new_at (by simp) _ _ | refine Blk.alloc ?_ _)
  have f2 : Blk w7 (w6.heap.size + 1 + 1) 62 (#[.int .i64 64, .int .i64 0]) := by
    rw [← hW]
    repeat (first | exact blk_new_at (by simp) _ _ | refine Blk.alloc ?_ _)
  have f3 : Blk w7 (w6.heap.size + 1 + 1 + 1) 62 (#[.int .i64 0, .int .i64 1001]) := by
    rw [← hW]
    repeat (first | exact blk_new_at (by simp) _ _ | refine Blk.alloc ?_ _)
  have f4 : Blk w7 (w6.heap.size + 1 + 1 + 1 + 1) 65 (#[.int .i64 0, .int .i64 1, .bool false, .int .i64 0, .int .i64 0, .slice none 0 0, .int .i64 6, .int .i64 0, .bool false, .int .i64 0, .int .i64 0, .slice none 0 0, .int .i64 1, .int .i64 0, .bool false, .int .i64 0, .int .i64 0, .slice none 0 0, .int .i64 1, .int .i64 1001, .bool false, .int .i64 0, .int .i64 0, .slice (some ⟨w6.heap.size, 0, none⟩) 1 1, .int .i64 2, .int .i64 0, .bool false, .int .i64 1, .int .i64 0, .slice (some ⟨w6.heap.size, 0, none⟩) 1 1, .int .i64 3, .int .i64 0, .bool false, .int .i64 0, .int .i64 0, .slice none 0 0, .int .i64 3, .int .i64 0, .bool true, .int .i64 0, .int .i64 0, .slice (some ⟨w6.heap.size, 0, none⟩) 1 1, .int .i64 4, .int .i64 0, .bool false, .int .i64 0, .int .i64 0, .slice (some ⟨w6.heap.size + 1, 0, none⟩) 9 9, .int .i64 5, .int .i64 0, .bool false, .int .i64 0, .int .i64 0, .slice none 0 0, .int .i64 5, .int .i64 1, .bool false, .int .i64 0, .int .i64 0, .slice (some ⟨w6.heap.size, 0, none⟩) 1 1, .int .i64 0, .int .i64 0, .bool false, .int .i64 0, .int .i64 0, .slice (some ⟨w6.heap.size, 0, none⟩) 1 1, .int .i64 1, .int .i64 0, .bool false, .int .i64 0, .int .i64 0, .slice (some ⟨w6.heap.size + 1 + 1, 0, none⟩) 1 1, .int .i64 1, .int .i64 0, .bool false, .int .i64 0, .int .i64 0, .slice (some ⟨w6.heap.size + 1 + 1 + 1, 0, none⟩) 1 1]) := by
    rw [← hW]
    repeat (first | exact blk_new_at (by simp) _ _ | refine Blk.alloc ?_ _)
  have hg : w6.grownBy w7 none := by
    rw [← hW]
    repeat (first | exact only_refl _ _ | refine only_alloc ?_ _)
  clear hW
  have HLN : Hid (ListA NodE 6 (fun k => k < w7.heap.size) w7 (.slice (some ⟨w6.heap.size + 1 + 1 + 1 + 1, 0, none⟩) 13 13) badK) := Lib.hid (ListA.of_blk (E := NodE) (sz := 6) (S := fun k => k < w7.heap.size) (W := w7) (xs := badK) [#[.int .i64 0, .int .i64 1, .bool false, .int .i64 0, .int .i64 0, .slice none 0 0], #[.int .i64 6, .int .i64 0, .bool false, .int .i64 0, .int .i64 0, .slice none 0 0], #[.int .i64 1, .int .i64 0, .bool false, .int .i64 0, .int .i64 0, .slice none 0 0], #[.int .i64 1, .int .i64 1001, .bool false, .int .i64 0, .int .i64 0, .slice (some ⟨w6.heap.size, 0, none⟩) 1 1], #[.int .i64 2, .int .i64 0, .bool false, .int .i64 1, .int .i64 0, .slice (some ⟨w6.heap.size, 0, none⟩) 1 1], #[.int .i64 3, .int .i64 0, .bool false, .int .i64 0, .int .i64 0, .slice none 0 0], #[.int .i64 3, .int .i64 0, .bool true, .int .i64 0, .int .i64 0, .slice (some ⟨w6.heap.size, 0, none⟩) 1 1], #[.int .i64 4, .int .i64 0, .bool false, .int .i64 0, .int .i64 0, .slice (some ⟨w6.heap.size + 1, 0, none⟩) 9 9], #[.int .i64 5, .int .i64 0, .bool false, .int .i64 0, .int .i64 0, .slice none 0 0], #[.int .i64 5, .int .i64 1, .bool false, .int .i64 0, .int .i64 0, .slice (some ⟨w6.heap.size, 0, none⟩) 1 1], #[.int .i64 0, .int .i64 0, .bool false, .int .i64 0, .int .i64 0, .slice (some ⟨w6.heap.size, 0, none⟩) 1 1], #[.int .i64 1, .int .i64 0, .bool false, .int .i64 0, .int .i64 0, .slice (some ⟨w6.heap.size + 1 + 1, 0, none⟩) 1 1], #[.int .i64 1, .int .i64 0, .bool false, .int .i64 0, .int .i64 0, .slice (some ⟨w6.heap.size + 1 + 1 + 1, 0, none⟩) 1 1]] f4 rfl (by simp) f4.lt ⟨⟨_, rfl, ListA.nil_ _ _⟩, ⟨_, rfl, ListA.nil_ _ _⟩, ⟨_, rfl, ListA.nil_ _ _⟩, ⟨_, rfl, ListA.of_blk (E := EdgE) (sz := 2) (S := fun k => k < w7.heap.size) (W := w7) (xs := [⟨0, 0⟩]) [#[.int .i64 0, .int .i64 0]] f0 rfl (by simp) f0.lt ⟨rfl, trivial⟩ (by decide)⟩, ⟨_, rfl, ListA.of_blk (E := EdgE) (sz := 2) (S := fun k => k < w7.heap.size) (W := w7) (xs := [⟨0, 0⟩]) [#[.int .i64 0, .int .i64 0]] f0 rfl (by simp) f0.lt ⟨rfl, trivial⟩ (by decide)⟩, ⟨_, rfl, ListA.nil_ _ _⟩, ⟨_, rfl, ListA.of_blk (E := EdgE) (sz := 2) (S := fun k => k < w7.heap.size) (W := w7) (xs := [⟨0, 0⟩]) [#[.int .i64 0, .int .i64 0]] f0 rfl (by simp) f0.lt ⟨rfl, trivial⟩ (by decide)⟩, ⟨_, rfl, ListA.zero_ 9 (by decide) f1 rfl f1.lt rfl⟩, ⟨_, rfl, ListA.nil_ _ _⟩, ⟨_, rfl, ListA.of_blk (E := EdgE) (sz := 2) (S := fun k => k < w7.heap.size) (W := w7) (xs := [⟨0, 0⟩]) [#[.int .i64 0, .int .i64 0]] f0 rfl (by simp) f0.lt ⟨rfl, trivial⟩ (by decide)⟩, ⟨_, rfl, ListA.of_blk (E := EdgE) (sz := 2) (S := fun k => k < w7.heap.size) (W := w7) (xs := [⟨0, 0⟩]) [#[.int .i64 0, .int .i64 0]] f0 rfl (by simp) f0.lt ⟨rfl, trivial⟩ (by decide)⟩, ⟨_, rfl, ListA.of_blk (E := EdgE) (sz := 2) (S := fun k => k < w7.heap.size) (W := w7) (xs := [⟨64, 0⟩]) [#[.int .i64 64, .int .i64 0]] f2 rfl (by simp) f2.lt ⟨rfl, trivial⟩ (by decide)⟩, ⟨_, rfl, ListA.of_blk (E := EdgE) (sz := 2) (S := fun k => k < w7.heap.size) (W := w7) (xs := [⟨0, 1001⟩]) [#[.int .i64 0, .int .i64 1001]] f3 rfl (by simp) f3.lt ⟨rfl, trivial⟩ (by decide)⟩, trivial⟩ (by decide))
  have HG7 := Lib.hid (only_trans HG6.out hg)
  clear f0 f1 f2 f3 f4 hg HG6
  generalize w6.heap.size + 1 + 1 + 1 + 1 = bn at *
  go_wp2_with fail
  go_loopw [13] (fun z W => ∃ i : Nat, i ≤ 13 ∧ z = .int .i64 (i : Int) ∧ w7.grownBy W none) (fun z _ => 13 - (intOf z).toNat)
  case atStart => exact ⟨0, by omega, rfl, only_refl _ _⟩
  case round =>
    obtain ⟨i, hi, rfl, hg⟩ := hrel
    have HG := Lib.hid hg
    have hi0 : (0 : Int) ≤ (i : Int) := by omega
    clear hg
    by_cases hlt : i < 13
    · have hltI : (i : Int) < 13 := by omega
      have HK := Lib.hid hlt
      obtain ⟨x, hx⟩ : ∃ x, badK[i]? = some x := ⟨_, List.getElem?_eq_getElem (show i < 13 from hlt)⟩
      have HM : Hid (ModR (fun k => k < wr.heap.size) wr (nodM x) (some ⟨bn, i * 6, none⟩) none none none 1 (13 - i) 0 0 0 0 0 0) := Lib.hid
        ⟨by have h := (((HLN.out.kept nod_ok (KeptS.none_ HG.out)).more (S' := fun k => k < wr.heap.size) nod_ok (by omega) (fun _ _ h => h)).one_ hx (13 - i) (by omega) (by omega)); rwa [Nat.zero_add] at h, ListA.nil_ _ _, ListA.nil_ _ _, ListA.nil_ _ _⟩
      have HP : Hid (putV (nodM x) = .tuple #[.string ⟨#[]⟩, .int .i64 2]) := Lib.hid (by unfold putV; rw [put_nod (List.mem_of_getElem? hx)])
      clear hx hlt
      go_wp2_with fail
      refine (mput_any (nodM x) _ _ _ _ _ _ _ _ _ _ _ _ _ _ _ _ _ _ _ _ _ _ _ _ wr HM.out (fit_nod x)).mono ?_
      rintro e w8 ⟨he, g8⟩
      rw [HP.out] at he
      subst he
      have HG8 := Lib.hid (only_trans HG.out g8)
      clear g8 HM HP
      go_wp2_with fail
      go_roundw
      case rel => exact ⟨i + 1, by have := HK.out; omega, by go_num, HG8.out⟩
      case measure => have := HK.out; simp [intOf]; omega
    · have hge : (13 : Int) ≤ (i : Int) := by omega
      have HG8 := Lib.hid (only_trans HG7.out HG.out)
      clear hlt hi HG HG7 HLN
      go_upto_region 19 with fail
      generalize hW : World.alloc wr _ = w8
      have hb : Blk w8 wr.heap.size 71 #[.bool false, .int .i64 0, .int .i64 1, .bool true, .int .i64 1, .int .i64 0, .bool true, .int .i64 0, .int .i64 32, .bool true, .int .i64 0, .int .i64 (-1)] := by rw [← hW]; exact Blk.new _ _ _
      have HLA : Hid (ListA ArgE 3 (fun k => k < w8.heap.size) w8 (.slice (some ⟨wr.heap.size, 0, none⟩) 4 4) badA) := Lib.hid (ListA.of_blk (E := ArgE) (sz := 3) (S := fun k => k < w8.heap.size) (W := w8) (xs := badA) [#[.bool false, .int .i64 0, .int .i64 1], #[.bool true, .int .i64 1, .int .i64 0], #[.bool true, .int .i64 0, .int .i64 32], #[.bool true, .int .i64 0, .int .i64 (-1)]] hb rfl (by simp) hb.lt ⟨rfl, rfl, rfl, rfl, trivial⟩ (by decide))
      have HG9 : Hid (w.grownBy w8 none) := Lib.hid (only_trans HG8.out (by rw [← hW]; exact only_alloc (only_refl _ _) _))
      clear hW hb HG8 hge
      generalize wr.heap.size = ba at *
      generalize decide (i < 13) = q133
      go_wp2_with fail
      go_loopw [17] (fun z W => ∃ i : Nat, i ≤ 4 ∧ z = .int .i64 (i : Int) ∧ w8.grownBy W none) (fun z _ => 4 - (intOf z).toNat)
      case atStart => exact ⟨0, by omega, rfl, only_refl _ _⟩
      case round =>
        obtain ⟨i, hi, rfl, hg⟩ := hrel
        have HG := Lib.hid hg
        have hi0 : (0 : Int) ≤ (i : Int) := by omega
        clear hg
        by_cases hlt : i < 4
        · have hltI : (i : Int) < 4 := by omega
          have HK := Lib.hid hlt
          obtain ⟨x, hx⟩ : ∃ x, badA[i]? = some x := ⟨_, List.getElem?_eq_getElem (show i < 4 from hlt)⟩
          have HXM := Lib.hid (List.mem_of_getElem? hx)
          have HL1 : Hid (ListA ArgE 3 (fun k => k < wr.heap.size) wr (.slice (some ⟨ba, i * 3, none⟩) 1 (4 - i)) [x]) := Lib.hid
            (by have h := (((HLA.out.kept arg_ok (KeptS.none_ HG.out)).more (S' := fun k => k < wr.heap.size) arg_ok (by omega) (fun _ _ h => h)).one_ hx (4 - i) (by omega) (by omega)); rwa [Nat.zero_add] at h)
          have HP : Hid (putV (argM x) = .tuple #[.string ⟨#[]⟩, .int .i64 2]) := Lib.hid (by unfold putV; rw [put_arg (List.mem_of_getElem? hx)])
          clear hx hlt
          go_wp2_with fail
          have hga : wr.grownBy (wr.alloc (.cells #[.int .i64 0, .slice (some ⟨ba, i * 3, none⟩) 1 (4 - i)] 74)) none := only_alloc (only_refl _ _) _
          refine (mput_any (argM x) _ _ _ _ _ _ _ _ _ _ _ _ _ _ _ _ _ _ _ _ _ _ _ _ (wr.alloc (.cells #[.int .i64 0, .slice (some ⟨ba, i * 3, none⟩) 1 (4 - i)] 74)) ⟨ListA.nil_ _ _, ListA.nil_ _ _, ListA.nil_ _ _, one_row (Blk.new wr 74 #[.int .i64 0, .slice (some ⟨ba, i * 3, none⟩) 1 (4 - i)]) (Blk.new wr 74 #[.int .i64 0, .slice (some ⟨ba, i * 3, none⟩) 1 (4 - i)]).lt ⟨_, rfl, (HL1.out.kept arg_ok (KeptS.none_ hga)).more arg_ok (by omega) (fun _ _ h => h)⟩⟩ (fit_arg HXM.out)).mono ?_
          rintro e w9 ⟨he, g9⟩
          rw [HP.out] at he
          subst he
          have HG10 := Lib.hid (only_trans (only_trans HG.out hga) g9)
          clear g9 hga HL1 HP
          go_wp2_with fail
          go_roundw
          case rel => exact ⟨i + 1, by have := HK.out; omega, by go_num, HG10.out⟩
          case measure => have := HK.out; simp [intOf]; omega
        · have hge : (4 : Int) ≤ (i : Int) := by omega
          have HG10 := Lib.hid (only_trans HG9.out HG.out)
          clear hlt hi HG HG9 HLA
          have hmk := make_n65
          go_upto_region 25 with fail
          clear hge
          generalize decide (i < 4) = q156
          go_wp2_with fail
          clear hmk
          refine (put_many_any _ _ (Blk.new _ _ _)).mono ?_
          rintro e w9 ⟨rfl, g9⟩
          have HG11 := Lib.hid (only_trans HG10.out (only_trans (by repeat (first | exact only_refl _ _ | refine only_drew ?_ | refine only_alloc ?_ _)) g9))
          clear g9 HG10
          go_upto_region 26 with fail
          go_cut [22, 23] from 179 to 186 (fun u v W => v = .int .i64 0 ∧ w9.grownBy W none)
          case first =>
            have hm1 := make_n64
            have hm2 := make_y16
            have hm3 := make_s8
            obtain ⟨t5, h5⟩ : ∃ t, (putP fullM).1 = t := ⟨_, rfl⟩
            have HV5 := Lib.hid h5
            clear h5
            go_region_with (go_at_call 9; refine (put_full_any _ _ _ _ (by repeat (first | exact blk_new_at (by simp) _ _ | refine Blk.alloc ?_ _)) (by repeat (first | exact blk_new_at (by simp) _ _ | refine Blk.alloc ?_ _)) (by repeat (first | exact blk_new_at (by simp) _ _ | refine Blk.alloc ?_ _)) t5 HV5.out).mono ?_; rintro e w10 ⟨rfl, g10⟩; have hgz : w9.grownBy w10 none := only_trans (by repeat (first | exact only_refl _ _ | refine only_drew ?_ | refine only_alloc ?_ _)) g10; clear g10)
            all_goals clear hm1 hm2 hm3
            all_goals go_wp2_with fail
            all_goals go_meet
            all_goals exact ⟨rfl, hgz⟩
          case rest =>
            obtain ⟨rfl, hg12⟩ := hcut
            have HG12 := Lib.hid (only_trans HG11.out hg12)
            clear hg12 HG11
            generalize wc = w10 at *
            go_wp2_with fail
            refine (put_st_any _ _ (by repeat (first | exact blk_new_at (by simp) _ _ | refine Blk.alloc ?_ _))).mono ?_
            rintro e w11 ⟨rfl, g11⟩
            have HG13 := Lib.hid (only_trans HG12.out (only_trans (by repeat (first | exact only_refl _ _ | refine only_drew ?_ | refine only_alloc ?_ _)) g11))
            clear g11 HG12
            go_wp2_with fail
            refine (put_pa_any _ w11.heap.size (w11.heap.size + 1) _ (by repeat (first | exact blk_new_at (by simp) _ _ | refine Blk.alloc ?_ _)) (by repeat (first | exact blk_new_at (by simp) _ _ | refine Blk.alloc ?_ _)) (by repeat (first | exact blk_new_at (by simp) _ _ | refine Blk.alloc ?_ _))).mono ?_
            rintro e w12 ⟨rfl, g12⟩
            have HG14 := Lib.hid (only_trans HG13.out (only_trans (by repeat (first | exact only_refl _ _ | refine only_drew ?_ | refine only_alloc ?_ _)) g12))
            clear g12 HG13
            go_wp2_with fail
            refine (put_op_any _ w12.heap.size _ (by repeat (first | exact blk_new_at (by simp) _ _ | refine Blk.alloc ?_ _)) (by repeat (first | exact blk_new_at (by simp) _ _ | refine Blk.alloc ?_ _))).mono ?_
            rintro e w13 ⟨rfl, g13⟩
            have HG15 := Lib.hid (only_trans HG14.out (only_trans (by repeat (first | exact only_refl _ _ | refine only_drew ?_ | refine only_alloc ?_ _)) g13))
            clear g13 HG14
            go_wp2_with fail
            refine (mworks_any _ (HE.out.kept HG15.out (fun _ e => by cases e))).mono ?_
            rintro e w14 ⟨rfl, g14⟩
            have HG16 := Lib.hid (only_trans HG15.out g14)
            clear g14 HG15
            go_wp2_with fail
            refine (mfails_any ⟨#[67, 76, 81, 89, 1, 1, 4, 1, 3, 0, 0, 2, 1, 0, 3, 2, 0, 0]⟩ (b := [67, 76, 81, 89, 1, 1, 4, 1, 3, 0, 0, 2, 1, 0, 3, 2, 0, 0]) rfl (by decide) (x := partsOf [1, 3, 0, 0] [0] [0, 0]) (c := 2) (y := 10) (split_of [1, 3, 0, 0] [0] [0, 0] (by decide) (by decide) (by decide) joined_1).1 (((split_of [1, 3, 0, 0] [0] [0, 0] (by decide) (by decide) (by decide) joined_1).2 readT).trans flt_1) rfl _ (HE.out.kept HG16.out (fun _ e => by cases e))).mono ?_
            rintro e w15 ⟨rfl, g15⟩
            have HG17 := Lib.hid (only_trans HG16.out g15)
            clear g15 HG16
            go_wp2_with fail
            refine (mfails_any ⟨#[67, 76, 81, 89, 1, 1, 1, 0, 2, 3, 1, 0, 0, 3, 2, 0, 0]⟩ (b := [67, 76, 81, 89, 1, 1, 1, 0, 2, 3, 1, 0, 0, 3, 2, 0, 0]) rfl (by decide) (x := partsOf [0] [1, 0, 0] [0, 0]) (c := 2) (y := 12) (split_of [0] [1, 0, 0] [0, 0] (by decide) (by decide) (by decide) joined_2).1 (((split_of [0] [1, 0, 0] [0, 0] (by decide) (by decide) (by decide) joined_2).2 readT).trans flt_2) rfl _ (HE.out.kept HG17.out (fun _ e => by cases e))).mono ?_
            rintro e w16 ⟨rfl, g16⟩
            have HG18 := Lib.hid (only_trans HG17.out g16)
            clear g16 HG17
            go_wp2_with fail
            refine (mfails_any ⟨#[67, 76, 81, 89, 1, 1, 2, 0, 0, 2, 1, 0, 3, 2, 0, 0]⟩ (b := [67, 76, 81, 89, 1, 1, 2, 0, 0, 2, 1, 0, 3, 2, 0, 0]) rfl (by decide) (x := partsOf [0, 0] [0] [0, 0]) (c := 4) (y := 8) (split_of [0, 0] [0] [0, 0] (by decide) (by decide) (by decide) joined_3).1 (((split_of [0, 0] [0] [0, 0] (by decide) (by decide) (by decide) joined_3).2 readT).trans flt_3) rfl _ (HE.out.kept HG18.out (fun _ e => by cases e))).mono ?_
            rintro e w17 ⟨rfl, g17⟩
            have HG19 := Lib.hid (only_trans HG18.out g17)
            clear g17 HG18
            go_wp2_with fail
            refine (mfails_any ⟨#[67, 76, 81, 89, 1, 1, 1, 65, 2, 1, 0, 3, 2, 0, 0]⟩ (b := [67, 76, 81, 89, 1, 1, 1, 65, 2, 1, 0, 3, 2, 0, 0]) rfl (by decide) (x := partsOf [65] [0] [0, 0]) (c := 4) (y := 7) (split_of [65] [0] [0, 0] (by decide) (by decide) (by decide) joined_4).1 (((split_of [65] [0] [0, 0] (by decide) (by decide) (by decide) joined_4).2 readT).trans flt_4) rfl _ (HE.out.kept HG19.out (fun _ e => by cases e))).mono ?_
            rintro e w18 ⟨rfl, g18⟩
            have HG20 := Lib.hid (only_trans HG19.out g18)
            clear g18 HG19
            go_wp2_with fail
            refine (mfails_any ⟨#[67, 76, 81, 89, 1, 1, 1, 0, 2, 1, 0, 3, 1, 0]⟩ (b := [67, 76, 81, 89, 1, 1, 1, 0, 2, 1, 0, 3, 1, 0]) rfl (by decide) (x := partsOf [0] [0] [0]) (c := 3) (y := 14) (split_of [0] [0] [0] (by decide) (by decide) (by decide) joined_5).1 (((split_of [0] [0] [0] (by decide) (by decide) (by decide) joined_5).2 readT).trans flt_5) rfl _ (HE.out.kept HG20.out (fun _ e => by cases e))).mono ?_
            rintro e w19 ⟨rfl, g19⟩
            have HG21 := Lib.hid (only_trans HG20.out g19)
            clear g19 HG20
            go_wp2_with fail
            go_ret
            exact ⟨rfl, HG21.out⟩
end Go.Proofs.YtohhojbeclbedaaGreatDoor

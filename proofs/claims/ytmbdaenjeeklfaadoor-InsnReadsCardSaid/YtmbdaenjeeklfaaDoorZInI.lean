/- Texts joined for the claim's sake: ILaw, IWks. -/
import Derived.Test.YtmbdaenjeeklfaaDoorZInH
import Derived.Test.YtmbdaenjeeklfaaDoorZIbD
import Derived.LoopTactic
/- colloquylaw09: same, bytes, is, fails: what each answers. -/
namespace Go.Proofs.YtmbdaenjeeklfaaDoor
open Go.RowKit

set_option maxRecDepth 100000 in
set_option maxHeartbeats 4000000 in
theorem same_any {S1 S2 : Nat → Prop} (s : Sg) (op : Int) (lv2 : Value) (w : World) (h1 : IntsA S1 w s.lv s.l) (h2 : IntsA S2 w lv2 s.l) (h12 : s.l.length ≤ 1000) :
    Calls Tryd.prog 28 #[.agg (s.cells op), .agg (Sg.cells { s with lv := lv2 } op)] w fun e w' => e = .returned (.bool true) ∧ w.grownBy w' none := by
  obtain ⟨a, b, c, d, lv, l⟩ := s
  obtain ⟨A1, c1, e1, k1⟩ := h1
  obtain ⟨A2, c2, e2, k2⟩ := h2
  dsimp only at e1 k1 e2 k2 h12
  subst e1 e2
  have h0 : w.grownBy ((w.alloc (.cells #[.int .i64 op, .int .i64 a, .int .i64 b, .int .i64 c, .int .i64 d, .slice A1 l.length c1] 24)).alloc (.cells #[.int .i64 op, .int .i64 a, .int .i64 b, .int .i64 c, .int .i64 d, .slice A2 l.length c2] 24)) none := only_alloc (only_alloc (only_refl _ _) _) _
  have b1 := (Blk.new w 24 #[.int .i64 op, .int .i64 a, .int .i64 b, .int .i64 c, .int .i64 d, .slice A1 l.length c1]).alloc (.cells #[.int .i64 op, .int .i64 a, .int .i64 b, .int .i64 c, .int .i64 d, .slice A2 l.length c2] 24)
  have b2 : Blk ((w.alloc (.cells #[.int .i64 op, .int .i64 a, .int .i64 b, .int .i64 c, .int .i64 d, .slice A1 l.length c1] 24)).alloc (.cells #[.int .i64 op, .int .i64 a, .int .i64 b, .int .i64 c, .int .i64 d, .slice A2 l.length c2] 24)) (w.heap.size + 1) 24 #[.int .i64 op, .int .i64 a, .int .i64 b, .int .i64 c, .int .i64 d, .slice A2 l.length c2] := blk_new_at (by simp) _ _
  have x0 := b1.cell 0
  have x1 := b1.cell 1
  have x2 := b1.cell 2
  have x3 := b1.cell 3
  have x4 := b1.cell 4
  have x5 := b1.cell 5
  have y0 := b2.cell 0
  have y1 := b2.cell 1
  have y2 := b2.cell 2
  have y3 := b2.cell 3
  have y4 := b2.cell 4
  have y5 := b2.cell 5
  have H0 := Lib.hid h0
  have B1 := Lib.hid b1
  have B2 := Lib.hid b2
  have K1 := Lib.hid k1
  have K2 := Lib.hid k2
  clear h0 b1 b2 k1 k2
  unfold Sg.cells
  dsimp only
  go_enter Tryd.func28, Tryd.ntmps28
  go_wp2_with fail
  generalize ((w.alloc (.cells #[.int .i64 op, .int .i64 a, .int .i64 b, .int .i64 c, .int .i64 d, .slice A1 l.length c1] 24)).alloc (.cells #[.int .i64 op, .int .i64 a, .int .i64 b, .int .i64 c, .int .i64 d, .slice A2 l.length c2] 24)) = W2 at *
  clear x0 x1 x2 x3 x4 x5 y0 y1 y2 y3 y4 y5
  go_loopw [5] (fun v wr => ∃ j : Nat, v = .int .i64 (j : Int) ∧ j ≤ l.length ∧ W2.grownBy wr none) (fun v _ => l.length - (intOf v).toNat)
  case atStart => exact ⟨0, rfl, by omega, only_refl _ _⟩
  case round =>
    obtain ⟨j, rfl, hj, hg⟩ := hrel
    have x5 := (B1.out.kept hg).cell 5
    have y5 := (B2.out.kept hg).cell 5
    by_cases hlt : j < l.length
    · have hne : l ≠ [] := by intro e; rw [e] at hlt; simp at hlt
      obtain ⟨g1, o1, rfl, _, q1⟩ := K1.out hne
      obtain ⟨g2, o2, rfl, _, q2⟩ := K2.out hne
      have r1 := cell_row (cell_row (q1 j _ (List.getElem?_eq_getElem hlt)) H0.out (fun e => by cases e)) hg (fun e => by cases e)
      have r2 := cell_row (cell_row (q2 j _ (List.getElem?_eq_getElem hlt)) H0.out (fun e => by cases e)) hg (fun e => by cases e)
      generalize l[j] = z at r1 r2
      have i0 : (0 : Int) ≤ (j : Int) := by omega
      have i1 : (j : Int) < (l.length : Int) := by omega
      have HG := Lib.hid hg
      clear q1 q2 hg
      go_wp2_with fail
      go_quiet (fail)
      go_wp2_with fail
      go_roundw
      case rel => exact ⟨j + 1, by go_num, by omega, only_drewN HG.out _⟩
      case measure => simp [intOf]; omega
    · have i1 : (l.length : Int) ≤ (j : Int) := by omega
      have HG := Lib.hid hg
      clear hg
      go_wp2_with fail
      go_ret
      exact ⟨rfl, only_trans H0.out HG.out⟩

set_option maxRecDepth 100000 in
set_option maxHeartbeats 4000000 in
theorem bytes_any (s : Sg) (op : Int) (w : World) (hl : IntsA (fun b => b < w.heap.size) w s.lv s.l) (ha : Whole s.a) :
    Calls Tryd.prog 31 #[.agg (s.cells op)] w fun e w' => e = .returned (.string ⟨(if chkI (s.ins op) = 0 then bytesI (s.ins op) else []).toArray⟩) ∧ w.grownBy w' none := by
  obtain ⟨A, cp, hlv, _⟩ := id hl
  have hcl : s.cells op = #[.int .i64 op, .int .i64 s.a, .int .i64 s.b, .int .i64 s.c, .int .i64 s.d, .slice A s.l.length cp] := by unfold Sg.cells; rw [hlv]
  have h0 : w.grownBy (w.alloc (.cells (s.cells op) 24)) none := only_alloc (only_refl _ _) _
  have hb := Blk.new w 24 (s.cells op)
  have hl0 := hl.row h0 (fun _ _ e => by cases e)
  have HL : Hid (∀ W, (w.alloc (.cells (s.cells op) 24)).grownBy W none → IntsA (fun b => b < w.heap.size) W s.lv s.l) := fun W hg => hl0.row hg (fun _ _ e => by cases e)
  have HGood := fun (g : Nat) (W : World) (hw : Wtr w.heap.size W g []) (hg : (w.alloc (.cells (s.cells op) 24)).grownBy W none) (hc : chkI (s.ins op) = 0) => put_any hw (Nat.le_trans h0.size hg.size) s op (HL.out W hg) ha hc (by simp)
  have HBad := fun (pp : Option Addr) (W : World) (hg : (w.alloc (.cells (s.cells op) 24)).grownBy W none) (hc : chkI (s.ins op) ≠ 0) => put_bad (pp := pp) s op W (by
    obtain ⟨A, c, k1, k2⟩ := HL.out W hg
    refine ⟨A, c, k1, fun hn => ?_⟩
    obtain ⟨b, off, k3, k4, k5⟩ := k2 hn
    exact ⟨b, off, k3, Nat.lt_of_lt_of_le k4 (Nat.le_trans h0.size hg.size), k5⟩) hc
  obtain ⟨ck, hck⟩ : ∃ ck, chkI (s.ins op) = ck := ⟨_, rfl⟩
  rw [hck] at HGood HBad ⊢
  obtain ⟨st, hst⟩ : ∃ st, (if ck = 0 then bytesI (s.ins op) else []) = st := ⟨_, rfl⟩
  rw [hst]
  have HST := Lib.hid hst
  have H0 := Lib.hid h0
  have HB := Lib.hid hb
  rw [hcl] at HGood HBad H0 HB ⊢
  clear hl hl0 h0 hb hlv HL hcl hck hst
  go_enter Tryd.func31, Tryd.ntmps31
  go_wp2_with fail
  refine (newWriter_any w.heap.size _ H0.out.size).mono ?_
  rintro e w1 ⟨g, rfl, hge, hg1, hw1⟩
  have x0 := (HB.out.kept hg1).cell 0
  have x1 := (HB.out.kept hg1).cell 1
  have x2 := (HB.out.kept hg1).cell 2
  have x3 := (HB.out.kept hg1).cell 3
  have x4 := (HB.out.kept hg1).cell 4
  have x5 := (HB.out.kept hg1).cell 5
  have hgw : w.heap.size ≤ g := Nat.le_trans H0.out.size hge
  by_cases hc : ck = 0
  · subst hc
    have HP := HGood g w1 hw1 hg1 rfl
    clear HGood HBad
    go_wp2_with fail
    refine HP.mono ?_
    rintro e w2 ⟨rfl, hw2, ht2⟩
    rw [List.nil_append] at hw2
    have hg2 := Turn.only (only_trans H0.out hg1) ht2 (fun i hi => WS.le hgw hi)
    go_wp2_with fail
    refine (wtext_any hw2).mono ?_
    rintro e w3 ⟨rfl, rfl⟩
    go_wp2_with fail
    go_ret
    have hst : bytesI (s.ins op) = st := by simpa using HST.out
    exact ⟨by rw [← hst]; rfl, hg2⟩
  · have HP := HBad (some ⟨g, 0, none⟩) w1 hg1 hc
    have hg1' := only_trans H0.out hg1
    clear HGood HBad
    go_wp2_with fail
    refine HP.mono ?_
    rintro e w2 ⟨rfl, hg2⟩
    have HGG := Lib.hid (only_trans hg1' hg2)
    clear hg1' hg2 hg1 hw1
    go_wp2_with fail
    go_ret
    have hst : [] = st := by simpa [hc] using HST.out
    exact ⟨by rw [← hst]; rfl, HGG.out⟩

theorem str_of {t : ByteArray} {l : List UInt8} (h : t.data.toList = l) : (⟨l.toArray⟩ : ByteArray) = t := bytes_of_list h
theorem insEq {s s' : Sg} {op : Int} (h : s'.ins op = s.ins op) : s' = { s with lv := s'.lv } := by
  obtain ⟨a, b, c, d, lv, l⟩ := s
  obtain ⟨a', b', c', d', lv', l'⟩ := s'
  unfold Sg.ins at h
  injection h with h1 h2 h3 h4 h5 h6
  subst h2 h3 h4 h5 h6
  rfl

set_option maxRecDepth 100000 in
set_option maxHeartbeats 4000000 in
/-- These are an instruction's bytes, from which it is read, wholly. -/
theorem is_any (s : Sg) (op : Int) (t : ByteArray) (w : World) (hl : IntsA (fun b => b < w.heap.size) w s.lv s.l) (ha : Whole s.a) (hc : chkI (s.ins op) = 0) (ht : t.data.toList = bytesI (s.ins op)) (hs : t.size ≤ 4611686018427387904) :
    Calls Tryd.prog 33 #[.agg (s.cells op), .string t] w fun e w' => e = .returned (.bool true) ∧ w.grownBy w' none := by
  obtain ⟨A, cp, hlv, _⟩ := id hl
  have hcl : s.cells op = #[.int .i64 op, .int .i64 s.a, .int .i64 s.b, .int .i64 s.c, .int .i64 s.d, .slice A s.l.length cp] := by unfold Sg.cells; rw [hlv]
  have h8 : s.l.length ≤ 8 := (cov_parts (may_of hc).cov).2
  have hri : readI t.data.toList 0 = .ok (s.ins op) t.data.toList.length := by
    have := readI_at hc ha (bs := t.data.toList) (rest := []) (a := 0) (by rw [List.append_nil, ht]; rfl)
    rw [Nat.zero_add, ← ht] at this
    exact this
  have h0 : w.grownBy (w.alloc (.cells (s.cells op) 24)) none := only_alloc (only_refl _ _) _
  have hb := Blk.new w 24 (s.cells op)
  have hl0 := hl.row h0 (fun _ _ e => by cases e)
  have HL : Hid (∀ W, (w.alloc (.cells (s.cells op) 24)).grownBy W none → IntsA (fun b => b < w.heap.size) W s.lv s.l) := fun W hg => hl0.row hg (fun _ _ e => by cases e)
  have HBy : Hid (∀ W, (w.alloc (.cells (s.cells op) 24)).grownBy W none → Calls Tryd.prog 31 #[.agg (s.cells op)] W fun e w' => e = .returned (.string t) ∧ W.grownBy w' none) := fun W hg => by
    have := bytes_any s op W (HL.out W hg).below ha
    rw [if_pos hc, str_of ht] at this
    exact this
  have H0 := Lib.hid h0
  have HB := Lib.hid hb
  rw [hcl] at HBy H0 HB HL ⊢
  have HLV := Lib.hid hlv
  have HCL := Lib.hid hcl
  have HRI := Lib.hid hri
  clear hl hl0 h0 hb hlv hcl hc ht ha hri
  go_enter Tryd.func33, Tryd.ntmps33
  go_wp2_with fail
  refine (newReader_any t _ hs).mono ?_
  rintro e w1 ⟨g, rfl, hge, hg1, hr1⟩
  go_wp2_with fail
  refine (read_any hr1).mono ?_
  rintro e w2 hS
  rw [HRI.out] at hS
  obtain ⟨s', hs', rfl, hi2, hg2, hr2⟩ := hS
  have hop : (s.ins op).op = op := rfl
  rw [hop] at hs' ⊢
  have hse := insEq hs'
  obtain ⟨lv2, hlv2⟩ : ∃ lv2, s'.lv = lv2 := ⟨_, rfl⟩
  rw [hlv2] at hse hi2
  rw [hse] at hi2 ⊢
  obtain ⟨A2, cp2, hl2, _⟩ := id hi2
  have hl2' : lv2 = .slice A2 s.l.length cp2 := hl2
  clear hs' hse hlv2 hl2
  subst hl2'
  have hcl2 : Sg.cells { s with lv := .slice A2 s.l.length cp2 } op = #[.int .i64 op, .int .i64 s.a, .int .i64 s.b, .int .i64 s.c, .int .i64 s.d, .slice A2 s.l.length cp2] := rfl
  have hge0 : w.heap.size ≤ g := Nat.le_trans H0.out.size hge
  have hb2 := HB.out.kept hg1
  obtain ⟨cg, hbg⟩ := hr1.blk
  have hb3 := hb2.grown hg2 (fun e => Blk.ne_ hb2 hbg (by decide) (by injection e))
  have hg02 : (w.alloc (.cells #[.int .i64 op, .int .i64 s.a, .int .i64 s.b, .int .i64 s.c, .int .i64 s.d, .slice A s.l.length cp] 24)).grownBy w2 none := only_new hg1 hg2 hge
  rw [hcl2]
  have hg3 : w2.grownBy (w2.alloc (.cells #[.int .i64 op, .int .i64 s.a, .int .i64 s.b, .int .i64 s.c, .int .i64 s.d, .slice A2 s.l.length cp2] 24)) none := only_alloc (only_refl _ _) _
  have hy3 := Blk.new w2 24 #[.int .i64 op, .int .i64 s.a, .int .i64 s.b, .int .i64 s.c, .int .i64 s.d, .slice A2 s.l.length cp2]
  have hx3 := hb3.kept hg3
  have hi3 := hi2.row hg3 (fun _ _ e => by cases e)
  have hr3 := hr2.kept hg3
  have hg03 := only_trans hg02 hg3
  have HB3 := HBy.out _ hg03
  have hli3 := HL.out _ hg03
  clear hg3 hb3 hb2 hi2 hr2 hg02 hg2 hg1 hr1 hbg HBy hcl2
  have x0 := hx3.cell 0
  have x1 := hx3.cell 1
  have x2 := hx3.cell 2
  have x3 := hx3.cell 3
  have x4 := hx3.cell 4
  have x5 := hx3.cell 5
  go_wp2_with fail
  refine HB3.mono ?_
  rintro e w4 ⟨rfl, hg4⟩
  have hli4 := hli3.row hg4 (fun _ _ e => by cases e)
  have hi4 := hi3.row hg4 (fun _ _ e => by cases e)
  have HSm := same_any s op _ w4 hli4 hi4 (by omega)
  rw [HCL.out] at HSm
  have hx4 := hx3.kept hg4
  have hy4 := hy3.kept hg4
  have HR4 := Lib.hid (hr3.kept hg4)
  have HG4 := Lib.hid (only_trans hg03 hg4)
  clear x0 x1 x2 x3 x4 x5 hli3 hi3 hli4 hi4 hg4 hr3 hg03 HB3 hx3 hy3
  have x0 := hx4.cell 0
  have x1 := hx4.cell 1
  have x2 := hx4.cell 2
  have x3 := hx4.cell 3
  have x4 := hx4.cell 4
  have x5 := hx4.cell 5
  have y0 := hy4.cell 0
  have y1 := hy4.cell 1
  have y2 := hy4.cell 2
  have y3 := hy4.cell 3
  have y4 := hy4.cell 4
  have y5 := hy4.cell 5
  clear hx4 hy4
  have HSm' : Calls Tryd.prog 28 #[.agg #[.int .i64 op, .int .i64 s.a, .int .i64 s.b, .int .i64 s.c, .int .i64 s.d, .slice A s.l.length cp], .agg #[.int .i64 op, .int .i64 s.a, .int .i64 s.b, .int .i64 s.c, .int .i64 s.d, .slice A2 s.l.length cp2]] w4 fun e w' => e = .returned (.bool true) ∧ w4.grownBy w' none := HSm
  clear HSm
  go_wp2_with fail
  refine HSm'.mono ?_
  rintro e w5 ⟨rfl, hg5⟩
  have HE := end_ok (HR4.out.kept hg5) rfl
  have HG5 := Lib.hid (only_trans HG4.out hg5)
  clear hg5 HSm'
  go_wp2_with fail
  refine HE.mono ?_
  rintro e w6 ⟨rfl, hg6⟩
  have HG6 := Lib.hid (only_trans H0.out (only_trans HG5.out hg6))
  clear hg6 HE
  go_wp2_with fail
  go_ret
  exact ⟨rfl, HG6.out⟩

theorem zero_ints (S : Nat → Prop) (w : World) : IntsA S w (.slice none 0 0) [] := ⟨none, 0, rfl, fun h => absurd rfl h⟩
set_option maxRecDepth 100000 in
set_option maxHeartbeats 4000000 in
/-- This is the fault of reading. -/
theorem fails_any (t : ByteArray) (c : Int) (y b : Nat) (w : World) (hE : ErrType w) (hr : readI t.data.toList 0 = .flt c y b) (hs : t.size ≤ 4611686018427387904) :
    Calls Tryd.prog 32 #[.string t, .int .i64 c, .int .i64 (y : Int)] w fun e w' => e = .returned (.bool true) ∧ w.grownBy w' none := by
  have hc : (c == 0) = false := by simpa using readI_flt hr
  go_enter Tryd.func32, Tryd.ntmps32
  go_wp2_with fail
  refine (newReader_any t _ hs).mono ?_
  rintro e w1 ⟨g, rfl, hge, hg1, hr1⟩
  go_wp2_with fail
  refine (read_any hr1).mono ?_
  rintro e w2 hS
  rw [hr] at hS
  obtain ⟨fb, rfl, hf, hfge, hg2, hr2⟩ := hS
  have hg02 : w.grownBy w2 none := only_new hg1 hg2 hge
  have hg3 : w2.grownBy (w2.alloc (.cells zI 24)) none := only_alloc (only_refl _ _) _
  have hz3 := Blk.new w2 24 zI
  have hE3 : ErrType (w2.alloc (.cells zI 24)) := hE.kept (only_trans hg02 hg3) (fun k e => by cases e)
  have HT := told_hit fb c (y : Int) _ hE3 (hf.alloc (.cells zI 24)) hc
  have HG3 := Lib.hid (only_trans hg02 hg3)
  clear hg3 hg02 hg2 hg1 hr1 hr2 hf hE hE3 hr
  unfold zI at *
  go_wp2_with fail
  refine HT.mono ?_
  rintro e w4 ⟨rfl, hg4⟩
  have hz4 := hz3.kept hg4
  have z0 := hz4.cell 0
  have z1 := hz4.cell 1
  have z2 := hz4.cell 2
  have z3 := hz4.cell 3
  have z4 := hz4.cell 4
  have z5 := hz4.cell 5
  have HSm : Calls Tryd.prog 28 #[.agg #[.int .i64 0, .int .i64 0, .int .i64 0, .int .i64 0, .int .i64 0, .slice none 0 0], .agg #[.int .i64 0, .int .i64 0, .int .i64 0, .int .i64 0, .int .i64 0, .slice none 0 0]] w4 fun e w' => e = .returned (.bool true) ∧ w4.grownBy w' none :=
    same_any ⟨0, 0, 0, 0, .slice none 0 0, []⟩ 0 (.slice none 0 0) w4 (zero_ints (fun _ => True) w4) (zero_ints (fun _ => True) w4) (by simp)
  have HG4 := Lib.hid (only_trans HG3.out hg4)
  clear hz3 hz4 hg4 HT
  go_wp2_with fail
  refine HSm.mono ?_
  rintro e w5 ⟨rfl, hg5⟩
  have HG5 := Lib.hid (only_trans HG4.out hg5)
  clear hg5
  go_wp2_with fail
  go_ret
  exact ⟨rfl, HG5.out⟩
end Go.Proofs.YtmbdaenjeeklfaaDoor

/- colloquylaw09: works: the chapter's examples. -/
namespace Go.Proofs.YtmbdaenjeeklfaaDoor
open Go.RowKit

/-- A number's bytes, reckoned. -/
def sevF : Nat → Nat → List UInt8
  | 0, _ => []
  | f + 1, n => if n < 128 then [UInt8.ofNat n] else UInt8.ofNat (n % 128 + 128) :: sevF f (n / 128)
theorem sevF_eq : ∀ (f n : Nat), n < 128 ^ (f + 1) → sevF (f + 1) n = sev n
  | 0, n, h => by rw [sevF, if_pos (by omega), sev_lt (by omega)]
  | f + 1, n, h => by
    rw [sevF]
    split
    · rw [sev_lt (by assumption)]
    · rw [sev_ge (by omega), sevF_eq f (n / 128) (by rw [Nat.pow_succ] at h; omega)]
def fBF (x : Ins) (k : Fld) : List UInt8 := if isA k then sevF 11 (foldN x.a) else sevF 11 (val x k).toNat
def bytesF (x : Ins) : List UInt8 := UInt8.ofNat x.op.toNat :: (hdF (clI x.op) ++ els x.l.length).flatMap (fBF x)
theorem bytesF_eq {x : Ins} (hc : chkI x = 0) (ha : Whole x.a) : bytesI x = bytesF x := by
  have hm := may_of hc
  have H : ∀ l : List Fld, (∀ k ∈ l, isA k = true ∨ (0 ≤ val x k ∧ val x k ≤ (kOf (fmOf (clI x.op)) k).most)) → l.flatMap (fB x) = l.flatMap (fBF x) := by
    intro l
    induction l with
    | nil => intro _; rfl
    | cons k l ih =>
      intro h
      rw [List.flatMap_cons, List.flatMap_cons, ih (fun j hj => h j (List.mem_cons_of_mem _ hj))]
      congr 1
      unfold fB fBF
      split
      · have := foldN_lt ha
        exact (sevF_eq 10 _ (by omega)).symm
      · rename_i hn
        have h1 := (h k (List.mem_cons_self)).resolve_left (by simpa using hn)
        have h2 := kOf_le (clI x.op) k
        exact (sevF_eq 10 _ (by omega)).symm
  unfold bytesI bytesF opsB
  rw [H _ hm.in_]
/-- What is asked of an example. -/
def exB (x : Ins) (t : ByteArray) : Bool := chkI x == 0 && decide (-9223372036854775808 ≤ x.a) && decide (x.a ≤ 9223372036854775807) && t.data.toList == bytesF x && decide (t.size ≤ 1000)
theorem ex_is {w : World} (s : Sg) (op : Int) (t : ByteArray) (hl : IntsA (fun b => b < w.heap.size) w s.lv s.l) (h : exB (s.ins op) t = true) :
    Calls Tryd.prog 33 #[.agg (s.cells op), .string t] w fun e w' => e = .returned (.bool true) ∧ w.grownBy w' none := by
  simp only [exB, Bool.and_eq_true, beq_iff_eq, decide_eq_true_eq] at h
  obtain ⟨⟨⟨⟨h1, h2⟩, h3⟩, h4⟩, h5⟩ := h
  exact is_any s op t w hl ⟨h2, h3⟩ h1 (h4.trans (bytesF_eq h1 ⟨h2, h3⟩).symm) (by omega)
theorem ints_none (w : World) : IntsA (fun b => b < w.heap.size) w (.slice none 0 0) [] := ⟨none, 0, rfl, fun h => absurd rfl h⟩
theorem ints_lit (w : World) (l : List Int) (n : Nat) (hn : l.length = n) : IntsA (fun b => b < (w.alloc (.cells (l.map zV).toArray 3)).heap.size) (w.alloc (.cells (l.map zV).toArray 3)) (.slice (some ⟨w.heap.size, 0, none⟩) n n) l := by
  subst hn
  refine ⟨_, _, rfl, fun _ => ⟨w.heap.size, 0, rfl, by show w.heap.size < _; simp, fun i z hz => ?_⟩⟩
  rw [Nat.zero_add, (Blk.new w 3 (l.map zV).toArray).cell i]
  simp only [List.getElem?_toArray, List.getElem?_map, hz]
  rfl

set_option maxRecDepth 100000 in
set_option maxHeartbeats 4000000 in
theorem iworks_any (w : World) (hE : ErrType w) :
    Calls Tryd.prog 19 #[] w fun e w' => e = .returned (.bool true) ∧ w.grownBy w' none := by
  have HE := Lib.hid hE
  have G0 := Lib.hid (only_refl w none)
  clear hE
  go_enter Tryd.func19, Tryd.ntmps19
  go_wp2_with fail
  refine (ex_is ⟨0, 0, 0, 0, .slice none 0 0, []⟩ 0 ⟨#[0]⟩ (ints_none _) (by kernel_rfl)).mono ?_
  rintro e w1 ⟨rfl, hg⟩
  have G1 := Lib.hid (only_trans G0.out hg)
  clear hg
  go_wp2_with fail
  refine (ex_is ⟨-2, 0, 0, 0, .slice none 0 0, []⟩ 1 ⟨#[1, 3]⟩ (ints_none _) (by kernel_rfl)).mono ?_
  rintro e w2 ⟨rfl, hg⟩
  have G2 := Lib.hid (only_trans G1.out hg)
  clear hg
  go_wp2_with fail
  refine (ex_is ⟨0, 3, 0, 0, .slice none 0 0, []⟩ 9 ⟨#[9, 3]⟩ (ints_none _) (by kernel_rfl)).mono ?_
  rintro e w3 ⟨rfl, hg⟩
  have G3 := Lib.hid (only_trans G2.out hg)
  clear hg
  go_wp2_with fail
  refine (ex_is ⟨0, 1, 2, 0, .slice none 0 0, []⟩ 16 ⟨#[16, 1, 2]⟩ (ints_none _) (by kernel_rfl)).mono ?_
  rintro e w4 ⟨rfl, hg⟩
  have G4 := Lib.hid (only_trans G3.out hg)
  clear hg
  go_wp2_with fail
  refine (ex_is ⟨0, 0, 0, 0, .slice (some ⟨w4.heap.size, 0, none⟩) 1 1, [5]⟩ 11 ⟨#[11, 5]⟩ (ints_lit w4 [5] 1 rfl) (by kernel_rfl)).mono ?_
  rintro e w5 ⟨rfl, hg⟩
  have G5 := Lib.hid (only_trans (only_alloc G4.out _) hg)
  clear hg
  go_wp2_with fail
  refine (ex_is ⟨0, 0, 0, 0, .slice (some ⟨w5.heap.size, 0, none⟩) 1 1, [127]⟩ 12 ⟨#[12, 127]⟩ (ints_lit w5 [127] 1 rfl) (by kernel_rfl)).mono ?_
  rintro e w6 ⟨rfl, hg⟩
  have G6 := Lib.hid (only_trans (only_alloc G5.out _) hg)
  clear hg
  go_wp2_with fail
  refine (ex_is ⟨0, 1, 7, 0, .slice none 0 0, []⟩ 18 ⟨#[18, 1, 7]⟩ (ints_none _) (by kernel_rfl)).mono ?_
  rintro e w7 ⟨rfl, hg⟩
  have G7 := Lib.hid (only_trans G6.out hg)
  clear hg
  go_wp2_with fail
  refine (ex_is ⟨0, 0, 0, 0, .slice (some ⟨w7.heap.size, 0, none⟩) 2 2, [4, 9]⟩ 19 ⟨#[19, 0, 2, 4, 9]⟩ (ints_lit w7 [4, 9] 2 rfl) (by kernel_rfl)).mono ?_
  rintro e w8 ⟨rfl, hg⟩
  have G8 := Lib.hid (only_trans (only_alloc G7.out _) hg)
  clear hg
  go_wp2_with fail
  refine (ex_is ⟨0, 2, 0, 300, .slice (some ⟨w8.heap.size, 0, none⟩) 2 2, [0, 1]⟩ 20 ⟨#[20, 2, 172, 2, 0, 1]⟩ (ints_lit w8 [0, 1] 2 rfl) (by kernel_rfl)).mono ?_
  rintro e w9 ⟨rfl, hg⟩
  have G9 := Lib.hid (only_trans (only_alloc G8.out _) hg)
  clear hg
  go_wp2_with fail
  refine (ex_is ⟨0, 1, 0, 0, .slice (some ⟨w9.heap.size, 0, none⟩) 2 2, [0, 3]⟩ 21 ⟨#[21, 1, 2, 0, 3]⟩ (ints_lit w9 [0, 3] 2 rfl) (by kernel_rfl)).mono ?_
  rintro e w10 ⟨rfl, hg⟩
  have G10 := Lib.hid (only_trans (only_alloc G9.out _) hg)
  clear hg
  go_wp2_with fail
  refine (ex_is ⟨0, 0, 0, 0, .slice none 0 0, []⟩ 24 ⟨#[24]⟩ (ints_none _) (by kernel_rfl)).mono ?_
  rintro e w11 ⟨rfl, hg⟩
  have G11 := Lib.hid (only_trans G10.out hg)
  clear hg
  go_wp2_with fail
  refine (fails_any ⟨#[]⟩ 3 0 0 _ (HE.out.kept G11.out (fun k e => by cases e)) (by kernel_rfl) (by decide)).mono ?_
  rintro e w12 ⟨rfl, hg⟩
  have G12 := Lib.hid (only_trans G11.out hg)
  clear hg
  go_wp2_with fail
  refine (fails_any ⟨#[25]⟩ 11 0 1 _ (HE.out.kept G12.out (fun k e => by cases e)) (by kernel_rfl) (by decide)).mono ?_
  rintro e w13 ⟨rfl, hg⟩
  have G13 := Lib.hid (only_trans G12.out hg)
  clear hg
  go_wp2_with fail
  refine (fails_any ⟨#[16, 1, 1]⟩ 2 0 3 _ (HE.out.kept G13.out (fun k e => by cases e)) (by kernel_rfl) (by decide)).mono ?_
  rintro e w14 ⟨rfl, hg⟩
  have G14 := Lib.hid (only_trans G13.out hg)
  clear hg
  go_wp2_with fail
  refine (fails_any ⟨#[19, 0, 0]⟩ 2 0 3 _ (HE.out.kept G14.out (fun k e => by cases e)) (by kernel_rfl) (by decide)).mono ?_
  rintro e w15 ⟨rfl, hg⟩
  have G15 := Lib.hid (only_trans G14.out hg)
  clear hg
  go_wp2_with fail
  refine (fails_any ⟨#[9, 16]⟩ 4 1 2 _ (HE.out.kept G15.out (fun k e => by cases e)) (by kernel_rfl) (by decide)).mono ?_
  rintro e w16 ⟨rfl, hg⟩
  have G16 := Lib.hid (only_trans G15.out hg)
  clear hg
  go_wp2_with fail
  refine (fails_any ⟨#[19, 0, 9]⟩ 4 2 3 _ (HE.out.kept G16.out (fun k e => by cases e)) (by kernel_rfl) (by decide)).mono ?_
  rintro e w17 ⟨rfl, hg⟩
  have G17 := Lib.hid (only_trans G16.out hg)
  clear hg
  go_wp2_with fail
  refine (fails_any ⟨#[11, 128, 1]⟩ 4 1 3 _ (HE.out.kept G17.out (fun k e => by cases e)) (by kernel_rfl) (by decide)).mono ?_
  rintro e w18 ⟨rfl, hg⟩
  have G18 := Lib.hid (only_trans G17.out hg)
  clear hg
  go_wp2_with fail
  go_ret
  exact ⟨rfl, G18.out⟩
end Go.Proofs.YtmbdaenjeeklfaaDoor

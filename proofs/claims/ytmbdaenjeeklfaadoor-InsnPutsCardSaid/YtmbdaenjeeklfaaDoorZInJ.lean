/- Texts joined for the claim's sake: IOpn, ICut. -/
import Derived.Test.YtmbdaenjeeklfaaDoorRowKit
import Derived.Test.YtmbdaenjeeklfaaDoorZInB
import Derived.OpenShut
import Derived.Deep.SlicePairs
import Derived.Deep.Slices
import Derived.Deep.Fields
import Derived.Lib.SmallJoins
import Derived.Test.YtmbdaenjeeklfaaDoorZInI
import Derived.Test.YtmbdaenjeeklfaaDoorZIbF
/- For the rows: an instruction that was handed in, and a list of such. -/
namespace Go.Proofs.YtmbdaenjeeklfaaDoor
open Go.ChangeShapes Go.WideShapes Go.RowKit Go.Deep

theorem cells_i : Tryd.prog.cellsOf 3 = 1 := by kernel_rfl
theorem cells_i64 : Tryd.prog.cellsOf 2 = 1 := by kernel_rfl
theorem cells_is : Tryd.prog.cellsOf 22 = 1 := by kernel_rfl
theorem cells_insn : Tryd.prog.cellsOf 24 = 6 := by kernel_rfl
/-- A slice whose row lies in memory that is there, with its room. -/
def IntsR (W : World) (v : Value) (zs : List Int) : Prop := IntsA (fun b => b < W.heap.size) W v zs ∧ ∃ A c, v = .slice A zs.length c ∧ zs.length ≤ c ∧ c ≤ 9223372036854775807
section
variable {H : Type} {enc : TypeId × Value → H} {W : World} {sp : Nat → Bool} {fuel : Nat} {x : DataW H × List MemPlace}
theorem ints_of (hsp : ∀ b, sp b = true) {v : Value} (h : DataW.trod enc Tryd.prog W 0 sp true fuel 22 [v] = some x) : ∃ zs : List Int, IntsR W v zs := by
  rcases open_ints Tryd.underlying22 Tryd.underlying3 cells_i h with ⟨hcs, _⟩ | ⟨a, len, cap, zs, hcs, _, hl, hcm, hz, _, hcell, hwf⟩
  · simp only [List.cons.injEq, and_true] at hcs
    subst hcs
    exact ⟨[], ⟨none, 0, rfl, fun hn => absurd rfl hn⟩, none, 0, rfl, by simp, by simp⟩
  · simp only [List.cons.injEq, and_true] at hcs
    subst hcs
    rw [hsp, if_pos rfl] at hz
    have hlen : (zs.take len).length = len := by rw [List.length_take]; omega
    obtain ⟨b, off, spot⟩ := a
    refine ⟨zs.take len, ⟨some ⟨b, off, spot⟩, cap, by rw [hlen], fun hn => ?_⟩, some ⟨b, off, spot⟩, cap, by rw [hlen], by rw [hlen]; exact hl, by unfold maxLen at hcm; omega⟩
    have h0 : 0 < len := by
      rcases Nat.eq_zero_or_pos len with e | e
      · subst e; simp at hn
      · exact e
    have hspot : spot = none := by simpa [Addr.add] using World.cell?_spot (hcell 0 (by omega))
    subst hspot
    have hc : ∀ (i : Nat) (z : Int), (zs.take len)[i]? = some z → W.cell? ⟨b, off + i, none⟩ = some (.int .i64 z) := fun i x hx => by
      rw [List.getElem?_take] at hx
      split at hx
      · have hi : i < zs.length := (List.getElem?_eq_some_iff.1 hx).1
        have := hcell i hi
        rw [add_plain] at this
        rw [this]
        rw [List.getD_eq_getElem?_getD, hx]
        rfl
      · cases hx
    refine ⟨b, off, rfl, ?_, hc⟩
    have h6 := hc 0 _ (List.getElem?_eq_getElem (by rw [hlen]; exact h0))
    show b < W.heap.size
    rcases Nat.lt_or_ge b W.heap.size with hl | hl
    · exact hl
    · unfold World.cell? at h6
      rw [Array.getElem?_eq_none hl] at h6
      simp at h6
set_option maxRecDepth 100000 in
theorem insn_of (hsp : ∀ b, sp b = true) {cs : List Value} (hl : cs.length = 6) (h : DataW.trod enc Tryd.prog W 0 sp true fuel 24 cs = some x) :
    ∃ (op : Int) (s : Sg), cs = (s.cells op).toList ∧ IntsR W s.lv s.l ∧ Whole s.a := by
  obtain ⟨ys, n, _, _, _, hyl, hf⟩ := DataW.trod_struct Tryd.underlying24 h
  match cs, hl with
  | [c0, c1, c2, c3, c4, c5], _ =>
    match ys, hyl with
    | [y0, y1, y2, y3, y4, y5], _ =>
      have g0 : DataW.trod enc Tryd.prog W 0 sp true n 3 [c0] = some y0 := by simpa [cells_i, cells_i64] using hf 0 _ rfl
      have g1 : DataW.trod enc Tryd.prog W 0 sp true n 2 [c1] = some y1 := by simpa [cells_i, cells_i64] using hf 1 _ rfl
      have g2 : DataW.trod enc Tryd.prog W 0 sp true n 3 [c2] = some y2 := by simpa [cells_i, cells_i64] using hf 2 _ rfl
      have g3 : DataW.trod enc Tryd.prog W 0 sp true n 3 [c3] = some y3 := by simpa [cells_i, cells_i64] using hf 3 _ rfl
      have g4 : DataW.trod enc Tryd.prog W 0 sp true n 3 [c4] = some y4 := by simpa [cells_i, cells_i64] using hf 4 _ rfl
      have g5 : DataW.trod enc Tryd.prog W 0 sp true n 22 [c5] = some y5 := by simpa [cells_i, cells_i64, cells_is] using hf 5 _ rfl
      obtain ⟨z0, e0, _, _⟩ := DataW.trod_int Tryd.underlying3 g0
      obtain ⟨z1, e1, w1, _⟩ := DataW.trod_int Tryd.underlying2 g1
      obtain ⟨z2, e2, _, _⟩ := DataW.trod_int Tryd.underlying3 g2
      obtain ⟨z3, e3, _, _⟩ := DataW.trod_int Tryd.underlying3 g3
      obtain ⟨z4, e4, _, _⟩ := DataW.trod_int Tryd.underlying3 g4
      obtain ⟨zs, hzs⟩ := ints_of hsp g5
      simp only [List.cons.injEq, and_true] at e0 e1 e2 e3 e4
      subst e0 e1 e2 e3 e4
      exact ⟨z0, ⟨z1, z2, z3, z4, c5, zs⟩, rfl, hzs, bounds_i64 (by first | exact w1 | assumption)⟩
set_option maxRecDepth 100000 in
theorem open_insn {r : Reach} {b0 : Nat} {v : Value} {d : DataW H} {p : List MemPlace} (hv : Value.okWide Tryd.prog W r b0 24 v) (h : DataW.Trod enc Tryd.prog W 0 (fun _ => true) true 24 v d p) :
    ∃ (op : Int) (s : Sg), v = .agg (s.cells op) ∧ IntsR W s.lv s.l ∧ Whole s.a := by
  simp only [Value.okWide, Tryd.underlying24] at hv
  obtain ⟨cs, rfl, hs, _⟩ := hv
  obtain ⟨fuel, hf⟩ := h
  have hf' : DataW.trod enc Tryd.prog W 0 (fun _ => true) true fuel 24 cs.toList = some (d, p) := by simpa [Value.cells] using hf
  obtain ⟨op, s, e, h1, h2⟩ := insn_of (fun _ => rfl) (by rw [Array.length_toList, hs, cells_insn]) hf'
  refine ⟨op, s, ?_, h1, h2⟩
  have : cs = s.cells op := by
    apply Array.toList_inj.1
    exact e
  rw [this]
/-- A list of instructions that was handed in. -/
def InsA (W : World) (v : Value) (xs : List (Int × Sg)) : Prop := ∃ (A : Option Addr) (c : Nat), v = .slice A xs.length c ∧ xs.length ≤ 9223372036854775807 ∧
  (xs ≠ [] → ∃ b off, A = some ⟨b, off, none⟩ ∧ b < W.heap.size ∧ ∀ (i : Nat) (y : Int × Sg), xs[i]? = some y → IntsR W y.2.lv y.2.l ∧ Whole y.2.a ∧ ∀ (j : Nat) (u : Value), (y.2.cells y.1)[j]? = some u → W.cell? ⟨b, off + i * 6 + j, none⟩ = some u)
instance : Inhabited (Int × Sg) := ⟨(0, ⟨0, 0, 0, 0, .slice none 0 0, []⟩)⟩
set_option maxRecDepth 100000 in
theorem insns_of {A0 : Option Addr} {n0 c0 : Nat} (h : DataW.trod enc Tryd.prog W 0 (fun _ => true) true fuel 55 [.slice A0 n0 c0] = some x) : ∃ xs : List (Int × Sg), n0 = xs.length ∧ InsA W (.slice A0 n0 c0) xs := by
  rcases open_slice Tryd.underlying55 h with ⟨hcs, _⟩ | ⟨a, len, cap, m, n, D, Pl, hcs, _, hl, hc, hm, _, hall⟩
  · simp only [List.cons.injEq, and_true, Value.slice.injEq] at hcs
    obtain ⟨rfl, rfl, rfl⟩ := hcs
    exact ⟨[], rfl, none, 0, rfl, by simp, fun h => absurd rfl h⟩
  · simp only [List.cons.injEq, and_true, Value.slice.injEq] at hcs
    obtain ⟨rfl, rfl, rfl⟩ := hcs
    rw [if_pos rfl] at hm
    obtain ⟨b, off, spot⟩ := a
    have each : ∀ i, i < n0 → ∃ y : Int × Sg, IntsR W y.2.lv y.2.l ∧ Whole y.2.a ∧ ∀ j u, (y.2.cells y.1)[j]? = some u → W.cell? (((⟨b, off, spot⟩ : Addr).add (i * 6)).add j) = some u := fun i hi => by
      obtain ⟨cs', h1, h2⟩ := hall i (by omega)
      rw [cells_insn] at h1
      obtain ⟨_, hlen, hcell⟩ := World.cells?_some h1
      obtain ⟨op, s, rfl, h3, h4⟩ := insn_of (fun _ => rfl) hlen h2
      refine ⟨(op, s), h3, h4, fun j u hu => ?_⟩
      have hu' : (s.cells op).toList[j]? = some u := by rw [Array.getElem?_toList]; exact hu
      obtain ⟨hj, rfl⟩ := List.getElem?_eq_some_iff.1 hu'
      rw [hcell j (show j < 6 from hj), List.getElem?_eq_getElem]
    obtain ⟨f, hf⟩ := choose_lt each
    refine ⟨(List.range n0).map f, by simp, some ⟨b, off, spot⟩, c0, by simp, by simp; unfold maxLen at hc; omega, fun hn => ?_⟩
    have h0 : 0 < n0 := by
      rcases Nat.eq_zero_or_pos n0 with e | e
      · subst e; simp at hn
      · exact e
    have hspot : spot = none := by simpa [Addr.add] using World.cell?_spot ((hf 0 h0).2.2 0 _ rfl)
    subst hspot
    have hat : ∀ (i : Nat) (y : Int × Sg), ((List.range n0).map f)[i]? = some y → IntsR W y.2.lv y.2.l ∧ Whole y.2.a ∧ ∀ (j : Nat) (u : Value), (y.2.cells y.1)[j]? = some u → W.cell? ⟨b, off + i * 6 + j, none⟩ = some u := fun i x he => by
      rw [List.getElem?_map] at he
      rcases Nat.lt_or_ge i n0 with hi | hi
      · rw [List.getElem?_range hi] at he
        simp only [Option.map_some, Option.some.injEq] at he
        subst he
        obtain ⟨h3, h4, h5⟩ := hf i hi
        refine ⟨h3, h4, fun j u hu => ?_⟩
        have := h5 j u hu
        rw [add_plain, add_plain] at this
        exact this
      · rw [List.getElem?_eq_none (by simpa using hi)] at he
        simp at he
    refine ⟨b, off, rfl, ?_, hat⟩
    have h6 := (hat 0 _ (by rw [List.getElem?_map, List.getElem?_range h0]; rfl)).2.2 0 _ rfl
    rcases Nat.lt_or_ge b W.heap.size with hl | hl
    · exact hl
    · unfold World.cell? at h6
      rw [Array.getElem?_eq_none hl] at h6
      simp at h6
end
end Go.Proofs.YtmbdaenjeeklfaaDoor

/- InsnCuts: no beginning of an instruction's bytes, but the whole, is one's: the call returns true, and turns nothing that was there. -/
namespace Go.Proofs.YtmbdaenjeeklfaaDoor
open Go.RowKit

theorem ints_take {S : Nat → Prop} {W : World} {A : Option Addr} {cp : Nat} {zs : List Int} (h : IntsA S W (.slice A zs.length cp) zs) (k : Nat) (hk : k ≤ zs.length) : IntsA S W (.slice A k cp) (zs.take k) := by
  obtain ⟨A', c', h1, h2⟩ := h
  injection h1 with e1 _ e3
  subst e1 e3
  have hl : (zs.take k).length = k := by rw [List.length_take]; omega
  refine ⟨A, cp, by rw [hl], fun hn => ?_⟩
  obtain ⟨b, off, k1, k2, k3⟩ := h2 (by intro e; subst e; simp at hn)
  exact ⟨b, off, k1, k2, fun i z hz => k3 i z (by rw [List.getElem?_take] at hz; split at hz; exact hz; cases hz)⟩

theorem few_res {tmps : Array Value} {W : World} {n1 : Nat} {c0 c1 c2 c3 c4 c5 : Value} (h2 : tmps.getD 2 undef = .pointer (some ⟨n1, 0, none⟩)) (hb : Blk W n1 24 #[c0, c1, c2, c3, c4, c5]) :
    (results Tryd.f8 tmps).run Tryd.prog W = .ok (.agg #[c0, c1, c2, c3, c4, c5]) W := by
  have h2' : tmps[2]?.getD undef = .pointer (some ⟨n1, 0, none⟩) := by simpa using h2
  have k0 := hb.cell 0
  have k1 := hb.cell 1
  have k2 := hb.cell 2
  have k3 := hb.cell 3
  have k4 := hb.cell 4
  have k5 := hb.cell 5
  simp [results, Tryd.results8, h2', go_sem, k0, k1, k2, k3, k4, k5]

set_option maxRecDepth 100000 in
set_option maxHeartbeats 2000000 in
theorem few_any (s : Sg) (op : Int) (A : Option Addr) (cp : Nat) (w : World) (hlv : s.lv = .slice A s.l.length cp) (hcp : s.l.length ≤ cp) (hc63 : cp ≤ 9223372036854775807) :
    Calls Tryd.prog 8 #[.agg (s.cells op)] w fun e w' => e = .returned (.agg (Sg.cells { s with lv := .slice A (min s.l.length 12) cp } op)) ∧ w.grownBy w' none := by
  have hcl : s.cells op = #[.int .i64 op, .int .i64 s.a, .int .i64 s.b, .int .i64 s.c, .int .i64 s.d, .slice A s.l.length cp] := by unfold Sg.cells; rw [hlv]
  have hcl2 : Sg.cells { s with lv := .slice A (min s.l.length 12) cp } op = #[.int .i64 op, .int .i64 s.a, .int .i64 s.b, .int .i64 s.c, .int .i64 s.d, .slice A (min s.l.length 12) cp] := rfl
  rw [hcl, hcl2]
  generalize s.l.length = n at *
  clear hlv hcl hcl2
  by_cases h : n ≤ 12
  · have e : min n 12 = n := by omega
    have d1 : (n : Int) ≤ 12 := by omega
    rw [e]
    go_enter Tryd.func8, Tryd.ntmps8
    go_wp2
    exact bodyPost_ret (few_res rfl (blk_new_at (by simp) _ _)) rfl ⟨rfl, only_alloc (only_alloc (only_refl _ _) _) _⟩
  · have e : min n 12 = 12 := by omega
    have d1 : (12 : Int) < (n : Int) := by omega
    rw [e]
    go_enter Tryd.func8, Tryd.ntmps8
    go_wp2
    exact bodyPost_ret (few_res rfl (blk_new_at (by simp) _ _)) rfl ⟨rfl, only_alloc (only_alloc (only_refl _ _) _) _⟩

theorem flat_le {α : Type} (f : α → List UInt8) : ∀ l : List α, (∀ x ∈ l, (f x).length ≤ 10) → (l.flatMap f).length ≤ 10 * l.length
  | [], _ => by simp
  | x :: l, h => by
    have h1 := h x (List.mem_cons_self)
    have h2 := flat_le f l (fun y hy => h y (List.mem_cons_of_mem _ hy))
    rw [List.flatMap_cons, List.length_append, List.length_cons]
    omega
theorem bytes_le {x : Ins} (hc : chkI x = 0) (ha : Whole x.a) : (bytesI x).length ≤ 1000 := by
  have hm := may_of hc
  have h8 := (cov_parts hm.cov).2
  have hd := hd_le (clI x.op)
  have h1 := flat_le (fB x) (hdF (clI x.op) ++ els x.l.length) (fun k hk => fB_len ha ((hm.in_ k hk).imp id (fun h => ⟨h.1, Int.le_trans h.2 (kOf_le _ k)⟩)))
  rw [List.length_append] at h1
  have h2 : (els x.l.length).length = x.l.length := by simp [els]
  unfold bytesI opsB
  rw [List.length_cons]
  omega

set_option maxRecDepth 100000 in
set_option maxHeartbeats 4000000 in
theorem icuts_any (op a b c d : Int) (A : Option Addr) (cp : Nat) (zs : List Int) (k : Int) (w : World) (hE : ErrType w) (hl : IntsA (fun b => b < w.heap.size) w (.slice A zs.length cp) zs) (hcp : zs.length ≤ cp) (hc63 : cp ≤ 9223372036854775807) (ha : Whole a) (hk0 : 0 ≤ k) (hk1 : k ≤ 255) :
    Calls Tryd.prog 6 #[.agg #[.int .i64 op, .int .i64 a, .int .i64 b, .int .i64 c, .int .i64 d, .slice A zs.length cp], .int .u8 k] w fun e w' => e = .returned (.bool true) ∧ w.grownBy w' none := by
  obtain ⟨y, hy⟩ : ∃ y : Sg, y = ⟨a, b, c, d, .slice A (min zs.length 12) cp, zs.take (min zs.length 12)⟩ := ⟨_, rfl⟩
  have hyl : IntsA (fun b => b < w.heap.size) w y.lv y.l := by rw [hy]; exact ints_take hl _ (Nat.min_le_left _ _)
  have hya : Whole y.a := by rw [hy]; exact ha
  have h0 : w.grownBy (w.alloc (.cells #[.int .i64 op, .int .i64 a, .int .i64 b, .int .i64 c, .int .i64 d, .slice A zs.length cp] 24)) none := only_alloc (only_refl _ _) _
  have hb := Blk.new w 24 #[.int .i64 op, .int .i64 a, .int .i64 b, .int .i64 c, .int .i64 d, .slice A zs.length cp]
  have HF := Lib.hid (fun W => few_any ⟨a, b, c, d, .slice A zs.length cp, zs⟩ op A cp W rfl hcp hc63)
  have hyc : Sg.cells { (⟨a, b, c, d, .slice A zs.length cp, zs⟩ : Sg) with lv := .slice A (min zs.length 12) cp } op = y.cells op := by rw [hy]; rfl
  rw [hyc] at HF
  have hyc2 : y.cells op = #[.int .i64 op, .int .i64 a, .int .i64 b, .int .i64 c, .int .i64 d, .slice A (min zs.length 12) cp] := by rw [hy]; rfl
  have HB := Lib.hid (fun W (hg : w.grownBy W none) => bytes_any y op W (hyl.row hg (fun _ _ e => by cases e)).below hya)
  have HC := Lib.hid (fun W (hg : w.grownBy W none) => check_any y op W (hyl.row hg (fun _ _ e => by cases e)).below)
  have HX := Lib.hid hb
  have H0 := Lib.hid h0
  have HE := Lib.hid hE
  have HY := Lib.hid hya
  rw [hyc2] at HF HB HC
  have HF' : Hid (∀ W, Calls Tryd.prog 8 #[.agg #[.int .i64 op, .int .i64 a, .int .i64 b, .int .i64 c, .int .i64 d, .slice A zs.length cp]] W fun e w' => e = .returned (.agg #[.int .i64 op, .int .i64 a, .int .i64 b, .int .i64 c, .int .i64 d, .slice A (min zs.length 12) cp]) ∧ W.grownBy w' none) := HF
  clear HF hyc hyc2 hl hb h0 hE hyl hya hy ha
  generalize min zs.length 12 = m at *
  go_enter Tryd.func6, Tryd.ntmps6
  go_wp2_with fail
  refine (iworks_any _ (HE.out.kept H0.out (fun k e => by cases e))).mono ?_
  rintro e w1 ⟨rfl, hg1⟩
  have x0 := (HX.out.kept hg1).cell 0
  have x1 := (HX.out.kept hg1).cell 1
  have x2 := (HX.out.kept hg1).cell 2
  have x3 := (HX.out.kept hg1).cell 3
  have x4 := (HX.out.kept hg1).cell 4
  have x5 := (HX.out.kept hg1).cell 5
  have HX1 := Lib.hid (HX.out.kept hg1)
  have HG1 := Lib.hid (only_trans H0.out hg1)
  clear hg1
  go_wp2_with fail
  refine (HF'.out _).mono ?_
  rintro e w2 ⟨rfl, hg2⟩
  have HX2 := Lib.hid (HX1.out.kept hg2)
  have HG2 := Lib.hid (only_trans HG1.out hg2)
  clear x0 x1 x2 x3 x4 x5 hg2
  go_wp2_with fail
  refine (HB.out _ HG2.out).mono ?_
  rintro e w3 ⟨rfl, hg3⟩
  have hx3 := HX2.out.kept hg3
  have x0 := hx3.cell 0
  have x1 := hx3.cell 1
  have x2 := hx3.cell 2
  have x3 := hx3.cell 3
  have x4 := hx3.cell 4
  have x5 := hx3.cell 5
  have HG3 := Lib.hid (only_trans HG2.out hg3)
  clear hx3 hg3
  by_cases hc : chkI (y.ins op) = 0
  · rw [if_pos hc]
    obtain ⟨t, ht⟩ : ∃ t : ByteArray, (⟨(bytesI (y.ins op)).toArray⟩ : ByteArray) = t := ⟨_, rfl⟩
    have htl : t.data.toList = bytesI (y.ins op) := by rw [← ht]
    have hsz : t.size = (bytesI (y.ins op)).length := by rw [← bytes_len, htl]
    have hs0 : 0 < t.size := by rw [hsz]; unfold bytesI; simp
    have hs1 : t.size ≤ 1000 := by rw [hsz]; exact bytes_le hc HY.out
    obtain ⟨q, hq⟩ : ∃ q : Nat, k.toNat % t.size = q := ⟨_, rfl⟩
    have hql : q < t.size := by rw [← hq]; exact Nat.mod_lt _ hs0
    have hqe : k.tmod (t.size : Int) = (q : Int) := by
      rw [← hq, Int.tmod_eq_emod_of_nonneg hk0]
      have : ((k.toNat : Nat) : Int) = k := by omega
      rw [Int.natCast_emod, this]
    have HFl : Hid (∀ W, w.grownBy W none → Calls Tryd.prog 32 #[.string (t.extract 0 q), .int .i64 3, .int .i64 (q : Int)] W fun e w' => e = .returned (.bool true) ∧ W.grownBy w' none) := fun W hg => by
      refine fails_any (t.extract 0 q) 3 q q W (HE.out.kept hg (fun k e => by cases e)) ?_ (by rw [ByteArray.size_extract]; omega)
      have h1 : (t.extract 0 q).data.toList = (bytesI (y.ins op)).take q := by
        have := ext_list t 0 q
        rw [Nat.zero_add, List.drop_zero, htl] at this
        exact this
      rw [h1]
      exact readI_cut hc HY.out (by omega)
    have hne2 : t.toList.isEmpty = false := by
      rw [ByteArray.toList_eq]
      cases h : t.data.toList with
      | nil => have := bytes_len t; rw [h] at this; simp at this; omega
      | cons x l => rfl
    have hz : ¬ (t.size : Int) = 0 := by omega
    have z0 : (0 : Int) < (t.size : Int) := by omega
    have z1 : (t.size : Int) ≤ 1000 := by omega
    have z2 : (q : Int) < (t.size : Int) := by omega
    rw [ht]
    clear ht htl hsz hs0 hq HB HC HF' hc x0 x1 x2 x3 x4 x5
    go_wp2_with fail
    refine (HFl.out _ HG3.out).mono ?_
    rintro e w4 ⟨rfl, hg4⟩
    have HG4 := Lib.hid (only_trans HG3.out hg4)
    clear hg4
    go_wp2_with fail
    go_ret
    exact ⟨rfl, HG4.out⟩
  · rw [if_neg hc]
    go_wp2_with fail
    refine (HF'.out _).mono ?_
    rintro e w4 ⟨rfl, hg4⟩
    have HG4 := Lib.hid (only_trans HG3.out hg4)
    clear hg4 x0 x1 x2 x3 x4 x5
    go_wp2_with fail
    refine (HC.out _ HG4.out).mono ?_
    rintro e w5 ⟨rfl, hg5⟩
    have HG5 := Lib.hid (only_trans HG4.out hg5)
    have hb : (chkI (y.ins op) != 0) = true := by simpa using hc
    clear hg5 HB HC HF'
    go_wp2_with fail
    go_ret
    exact ⟨by simp, HG5.out⟩
end Go.Proofs.YtmbdaenjeeklfaaDoor

/- BlocksCuts. -/
import Derived.Test.YtgdoklbcmgkllaaBRFw
import Derived.Test.YtgdoklbcmgkllaaBSam
import Derived.Test.YtgdoklbcmgkllaaBGst
namespace Go.Proofs.Ytgdoklbcmgkllaa
open Go.RowKit

theorem cut_flow {cs : List Bi} (hl : ∀ x ∈ cs, x.2.length ≤ 1048576) : (cutA cs).1.2.length = (cutA cs).1.1.length ∧ (cutA cs).1.1.length ≤ 1000 ∧ ∀ l ∈ (cutA cs).1.2, l.length ≤ 10000000 := by
  have h0 : (cutA cs).1 = ([], []) ∨ (CutOk cs ∧ (cutA cs).1 = flowB cs) := by
    rcases cut_cases cs with ⟨e, _⟩ | ⟨i, _, _, e, _⟩ | ⟨b, _, _, _, _, e, _⟩ | ⟨i, _, _, _, _, e, _⟩ | ⟨h, e⟩
    · exact .inl (by rw [e])
    · exact .inl (by rw [e])
    · exact .inl (by rw [e])
    · exact .inl (by rw [e])
    · exact .inr ⟨h, by rw [e]⟩
  rcases h0 with e | ⟨h, e⟩
  · rw [e]; simp
  · rw [e]
    refine ⟨by simp, ?_, fun l hm => ?_⟩
    · have := front_len cs cs.length
      have := h.n1
      rw [front_all] at *
      show (startsL cs).length ≤ 1000
      omega
    · obtain ⟨b, _, rfl⟩ := List.mem_map.1 hm
      have := goesN_length (i := lastB cs b) hl
      unfold nextB
      rw [List.length_map]
      omega
set_option maxRecDepth 100000 in
set_option maxHeartbeats 8000000 in
theorem bcuts_any (cs0 : List Bi) (A : Option Addr) (c : Nat) (rs : List Rw) (odd : Nat) (vr : Value) (w : World) (hC0 : CodeA w (.slice A cs0.length c) cs0) (hc1 : cs0.length ≤ c) (hc2 : c ≤ 9223372036854775807) (hl0 : ∀ x ∈ cs0, x.2.length ≤ 1048576) (hRR : RowsA w vr rs) (hodd : odd < 256) :
    Calls Try.prog 3 #[.slice A cs0.length c, vr, .int .u8 (odd : Int)] w fun e w' => e = .returned (.bool true) ∧ w.grownBy w' none := by
  obtain ⟨Ar, cr, rfl, _⟩ := id hRR
  have HRR := Lib.hid hRR
  have HOD := Lib.hid hodd
  clear hRR hodd
  have hc1I : (cs0.length : Int) ≤ (c : Int) := by omega
  have hc2I : (c : Int) ≤ 9223372036854775807 := by omega
  obtain ⟨n, hn⟩ : ∃ n, min cs0.length 130 = n := ⟨_, rfl⟩
  have hif : (if (130 : Int) < (cs0.length : Int) then (130 : Int) else (cs0.length : Int)) = (n : Int) := by split <;> omega
  have hn130 : n ≤ 130 := by omega
  have hnI : (n : Int) ≤ 130 := by omega
  have hnl : n ≤ cs0.length := by omega
  have hq := hC0.take_ n (by omega)
  have hrl : (cs0.take n).length = n := by rw [List.length_take]; omega
  have hl := take_all hl0 n
  obtain ⟨cs, hqs⟩ : ∃ cs, cs0.take n = cs := ⟨_, rfl⟩
  rw [hqs] at hq hrl hl
  have HC := Lib.hid hq
  have HL := Lib.hid hl
  have HRL := Lib.hid hrl
  clear hC0 hq hqs hn hl0 hl
  go_enter Try.func3, Try.ntmps3
  go_upto_region 2 with fail
  clear hif
  obtain ⟨z1, hz1⟩ : ∃ z, (cutA cs).2.1 = z := ⟨_, rfl⟩
  obtain ⟨z2, hz2⟩ : ∃ z, (cutA cs).2.2 = z := ⟨_, rfl⟩
  have ha := fun W hW => blCut_any cs (.slice A n c) W hW HL.out
  have hb := fun W hW => rcut_of rflow_any cs (.slice A n c) W hW HL.out
  unfold CutR at ha hb
  rw [hz1, hz2] at ha hb
  obtain ⟨k1, k2, k3⟩ := cut_flow HL.out
  have HS := Lib.hid fun u v W hu hv => bsame_any (cutA cs).1 u v W hu hv k1 k2 k3
  clear hz1 hz2 k1 k2 k3
  go_wp2_with fail
  refine (ha _ HC.out).mono ?_
  rintro e w1 ⟨fv, rfl, hF1, g1⟩
  obtain ⟨A1, n1, c1, A2, n2, c2, rfl, -, -, -, -⟩ := flow_slices hF1
  have ga : w1.grownBy (w1.alloc (.cells #[.slice A1 n1 c1, .slice A2 n2 c2] 27)) none := only_alloc (only_refl _ _) _
  have HG1 := Lib.hid (only_trans g1 ga)
  have HF1 := Lib.hid (hF1.kept ga)
  have HB1 : Hid (Blk (w1.alloc (.cells #[.slice A1 n1 c1, .slice A2 n2 c2] 27)) w1.heap.size 27 #[.slice A1 n1 c1, .slice A2 n2 c2]) := Lib.hid (Blk.new _ _ _)
  have HS1 : Hid (w.heap.size ≤ w1.heap.size) := Lib.hid g1.size
  clear ha hF1 g1 ga
  go_upto_region 3 with fail
  generalize w1.alloc (.cells #[.slice A1 n1 c1, .slice A2 n2 c2] 27) = x1 at *
  generalize w1.heap.size = B7 at *
  go_wp2_with fail
  refine (hb _ (HC.out.kept HG1.out)).mono ?_
  rintro e w2 ⟨fv, rfl, hF2, g2⟩
  obtain ⟨A3, n3, c3, A4, n4, c4, rfl, -, -, -, -⟩ := flow_slices hF2
  have ga : w2.grownBy (w2.alloc (.cells #[.slice A3 n3 c3, .slice A4 n4 c4] 27)) none := only_alloc (only_refl _ _) _
  have HG2 := Lib.hid (only_trans HG1.out (only_trans g2 ga))
  have HF2 := Lib.hid (hF2.kept ga)
  have HF1' := Lib.hid (HF1.out.kept (only_trans g2 ga))
  have HB1' := Lib.hid (HB1.out.kept (only_trans g2 ga))
  have HB2 : Hid (Blk (w2.alloc (.cells #[.slice A3 n3 c3, .slice A4 n4 c4] 27)) w2.heap.size 27 #[.slice A3 n3 c3, .slice A4 n4 c4]) := Lib.hid (Blk.new _ _ _)
  have HS2 : Hid (B7 < w2.heap.size) := Lib.hid (HB1.out.kept g2).lt
  clear hb hF2 g2 ga HF1 HB1 HG1
  go_upto_region 4 with fail
  generalize w2.alloc (.cells #[.slice A3 n3 c3, .slice A4 n4 c4] 27) = x2 at *
  generalize w2.heap.size = B10 at *
  have d0 : x2.cell? ⟨B7, 0, none⟩ = some (.slice A1 n1 c1) := HB1'.out.cell 0
  have d1 : x2.cell? ⟨B7, 1, none⟩ = some (.slice A2 n2 c2) := HB1'.out.cell 1
  have e0 : x2.cell? ⟨B10, 0, none⟩ = some (.slice A3 n3 c3) := HB2.out.cell 0
  have e1 : x2.cell? ⟨B10, 1, none⟩ = some (.slice A4 n4 c4) := HB2.out.cell 1
  have hs := HS.out _ _ x2 HF1'.out HF2.out
  go_wp2_with fail
  refine hs.mono ?_
  rintro e w3 ⟨rfl, g3⟩
  have HG3 := Lib.hid (only_trans HG2.out g3)
  have HB3 := Lib.hid (HB1'.out.kept g3)
  have HB4 := Lib.hid (HB2.out.kept g3)
  clear hs g3 HG2 HB1' HB2 HF1' HF2 HS d0 d1 e0 e1
  go_wp2_with fail
  refine (codedB_any rs odd _ _ (HRR.out.kept HG3.out) HOD.out).mono ?_
  rintro e w4 ⟨cv, cs1, rfl, hC, hn1, hl, hg4⟩
  obtain ⟨Ac, cc, rfl, _⟩ := id hC
  have HC4 := Lib.hid hC
  have HL4 : Hid (∀ x ∈ cs1, x.2.length ≤ 1048576) := Lib.hid fun x hx => by have := hl x hx; omega
  have HG4 := Lib.hid (only_trans HG3.out hg4)
  have HB5 := Lib.hid (HB3.out.kept hg4)
  have HB6 := Lib.hid (HB4.out.kept hg4)
  obtain ⟨z3, hz1⟩ : ∃ z, (cutA cs1).2.1 = z := ⟨_, rfl⟩
  obtain ⟨z4, hz2⟩ : ∃ z, (cutA cs1).2.2 = z := ⟨_, rfl⟩
  have ha := fun W hW => blCut_any cs1 (.slice Ac cs1.length cc) W hW HL4.out
  have hb := fun W hW => rcut_of rflow_any cs1 (.slice Ac cs1.length cc) W hW HL4.out
  unfold CutR at ha hb
  rw [hz1, hz2] at ha hb
  obtain ⟨k1, k2, k3⟩ := cut_flow HL4.out
  have HS := Lib.hid fun u v W hu hv => bsame_any (cutA cs1).1 u v W hu hv k1 k2 k3
  clear hC hn1 hl hg4 hz1 hz2 k1 k2 k3 HG3 HB3 HB4
  go_wp2_with fail
  refine (ha _ HC4.out.a).mono ?_
  rintro e w5 ⟨fv, rfl, hF1, g1⟩
  obtain ⟨A1, n1, c1, A2, n2, c2, rfl, -, -, -, -⟩ := flow_slices hF1
  have hb7 := HB5.out.kept g1
  have d0 := hb7.cell 0
  have d1 := hb7.cell 1
  have f0 := hb7.frozen 0
  have f1 := hb7.frozen 1
  have s7 := only_setCell (g := B7) (p := ⟨B7, 1, none⟩) (only_setCell (p := ⟨B7, 0, none⟩) (only_refl w5 _) rfl (.slice A1 n1 c1)) rfl (.slice A2 n2 c2)
  have r7 : ∀ g, some B7 = some g → ∃ t cs, Blk w5 g t cs ∧ t ≠ 3 ∧ t ≠ 43 := fun g e => by injection e with e; subst e; exact ⟨_, _, hb7, by decide, by decide⟩
  have HC5 := Lib.hid ((HC4.out.kept g1).row s7 r7)
  obtain ⟨hb8, hF8, hg8⟩ := flow_stored hb7 hF1 (only_trans HG4.out g1) HS1.out
  have HB8 := Lib.hid hb8
  have HF8 := Lib.hid hF8
  have HG8 := Lib.hid hg8
  have HB9 := Lib.hid (((HB6.out.kept g1).far (p := ⟨B7, 0, none⟩) (by show B10 ≠ B7; have := HS2.out; omega) (.slice A1 n1 c1)).far (p := ⟨B7, 1, none⟩) (by show B10 ≠ B7; have := HS2.out; omega) (.slice A2 n2 c2))
  clear hb8 hF8 hg8 s7 r7 hb7 hF1 g1 ha HB5 HB6 HC4
  go_wp2_with fail
  refine (hb _ HC5.out.a).mono ?_
  rintro e w6 ⟨fv, rfl, hF2, g2⟩
  obtain ⟨A3, n3, c3, A4, n4, c4, rfl, -, -, -, -⟩ := flow_slices hF2
  have hb10 := HB9.out.kept g2
  have d0 := hb10.cell 0
  have d1 := hb10.cell 1
  have f0 := hb10.frozen 0
  have f1 := hb10.frozen 1
  have s10 := only_setCell (g := B10) (p := ⟨B10, 1, none⟩) (only_setCell (p := ⟨B10, 0, none⟩) (only_refl w6 _) rfl (.slice A3 n3 c3)) rfl (.slice A4 n4 c4)
  have r10 : ∀ g, some B10 = some g → ∃ t cs, Blk w6 g t cs ∧ t ≠ 3 ∧ t ≠ 24 := fun g e => by injection e with e; subst e; exact ⟨_, _, hb10, by decide, by decide⟩
  have HF9 := Lib.hid ((HF8.out.kept g2).row s10 r10)
  obtain ⟨hb11, hF11, hg11⟩ := flow_stored hb10 hF2 (only_trans HG8.out g2) (by have := HS1.out; have := HS2.out; omega)
  have HB11 := Lib.hid hb11
  have HF11 := Lib.hid hF11
  have HG11 := Lib.hid hg11
  have HB12 := Lib.hid (((HB8.out.kept g2).far (p := ⟨B10, 0, none⟩) (by show B7 ≠ B10; have := HS2.out; omega) (.slice A3 n3 c3)).far (p := ⟨B10, 1, none⟩) (by show B7 ≠ B10; have := HS2.out; omega) (.slice A4 n4 c4))
  clear hb11 hF11 hg11 s10 r10 hb10 hF2 g2 hb HB8 HB9 HF8 HG8 HC5
  have hs := HS.out _ _ (((w6.setCell ⟨B10, 0, none⟩ (.slice A3 n3 c3)).setCell ⟨B10, 1, none⟩ (.slice A4 n4 c4))) HF9.out HF11.out
  have d0 := HB12.out.cell 0
  have d1 := HB12.out.cell 1
  have e0 := HB11.out.cell 0
  have e1 := HB11.out.cell 1
  go_wp2_with fail
  refine hs.mono ?_
  rintro e w7 ⟨rfl, g7⟩
  have HG7 := Lib.hid (only_trans HG11.out g7)
  clear hs g7 d0 d1 e0 e1 HG11 HB11 HB12 HF9 HF11 HS
  go_wp2_with fail
  refine (works_any _).mono ?_
  rintro e w9 ⟨rfl, g9⟩
  have HGC := Lib.hid (only_trans HG7.out g9)
  clear g9
  go_wp2_with fail
  go_ret
  exact ⟨rfl, HGC.out⟩
end Go.Proofs.Ytgdoklbcmgkllaa

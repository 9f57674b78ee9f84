/- blocks: Cut. -/
import Derived.Test.YtgdoklbcmgkllaaBDea
namespace Go.Proofs.Ytgdoklbcmgkllaa
open Go.RowKit

/-- What Cut answers. -/
def CutR (cs : List Bi) (w : World) (e : Ending) (w' : World) : Prop := ∃ fv, e = .returned (.tuple #[fv, .int .i64 (cutA cs).2.1, .int .i64 (cutA cs).2.2]) ∧ FlowA w' fv (cutA cs).1 ∧ w.grownBy w' none
theorem cut_results {W : World} {a b : Int} {sv nv : Value} {B : Nat} {tmps : Array Value} (h2 : tmps.getD 2 undef = .pointer (some ⟨B, 0, none⟩)) (h3 : tmps.getD 3 undef = .int .i64 a) (h4 : tmps.getD 4 undef = .int .i64 b) (hb : Blk W B 27 #[sv, nv]) :
    (results Try.f4 tmps).run Try.prog W = .ok (.tuple #[.agg #[sv, nv], .int .i64 a, .int .i64 b]) W := by
  have h2' : tmps[2]?.getD undef = .pointer (some ⟨B, 0, none⟩) := by simpa using h2
  have h3' : tmps[3]?.getD undef = .int .i64 a := by simpa using h3
  have h4' : tmps[4]?.getD undef = .int .i64 b := by simpa using h4
  have c0 := hb.cell 0
  have c1 := hb.cell 1
  simp [results, Try.results4, h2', h3', h4', go_sem, c0, c1]
theorem cut_out {cs : List Bi} {w W : World} {a b : Int} {sv nv : Value} {f : List Nat × List (List Nat)} {B : Nat} {tmps : Array Value} (h2 : tmps.getD 2 undef = .pointer (some ⟨B, 0, none⟩)) (h3 : tmps.getD 3 undef = .int .i64 a) (h4 : tmps.getD 4 undef = .int .i64 b) (hb : Blk W B 27 #[sv, nv])
    (hR : cutA cs = (f, a, b)) (hF : FlowA W (.agg #[sv, nv]) f) (hg : w.grownBy W none) : bodyPost Try.prog Try.f4 (CutR cs w) .ret { tmps := tmps, defers := [] } W :=
  bodyPost_ret (cut_results h2 h3 h4 hb) rfl ⟨_, by rw [hR], by rw [hR]; exact hF, hg⟩
theorem astray_none {cs : List Bi} (hj : ∀ i x, cs[i]? = some x → jumpX cs.length i x = true) : astrayZ cs = -1 := by
  unfold astrayZ
  rw [find_never fun j hlt => by
    unfold jumpN
    rw [List.getElem?_eq_getElem hlt]
    show (!jumpX cs.length j cs[j]) = false
    rw [hj j _ (List.getElem?_eq_getElem hlt)]
    rfl]
/-- A flow that is stored whole. -/
theorem flow_stored {w W : World} {B : Nat} {sv nv old0 old1 : Value} {f : List Nat × List (List Nat)} (hb : Blk W B 27 #[old0, old1]) (hF : FlowA W (.agg #[sv, nv]) f) (hg : w.grownBy W none) (hB : w.heap.size ≤ B) :
    Blk ((W.setCell ⟨B, 0, none⟩ sv).setCell ⟨B, 1, none⟩ nv) B 27 #[sv, nv] ∧ FlowA ((W.setCell ⟨B, 0, none⟩ sv).setCell ⟨B, 1, none⟩ nv) (.agg #[sv, nv]) f ∧ w.grownBy ((W.setCell ⟨B, 0, none⟩ sv).setCell ⟨B, 1, none⟩ nv) none :=
  ⟨(hb.set_ 0 sv).set_ 1 nv, hF.row (only_setCell (g := B) (p := ⟨B, 1, none⟩) (only_setCell (p := ⟨B, 0, none⟩) (only_refl _ _) rfl _) rfl _) (fun g e => by injection e with e; subst e; exact ⟨_, _, hb, by decide, by decide⟩), only_setNew (only_setNew hg hB _) hB _⟩
set_option maxRecDepth 100000 in
set_option maxHeartbeats 4000000 in
theorem blCut_any (cs : List Bi) (v : Value) (w : World) (hC : CodeA w v cs) (hl : ∀ x ∈ cs, x.2.length ≤ 1048576) : Calls Try.prog 4 #[v] w (CutR cs w) := by
  obtain ⟨A, cp, rfl, hcl, _⟩ := id hC
  have hclI : (cs.length : Int) ≤ 9223372036854775807 := by omega
  have hg0 : w.grownBy (w.alloc (.cells #[.slice none 0 0, .slice none 0 0] 27)) none := only_alloc (only_refl _ _) _
  have hb0 : Blk (w.alloc (.cells #[.slice none 0 0, .slice none 0 0] 27)) w.heap.size 27 #[.slice none 0 0, .slice none 0 0] := Blk.new _ _ _
  have HG0 := Lib.hid hg0
  have HB0 := Lib.hid hb0
  have HC := Lib.hid (hC.kept hg0)
  have HC0 := Lib.hid hC
  have HL := Lib.hid hl
  clear hg0 hb0 hC hl
  go_enter Try.func4, Try.ntmps4
  have HC9 : Hid (∀ X, w.grownBy X none → CodeA X (.slice A cs.length cp) cs) := Lib.hid fun X hX => HC0.out.kept hX
  rcases cut_cases cs with ⟨hr, hlen⟩ | ⟨i, hi, hlen, hr, hj, hlow⟩ | ⟨b, h1, hlen, hj, hb, hr, hd, hlow⟩ | ⟨i, hi, hlen, hj, hlv, hr, hro, hlow⟩ | ⟨hok, hr⟩
  · have HR := Lib.hid hr
    clear hr
    rcases hlen with hlen | hlen
    · have h0 : cs.length = 0 := by omega
      go_wp2_with fail
      exact cut_out rfl rfl rfl HB0.out HR.out (FlowA.empty _) HG0.out
    · have h0 : ((cs.length : Int) == 0) = false := by rw [beq_eq_false_iff_ne]; omega
      have h1 : (128 : Int) < (cs.length : Int) := by omega
      go_wp2_with fail
      exact cut_out rfl rfl rfl HB0.out HR.out (FlowA.empty _) HG0.out
  · have HR := Lib.hid hr
    have h0 : ((cs.length : Int) == 0) = false := by rw [beq_eq_false_iff_ne]; omega
    have h9 : (cs.length : Int) ≤ 128 := by omega
    have hi0 : (0 : Int) ≤ (i : Int) := by omega
    have hz : astrayZ cs = (i : Int) := by unfold astrayZ; rw [find_here hi (fun j hjl => by rw [hlow j hjl]; rfl) (by rw [hj]; rfl)]
    have HZ := Lib.hid hz
    clear hr hj hlow hz
    go_wp2_with fail
    refine (firstAstray_any cs _ _ HC.out HL.out (by omega)).mono ?_
    rw [HZ.out]
    rintro e w1 ⟨rfl, hg1⟩
    have hb1 := HB0.out.kept hg1
    have d0 := hb1.cell 0
    have d1 := hb1.cell 1
    have f0 := hb1.frozen 0
    have f1 := hb1.frozen 1
    obtain ⟨hb8, hF8, hg8⟩ := flow_stored (sv := .slice none 0 0) (nv := .slice none 0 0) (f := ([], [])) hb1 (FlowA.empty _) (only_trans HG0.out hg1) (Nat.le_refl _)
    have HB8 := Lib.hid hb8
    have HF8 := Lib.hid hF8
    have HG8 := Lib.hid hg8
    clear hb8 hF8 hg8 hg1 hb1
    go_wp2_with fail
    exact cut_out rfl rfl rfl HB8.out HR.out HF8.out HG8.out
  · have HR := Lib.hid hr
    have h0 : ((cs.length : Int) == 0) = false := by rw [beq_eq_false_iff_ne]; omega
    have h9 : (cs.length : Int) ≤ 128 := by omega
    have hd2 : deadZ cs = (((startsL cs).getD b 0 : Nat) : Int) := by unfold deadZ; rw [find_here hb (fun j hjl => hlow j hjl) hd]
    have hs0 : (0 : Int) ≤ (((startsL cs).getD b 0 : Nat) : Int) := by omega
    have HD := Lib.hid hd2
    have HJ := Lib.hid hj
    clear hr hj hlow hd hd2
    generalize (((startsL cs).getD b 0 : Nat) : Int) = zb at *
    go_wp2_with fail
    refine (firstAstray_any cs _ _ HC.out HL.out (by omega)).mono ?_
    rw [astray_none HJ.out]
    rintro e w1 ⟨rfl, hg1⟩
    have HG1 := Lib.hid (only_trans HG0.out hg1)
    have HB1 := Lib.hid (HB0.out.kept hg1)
    have HC1 := Lib.hid (HC.out.kept hg1)
    clear hg1 HG0 HB0 HC
    go_wp2_with fail
    refine (flow_any cs _ _ h1 HC1.out HL.out hlen HJ.out).mono ?_
    rintro e w2 ⟨fv, rfl, hF, hg2⟩
    obtain ⟨sv, nv, rfl, hs, hnx⟩ := id hF
    obtain ⟨A1, c1, rfl, _⟩ := id hs
    obtain ⟨A2, c2, rfl, _⟩ := id hnx
    have HG2 := Lib.hid (only_trans HG1.out hg2)
    have hb2 := HB1.out.kept hg2
    have d0 := hb2.cell 0
    have d1 := hb2.cell 1
    have f0 := hb2.frozen 0
    have f1 := hb2.frozen 1
    obtain ⟨hb3, hF3, hg3⟩ := flow_stored hb2 hF HG2.out (Nat.le_refl _)
    have HC3 := Lib.hid (HC1.out.kept hg2)
    clear hg2 HG1 HB1 HC1 hF hs hnx hb2
    generalize (intsN (flowB cs).1).length = n1 at *
    generalize ((flowB cs).2.map intsN).length = n2 at *
    go_upto_region 7 with fail
    have hcell : CodeA ((w2.setCell ⟨w.heap.size, 0, none⟩ (.slice A1 n1 c1)).setCell ⟨w.heap.size, 1, none⟩ (.slice A2 n2 c2)) (.slice A cs.length cp) cs := HC9.out _ hg3
    have HB3 := Lib.hid hb3
    have HF3 := Lib.hid hF3
    have HG3 := Lib.hid hg3
    have HC4 := Lib.hid hcell
    clear hb3 hF3 hg3 hcell d0 d1 f0 f1 HC3 HG2
    generalize (w2.setCell ⟨w.heap.size, 0, none⟩ (.slice A1 n1 c1)).setCell ⟨w.heap.size, 1, none⟩ (.slice A2 n2 c2) = w3 at *
    have d0 : w3.cell? ⟨w.heap.size, 0, none⟩ = some (.slice A1 n1 c1) := HB3.out.cell 0
    have d1 : w3.cell? ⟨w.heap.size, 1, none⟩ = some (.slice A2 n2 c2) := HB3.out.cell 1
    go_wp2_with fail
    refine (firstDead_any cs _ _ h1 HF3.out HL.out hlen HJ.out).mono ?_
    rw [HD.out]
    rintro e w4 ⟨rfl, hg4⟩
    have HG4 := Lib.hid (only_trans HG3.out hg4)
    have HB4 := Lib.hid (HB3.out.kept hg4)
    have HF4 := Lib.hid (HF3.out.kept hg4)
    have HC5 := Lib.hid (HC4.out.kept hg4)
    clear hg4 HG3 HB3 HF3 HC4 d0 d1
    have k0 : w4.cell? ⟨w.heap.size, 0, none⟩ = some (.slice A1 n1 c1) := HB4.out.cell 0
    have k1 : w4.cell? ⟨w.heap.size, 1, none⟩ = some (.slice A2 n2 c2) := HB4.out.cell 1
    have f0 := HB4.out.frozen 0
    have f1 := HB4.out.frozen 1
    obtain ⟨hb8, hF8, hg8⟩ := flow_stored (sv := .slice none 0 0) (nv := .slice none 0 0) (f := ([], [])) HB4.out (FlowA.empty _) HG4.out (Nat.le_refl _)
    have HB8 := Lib.hid hb8
    have HF8 := Lib.hid hF8
    have HG8 := Lib.hid hg8
    clear hb8 hF8 hg8
    go_wp2_with fail
    exact cut_out rfl rfl rfl HB8.out HR.out HF8.out HG8.out
  · have HR := Lib.hid hr
    have h0 : ((cs.length : Int) == 0) = false := by rw [beq_eq_false_iff_ne]; omega
    have h9 : (cs.length : Int) ≤ 128 := by omega
    have h1 : 1 ≤ cs.length := by omega
    have hi0 : (0 : Int) ≤ (i : Int) := by omega
    have hd2 : deadZ cs = -1 := by unfold deadZ; rw [find_never hlv]
    have hs2 : silentZ cs = (i : Int) := by unfold silentZ; rw [find_here hi hlow hro]
    have HD := Lib.hid hd2
    have HSI := Lib.hid hs2
    have HJ := Lib.hid hj
    clear hr hj hlow hlv hro hd2 hs2
    go_wp2_with fail
    refine (firstAstray_any cs _ _ HC.out HL.out (by omega)).mono ?_
    rw [astray_none HJ.out]
    rintro e w1 ⟨rfl, hg1⟩
    have HG1 := Lib.hid (only_trans HG0.out hg1)
    have HB1 := Lib.hid (HB0.out.kept hg1)
    have HC1 := Lib.hid (HC.out.kept hg1)
    clear hg1 HG0 HB0 HC
    go_wp2_with fail
    refine (flow_any cs _ _ h1 HC1.out HL.out hlen HJ.out).mono ?_
    rintro e w2 ⟨fv, rfl, hF, hg2⟩
    obtain ⟨sv, nv, rfl, hs, hnx⟩ := id hF
    obtain ⟨A1, c1, rfl, _⟩ := id hs
    obtain ⟨A2, c2, rfl, _⟩ := id hnx
    have HG2 := Lib.hid (only_trans HG1.out hg2)
    have hb2 := HB1.out.kept hg2
    have d0 := hb2.cell 0
    have d1 := hb2.cell 1
    have f0 := hb2.frozen 0
    have f1 := hb2.frozen 1
    obtain ⟨hb3, hF3, hg3⟩ := flow_stored hb2 hF HG2.out (Nat.le_refl _)
    have HC3 := Lib.hid (HC1.out.kept hg2)
    clear hg2 HG1 HB1 HC1 hF hs hnx hb2
    generalize (intsN (flowB cs).1).length = n1 at *
    generalize ((flowB cs).2.map intsN).length = n2 at *
    go_upto_region 7 with fail
    have hcell : CodeA ((w2.setCell ⟨w.heap.size, 0, none⟩ (.slice A1 n1 c1)).setCell ⟨w.heap.size, 1, none⟩ (.slice A2 n2 c2)) (.slice A cs.length cp) cs := HC9.out _ hg3
    have HB3 := Lib.hid hb3
    have HF3 := Lib.hid hF3
    have HG3 := Lib.hid hg3
    have HC4 := Lib.hid hcell
    clear hb3 hF3 hg3 hcell d0 d1 f0 f1 HC3 HG2
    generalize (w2.setCell ⟨w.heap.size, 0, none⟩ (.slice A1 n1 c1)).setCell ⟨w.heap.size, 1, none⟩ (.slice A2 n2 c2) = w3 at *
    have d0 : w3.cell? ⟨w.heap.size, 0, none⟩ = some (.slice A1 n1 c1) := HB3.out.cell 0
    have d1 : w3.cell? ⟨w.heap.size, 1, none⟩ = some (.slice A2 n2 c2) := HB3.out.cell 1
    go_wp2_with fail
    refine (firstDead_any cs _ _ h1 HF3.out HL.out hlen HJ.out).mono ?_
    rw [HD.out]
    rintro e w4 ⟨rfl, hg4⟩
    have HG4 := Lib.hid (only_trans HG3.out hg4)
    have HB4 := Lib.hid (HB3.out.kept hg4)
    have HF4 := Lib.hid (HF3.out.kept hg4)
    have HC5 := Lib.hid (HC4.out.kept hg4)
    clear hg4 HG3 HB3 HF3 HC4 d0 d1
    go_wp2_with fail
    refine (firstSilent_any cs _ _ HC5.out HL.out hlen HJ.out).mono ?_
    rw [HSI.out]
    rintro e w5 ⟨rfl, hg5⟩
    have HG6 := Lib.hid (only_trans HG4.out hg5)
    have HB6 := Lib.hid (HB4.out.kept hg5)
    have HF6 := Lib.hid (HF4.out.kept hg5)
    clear hg5 HG4 HB4 HF4 HC5
    have k0 : w5.cell? ⟨w.heap.size, 0, none⟩ = some (.slice A1 n1 c1) := HB6.out.cell 0
    have k1 : w5.cell? ⟨w.heap.size, 1, none⟩ = some (.slice A2 n2 c2) := HB6.out.cell 1
    have f0 := HB6.out.frozen 0
    have f1 := HB6.out.frozen 1
    obtain ⟨hb8, hF8, hg8⟩ := flow_stored (sv := .slice none 0 0) (nv := .slice none 0 0) (f := ([], [])) HB6.out (FlowA.empty _) HG6.out (Nat.le_refl _)
    have HB8 := Lib.hid hb8
    have HF8 := Lib.hid hF8
    have HG8 := Lib.hid hg8
    clear hb8 hF8 hg8
    go_wp2_with fail
    exact cut_out rfl rfl rfl HB8.out HR.out HF8.out HG8.out
  · have HR := Lib.hid hr
    have h1 := hok.n0
    have hlen := hok.n1
    have h0 : ((cs.length : Int) == 0) = false := by rw [beq_eq_false_iff_ne]; omega
    have h9 : (cs.length : Int) ≤ 128 := by omega
    have hd2 : deadZ cs = -1 := by unfold deadZ; rw [find_never hok.live]
    have hs2 : silentZ cs = -1 := by unfold silentZ; rw [find_never hok.still]
    have HD := Lib.hid hd2
    have HSI := Lib.hid hs2
    have HJ := Lib.hid hok.jmp
    clear hr hok hd2 hs2
    go_wp2_with fail
    refine (firstAstray_any cs _ _ HC.out HL.out (by omega)).mono ?_
    rw [astray_none HJ.out]
    rintro e w1 ⟨rfl, hg1⟩
    have HG1 := Lib.hid (only_trans HG0.out hg1)
    have HB1 := Lib.hid (HB0.out.kept hg1)
    have HC1 := Lib.hid (HC.out.kept hg1)
    clear hg1 HG0 HB0 HC
    go_wp2_with fail
    refine (flow_any cs _ _ h1 HC1.out HL.out hlen HJ.out).mono ?_
    rintro e w2 ⟨fv, rfl, hF, hg2⟩
    obtain ⟨sv, nv, rfl, hs, hnx⟩ := id hF
    obtain ⟨A1, c1, rfl, _⟩ := id hs
    obtain ⟨A2, c2, rfl, _⟩ := id hnx
    have HG2 := Lib.hid (only_trans HG1.out hg2)
    have hb2 := HB1.out.kept hg2
    have d0 := hb2.cell 0
    have d1 := hb2.cell 1
    have f0 := hb2.frozen 0
    have f1 := hb2.frozen 1
    obtain ⟨hb3, hF3, hg3⟩ := flow_stored hb2 hF HG2.out (Nat.le_refl _)
    have HC3 := Lib.hid (HC1.out.kept hg2)
    clear hg2 HG1 HB1 HC1 hF hs hnx hb2
    generalize (intsN (flowB cs).1).length = n1 at *
    generalize ((flowB cs).2.map intsN).length = n2 at *
    go_upto_region 7 with fail
    have hcell : CodeA ((w2.setCell ⟨w.heap.size, 0, none⟩ (.slice A1 n1 c1)).setCell ⟨w.heap.size, 1, none⟩ (.slice A2 n2 c2)) (.slice A cs.length cp) cs := HC9.out _ hg3
    have HB3 := Lib.hid hb3
    have HF3 := Lib.hid hF3
    have HG3 := Lib.hid hg3
    have HC4 := Lib.hid hcell
    clear hb3 hF3 hg3 hcell d0 d1 f0 f1 HC3 HG2
    generalize (w2.setCell ⟨w.heap.size, 0, none⟩ (.slice A1 n1 c1)).setCell ⟨w.heap.size, 1, none⟩ (.slice A2 n2 c2) = w3 at *
    have d0 : w3.cell? ⟨w.heap.size, 0, none⟩ = some (.slice A1 n1 c1) := HB3.out.cell 0
    have d1 : w3.cell? ⟨w.heap.size, 1, none⟩ = some (.slice A2 n2 c2) := HB3.out.cell 1
    go_wp2_with fail
    refine (firstDead_any cs _ _ h1 HF3.out HL.out hlen HJ.out).mono ?_
    rw [HD.out]
    rintro e w4 ⟨rfl, hg4⟩
    have HG4 := Lib.hid (only_trans HG3.out hg4)
    have HB4 := Lib.hid (HB3.out.kept hg4)
    have HF4 := Lib.hid (HF3.out.kept hg4)
    have HC5 := Lib.hid (HC4.out.kept hg4)
    clear hg4 HG3 HB3 HF3 HC4 d0 d1
    go_wp2_with fail
    refine (firstSilent_any cs _ _ HC5.out HL.out hlen HJ.out).mono ?_
    rw [HSI.out]
    rintro e w5 ⟨rfl, hg5⟩
    have HG6 := Lib.hid (only_trans HG4.out hg5)
    have HB6 := Lib.hid (HB4.out.kept hg5)
    have HF6 := Lib.hid (HF4.out.kept hg5)
    clear hg5 HG4 HB4 HF4 HC5
    have k0 : w5.cell? ⟨w.heap.size, 0, none⟩ = some (.slice A1 n1 c1) := HB6.out.cell 0
    have k1 : w5.cell? ⟨w.heap.size, 1, none⟩ = some (.slice A2 n2 c2) := HB6.out.cell 1
    have f0 := HB6.out.frozen 0
    have f1 := HB6.out.frozen 1
    obtain ⟨hb8, hF8, hg8⟩ := flow_stored HB6.out HF6.out HG6.out (Nat.le_refl _)
    have HB8 := Lib.hid hb8
    have HF8 := Lib.hid hF8
    have HG8 := Lib.hid hg8
    clear hb8 hF8 hg8
    go_wp2_with fail
    exact cut_out rfl rfl rfl HB8.out HR.out HF8.out HG8.out
end Go.Proofs.Ytgdoklbcmgkllaa

/- The document's Cut (colloquyref10), from what its flow answers. -/
import Derived.Test.YtgdoklbcmgkllaaBRCl
namespace Go.Proofs.Ytgdoklbcmgkllaa
open Go.RowKit

/-- What the document's flow answers. -/
def RFlow : Prop := ∀ (cs : List Bi) (v : Value) (w : World), 1 ≤ cs.length → CodeA w v cs → (∀ x ∈ cs, x.2.length ≤ 1048576) → cs.length ≤ 128 → (∀ i x, cs[i]? = some x → jumpX cs.length i x = true) → Calls Try.prog 14 #[v] w fun e w' => ∃ v', e = .returned v' ∧ FlowA w' v' (flowB cs) ∧ w.grownBy w' none
theorem jumpN_is {cs : List Bi} {i : Nat} {x : Bi} (h : cs[i]? = some x) : jumpN cs i = jumpX cs.length i x := by unfold jumpN; rw [h]
theorem low_next {p : Nat → Bool} {i : Nat} {c : Bool} (h : ∀ j, j < i → p j = c) (hi : p i = c) : ∀ j, j < i + 1 → p j = c := fun j hj => by
  rcases Nat.lt_or_eq_of_le (Nat.le_of_lt_succ hj) with h1 | h1
  · exact h j h1
  · rw [h1]; exact hi
theorem take_has {l : List Nat} {k t b : Nat} (h : l[k]? = some t) : (l.take (k + 1)).contains b = ((l.take k).contains b || (t == b)) := by
  rw [List.take_add_one, h, Bool.eq_iff_iff]
  simp only [Bool.or_eq_true, List.contains_iff_mem, List.mem_append, Option.toList_some, List.mem_singleton, beq_iff_eq]
  exact or_congr Iff.rfl eq_comm
set_option maxRecDepth 100000 in
set_option maxHeartbeats 8000000 in
theorem rcut_of (HFL : RFlow) (cs : List Bi) (v : Value) (w : World) (hC : CodeA w v cs) (hl : ∀ x ∈ cs, x.2.length ≤ 1048576) : Calls Try.prog 5 #[v] w (CutR cs w) := by
  obtain ⟨A, cp, rfl, hcl, _⟩ := id hC
  have hclI : (cs.length : Int) ≤ 9223372036854775807 := by omega
  have HB0 : Hid (Blk (w.alloc (.cells #[.slice none 0 0, .slice none 0 0] 27)) w.heap.size 27 #[.slice none 0 0, .slice none 0 0]) := Lib.hid (Blk.new _ _ _)
  have HG0 : Hid (w.grownBy (w.alloc (.cells #[.slice none 0 0, .slice none 0 0] 27)) none) := Lib.hid (only_alloc (only_refl _ _) _)
  have HC := Lib.hid hC
  have HL := Lib.hid hl
  have HF := Lib.hid HFL
  clear hC hl HFL
  go_enter Try.func5, Try.ntmps5
  by_cases hw : cs.length < 1 ∨ 128 < cs.length
  · have HR := Lib.hid (cut_w hw)
    have d0 := HB0.out.cell 0
    have d1 := HB0.out.cell 1
    have f0 := HB0.out.frozen 0
    have f1 := HB0.out.frozen 1
    obtain ⟨hb8, hF8, hg8⟩ := flow_stored (sv := .slice none 0 0) (nv := .slice none 0 0) (f := ([], [])) HB0.out (FlowA.empty _) HG0.out (Nat.le_refl _)
    have HB8 := Lib.hid hb8
    have HF8 := Lib.hid hF8
    have HG8 := Lib.hid hg8
    clear hb8 hF8 hg8
    rcases hw with hw | hw
    · have h0 : (cs.length : Int) < 1 := by omega
      go_wp2_with fail
      first | exact rcut_out rfl rfl rfl HB8.out HR.out HF8.out HG8.out | exact rcut_out rfl rfl rfl HB0.out HR.out (FlowA.empty _) HG0.out
    · have h0 : (1 : Int) ≤ (cs.length : Int) := by omega
      have h1 : (128 : Int) < (cs.length : Int) := by omega
      go_wp2_with fail
      first | exact rcut_out rfl rfl rfl HB8.out HR.out HF8.out HG8.out | exact rcut_out rfl rfl rfl HB0.out HR.out (FlowA.empty _) HG0.out
  have h1 : 1 ≤ cs.length := by omega
  have h9 : cs.length ≤ 128 := by omega
  have h1I : (1 : Int) ≤ (cs.length : Int) := by omega
  have h9I : (cs.length : Int) ≤ 128 := by omega
  clear hw
  go_upto_region 3 with fail
  generalize (w.alloc (.cells #[.slice none 0 0, .slice none 0 0] 27)) = w1 at *
  obtain ⟨B, hB⟩ : ∃ B, w.heap.size = B := ⟨_, rfl⟩
  have HWB : Hid (w.heap.size ≤ B) := Lib.hid (by omega)
  rw [hB] at HB0 ⊢
  clear hB
  go_wp2_with fail
  go_loopw [5] (fun z wr => ∃ i : Nat, i ≤ cs.length ∧ z = .int .i64 (i : Int) ∧ w.grownBy wr none ∧ Blk wr B 27 #[.slice none 0 0, .slice none 0 0] ∧ ∀ j, j < i → jumpN cs j = true) (fun z _ => cs.length - (intOf z).toNat)
  case atStart => exact ⟨0, Nat.zero_le _, rfl, HG0.out, HB0.out, fun j hj => by omega⟩
  case round =>
    obtain ⟨i, hi, rfl, hg, hb, hlow⟩ := hrel
    have HG := Lib.hid hg
    have HB := Lib.hid hb
    have HLO := Lib.hid hlow
    have hi0 : (0 : Int) ≤ (i : Int) := by omega
    clear hg hb hlow
    by_cases hlt : i < cs.length
    · have hltI : (i : Int) < (cs.length : Int) := by omega
      obtain ⟨x, hx⟩ : ∃ x, cs[i]? = some x := ⟨_, List.getElem?_eq_getElem hlt⟩
      have hj := bjumps_any cs _ i x wr hx (HC.out.kept HG.out) HL.out h9
      obtain ⟨r, hr⟩ : ∃ r, jumpX cs.length i x = r := ⟨_, rfl⟩
      rw [hr] at hj
      have HJ : Hid (jumpN cs i = r) := Lib.hid ((jumpN_is hx).trans hr)
      clear hx hr
      go_wp2_with fail
      refine hj.mono ?_
      rintro e w2 ⟨rfl, hg2⟩
      have HG2 := Lib.hid (only_trans HG.out hg2)
      have HB2 := Lib.hid (HB.out.kept hg2)
      clear hj hg2 HG HB
      cases r with
      | true =>
        go_wp2_with fail
        go_roundw
        case rel => exact ⟨i + 1, by omega, by go_num, HG2.out, HB2.out, low_next HLO.out HJ.out⟩
        case measure => simp [intOf]; omega
      | false =>
        have HR := Lib.hid (cut_j h1 h9 hlt HLO.out HJ.out)
        have d0 := HB2.out.cell 0
        have d1 := HB2.out.cell 1
        have f0 := HB2.out.frozen 0
        have f1 := HB2.out.frozen 1
        obtain ⟨hb8, hF8, hg8⟩ := flow_stored (sv := .slice none 0 0) (nv := .slice none 0 0) (f := ([], [])) HB2.out (FlowA.empty _) HG2.out HWB.out
        have HB8 := Lib.hid hb8
        have HF8 := Lib.hid hF8
        have HG8 := Lib.hid hg8
        clear hb8 hF8 hg8
        go_wp2_with fail
        exact rcut_out rfl rfl rfl HB8.out HR.out HF8.out HG8.out
    · have hge : (cs.length : Int) ≤ (i : Int) := by omega
      have HJA : Hid (∀ j, j < cs.length → jumpN cs j = true) := Lib.hid fun j hj => HLO.out j (by omega)
      have hfl := HF.out cs (.slice A cs.length cp) wr h1 (HC.out.kept HG.out) HL.out h9 (jump_all HJA.out)
      go_wp2_with fail
      refine hfl.mono ?_
      rintro e w2 ⟨fv, rfl, hF, hg2⟩
      obtain ⟨A1, n1, c1, A2, n2, c2, rfl, e1, e2, hI1, hN2⟩ := flow_slices hF
      have hs0 := starts_zero h1
      obtain ⟨n, hn⟩ : ∃ n, (startsL cs).length = n := ⟨_, rfl⟩
      have hn1 : 0 < n := by rw [← hn]; exact (List.getElem?_eq_some_iff.1 hs0).1
      have hn128 : n ≤ 128 := by
        rw [← hn]
        unfold startsL
        have := List.length_filter_le (beginB cs) (List.range cs.length)
        rw [List.length_range] at this
        omega
      replace e1 : n = n1 := (e1.trans hn).symm
      replace e2 : n = n2 := (e2.trans (by rw [List.length_map, List.length_range]; exact hn)).symm
      subst e1
      subst e2
      obtain ⟨b1, o1, rfl, -⟩ := hI1.at_ (i := 0) (z := 0) (by unfold intsN; rw [List.getElem?_map, hs0]; rfl)
      obtain ⟨b2, o2, -, -, rfl, -, -⟩ := hN2.at_ (i := 0) (l := intsN (nextB cs 0)) (by rw [List.getElem?_map, List.getElem?_map, List.getElem?_range (by omega)]; rfl)
      have hgA : w2.grownBy (w2.alloc (.cells #[.slice (some ⟨b1, o1, none⟩) n c1, .slice (some ⟨b2, o2, none⟩) n c2] 27)) none := only_alloc (only_refl _ _) _
      have hg3 := only_trans (only_trans HG.out hg2) hgA
      have HS3 : Hid (St w (.slice A cs.length cp) cs w2.heap.size b1 o1 n c1 b2 o2 c2 (w2.alloc (.cells #[.slice (some ⟨b1, o1, none⟩) n c1, .slice (some ⟨b2, o2, none⟩) n c2] 27))) := Lib.hid ⟨hg3, HC.out.kept hg3, Blk.new _ _ _, hI1.kept hgA, hN2.kept hgA⟩
      have HB3 := Lib.hid (HB.out.kept (only_trans hg2 hgA))
      have HNN := Lib.hid hn
      have hnI1 : (1 : Int) ≤ (n : Int) := by omega
      have hnI2 : (n : Int) ≤ 128 := by omega
      have hBBf : B < w2.heap.size := (HB.out.kept hg2).lt
      clear hfl hF hg2 hI1 hN2 hs0 hn hgA hg3 HB0 HG0
      go_upto_region 9 with fail
      generalize (w2.alloc (.cells #[.slice (some ⟨b1, o1, none⟩) n c1, .slice (some ⟨b2, o2, none⟩) n c2] 27)) = w3 at *
      generalize w2.heap.size = Bf at *
      go_wp2_with fail
      go_loopw [7] (fun z wx => ∃ b : Nat, 1 ≤ b ∧ b ≤ n ∧ z = .int .i64 (b : Int) ∧ St w (.slice A cs.length cp) cs Bf b1 o1 n c1 b2 o2 c2 wx ∧ Blk wx B 27 #[.slice none 0 0, .slice none 0 0] ∧ ∀ j, j < b → deadB cs j = false) (fun z _ => n - (intOf z).toNat)
      case atStart => exact ⟨1, Nat.le_refl _, hn1, rfl, HS3.out, HB3.out, fun j hj => by rw [show j = 0 by omega]; rfl⟩
      case round =>
        obtain ⟨b, hb1, hbn, rfl, hS, hb, hlow⟩ := hrel
        have HS := Lib.hid hS
        have HB4 := Lib.hid hb
        have HLO2 := Lib.hid hlow
        have hb0 : (1 : Int) ≤ (b : Int) := by omega
        have p0 := hS.f0
        clear hS hb hlow
        by_cases hblt : b < n
        · have hbI : (b : Int) < (n : Int) := by omega
          go_wp2_with fail
          clear p0
          generalize wr = Wb at *
          go_loopw [8, 9] (fun y z wx => ∃ a : Nat, a ≤ b ∧ z = .int .i64 (a : Int) ∧ y = .bool ((List.range a).any fun a => (nextB cs a).contains b) ∧ Wb.grownBy wx none) (fun _ z _ => b - (intOf z).toNat)
          case atStart => exact ⟨0, Nat.zero_le _, rfl, rfl, only_refl _ _⟩
          case round =>
            obtain ⟨a, hab, rfl, rfl, hg⟩ := hrel
            have HGa := Lib.hid hg
            have ha0 : (0 : Int) ≤ (a : Int) := by omega
            obtain ⟨q, hq⟩ : ∃ q, ((List.range a).any fun a => (nextB cs a).contains b) = q := ⟨_, rfl⟩
            rw [hq]
            have HQ := Lib.hid hq
            clear hg hq
            by_cases halt : a < b
            · have haI : (a : Int) < (b : Int) := by omega
              obtain ⟨gl, hgl⟩ : ∃ gl, goesN cs (lastB cs a) = gl := ⟨_, rfl⟩
              have hgll : gl.length ≤ 1048577 := by rw [← hgl]; exact goesN_length HL.out
              have hnl : (nextB cs a).length = gl.length := by unfold nextB; rw [hgl]; simp
              obtain ⟨A5, c5, k5, hi5⟩ := HS.out.next (by rw [HNN.out]; omega) hgl
              obtain ⟨m, hm⟩ : ∃ m, gl.length = m := ⟨_, rfl⟩
              rw [hm] at k5 hi5 hnl hgll
              have HK5 := Lib.hid k5
              have HI5 := Lib.hid hi5
              have HNL := Lib.hid hnl
              have hmI : (m : Int) ≤ 1048577 := by omega
              clear hgl hgll hnl k5 hi5 hm
              go_wp2_with fail
              go_loopw [8, 10] (fun y z wx => ∃ k : Nat, k ≤ m ∧ z = .int .i64 (k : Int) ∧ y = .bool (q || ((nextB cs a).take k).contains b) ∧ Wb.grownBy wx none) (fun _ z _ => m - (intOf z).toNat)
              case atStart => exact ⟨0, Nat.zero_le _, rfl, by simp, HGa.out⟩
              case round =>
                obtain ⟨k, hkm, rfl, rfl, hg⟩ := hrel
                have HGk := Lib.hid hg
                have hk0 : (0 : Int) ≤ (k : Int) := by omega
                obtain ⟨r, hr⟩ : ∃ r, (q || ((nextB cs a).take k).contains b) = r := ⟨_, rfl⟩
                rw [hr]
                have HRR := Lib.hid hr
                have p1 := (HS.out.kept hg).f1
                have k5 := cell_row HK5.out hg (fun e => by cases e)
                clear hg hr
                by_cases hklt : k < m
                · have hkI : (k : Int) < (m : Int) := by omega
                  obtain ⟨t, ht⟩ : ∃ t, (nextB cs a)[k]? = some t := ⟨_, List.getElem?_eq_getElem (by rw [HNL.out]; exact hklt)⟩
                  have hnext : (q || ((nextB cs a).take (k + 1)).contains b) = (r || (t == b)) := by
                    rw [← HRR.out, take_has ht, Bool.or_assoc]
                  obtain ⟨b5, o5, h5, z5⟩ := (HI5.out.kept HGk.out).at_ (i := k) (z := (t : Int)) (by unfold intsN; rw [List.getElem?_map, ht]; rfl)
                  subst h5
                  obtain ⟨tb, htb⟩ : ∃ tb, ((t : Int) == (b : Int)) = tb := ⟨_, rfl⟩
                  have htb2 : (t == b) = tb := by
                    rw [← htb]
                    by_cases e : t = b
                    · subst e; simp
                    · have : ¬ ((t : Int) = (b : Int)) := by omega
                      rw [beq_eq_false_iff_ne.2 e, beq_eq_false_iff_ne.2 this]
                  rw [htb2] at hnext
                  have HNX := Lib.hid hnext
                  clear hnext htb2 ht
                  cases r with
                  | true =>
                    go_wp2_with fail
                    go_roundw
                    case rel => exact ⟨k + 1, by omega, by go_num, by rw [HNX.out]; rfl, HGk.out⟩
                    case measure => simp [intOf]; omega
                  | false =>
                    go_wp2_with fail
                    go_roundw
                    case rel => exact ⟨k + 1, by omega, by go_num, by rw [HNX.out]; rfl, HGk.out⟩
                    case measure => simp [intOf]; omega
                · have hge2 : (m : Int) ≤ (k : Int) := by omega
                  have hnext : ((List.range (a + 1)).any fun a => (nextB cs a).contains b) = r := by
                    rw [List.range_succ, List.any_append, HQ.out, ← HRR.out, List.take_of_length_le (by rw [HNL.out]; omega)]
                    simp
                  have HNX := Lib.hid hnext
                  clear hnext
                  go_wp2_with fail
                  go_roundw
                  case rel => exact ⟨a + 1, by omega, by go_num, by rw [HNX.out], HGk.out⟩
                  case measure => simp [intOf]; omega
            · have hge2 : (b : Int) ≤ (a : Int) := by omega
              obtain rfl : a = b := by omega
              have HS5 := Lib.hid (HS.out.kept HGa.out)
              have HB5 := Lib.hid (HB4.out.kept HGa.out)
              have hdd : deadB cs a = !q := by
                unfold deadB
                rw [HQ.out, decide_eq_true (by omega), Bool.true_and]
              have HDD := Lib.hid hdd
              clear hdd
              cases q with
              | true =>
                go_wp2_with fail
                go_roundw
                case rel => exact ⟨a + 1, by omega, by omega, by go_num, HS5.out, HB5.out, low_next HLO2.out HDD.out⟩
                case measure => simp [intOf]; omega
              | false =>
                obtain ⟨s, hs⟩ : ∃ s, (startsL cs)[a]? = some s := ⟨_, List.getElem?_eq_getElem (by rw [HNN.out]; exact hblt)⟩
                have HR := Lib.hid (cut_d h1 h9 HJA.out hs HLO2.out HDD.out)
                have k0 := HS5.out.start hs
                have p0 := HS5.out.f0
                have d0 := HB5.out.cell 0
                have d1 := HB5.out.cell 1
                have f0 := HB5.out.frozen 0
                have f1 := HB5.out.frozen 1
                obtain ⟨hb8, hF8, hg8⟩ := flow_stored (sv := .slice none 0 0) (nv := .slice none 0 0) (f := ([], [])) HB5.out (FlowA.empty _) HS5.out.g HWB.out
                have HB8 := Lib.hid hb8
                have HF8 := Lib.hid hF8
                have HG8 := Lib.hid hg8
                have q0 : Bf ≠ B := by omega
                have q1 : B ≠ Bf := by omega
                have q2 : b1 ≠ B := by
                  obtain ⟨A', c', e, hA⟩ := HS5.out.s
                  obtain ⟨b', o', e2, ⟨cs', hbl⟩, _⟩ := hA (by intro e; unfold intsN at e; rw [List.map_eq_nil_iff] at e; have := HNN.out; rw [e] at this; simp at this; omega)
                  injection e with e3
                  rw [← e3] at e2
                  injection e2 with e2
                  injection e2 with e2
                  subst e2
                  exact Blk.ne_ hbl HB5.out (by decide)
                have q3 : B ≠ b1 := fun e => q2 e.symm
                clear hb8 hF8 hg8 hs
                go_upto_region 21 with fail
                go_region
                all_goals go_wp2_with fail
                all_goals exact rcut_out rfl rfl rfl (HB8.out.kept (only_drew (only_refl _ _))) HR.out (HF8.out.kept (only_drew (only_refl _ _))) (only_drew HG8.out)
        · have hge2 : (n : Int) ≤ (b : Int) := by omega
          have HLV : Hid (∀ j, j < (startsL cs).length → deadB cs j = false) := Lib.hid fun j hj => HLO2.out j (by rw [HNN.out] at hj; omega)
          go_wp2_with fail
          go_loopw [11] (fun z wx => ∃ i : Nat, i ≤ cs.length ∧ z = .int .i64 (i : Int) ∧ St w (.slice A cs.length cp) cs Bf b1 o1 n c1 b2 o2 c2 wx ∧ Blk wx B 27 #[.slice none 0 0, .slice none 0 0] ∧ ∀ j, j < i → roundB cs j = false) (fun z _ => cs.length - (intOf z).toNat)
          case atStart => exact ⟨0, Nat.zero_le _, rfl, HS.out, HB4.out, fun j hj => by omega⟩
          case round =>
            obtain ⟨i2, hi2, rfl, hS, hb, hlow⟩ := hrel
            have HS6 := Lib.hid hS
            have HB6 := Lib.hid hb
            have HLO3 := Lib.hid hlow
            have hi20 : (0 : Int) ≤ (i2 : Int) := by omega
            clear hS hb hlow
            by_cases hlt2 : i2 < cs.length
            · have hlt2I : (i2 : Int) < (cs.length : Int) := by omega
              have hro := bround_any cs _ i2 wr hlt2 HS6.out.c HL.out h9 (jump_all HJA.out)
              obtain ⟨r, hr⟩ : ∃ r, roundB cs i2 = r := ⟨_, rfl⟩
              rw [hr] at hro
              have HRO := Lib.hid hr
              clear hr
              go_wp2_with fail
              refine hro.mono ?_
              rintro e w9 ⟨rfl, hg9⟩
              have HS7 := Lib.hid (HS6.out.kept hg9)
              have HB7 := Lib.hid (HB6.out.kept hg9)
              clear hro hg9 HS6 HB6
              cases r with
              | false =>
                go_wp2_with fail
                go_roundw
                case rel => exact ⟨i2 + 1, by omega, by go_num, HS7.out, HB7.out, low_next HLO3.out HRO.out⟩
                case measure => simp [intOf]; omega
              | true =>
                have HR := Lib.hid (cut_r h1 h9 HJA.out HLV.out hlt2 HLO3.out HRO.out)
                have d0 := HB7.out.cell 0
                have d1 := HB7.out.cell 1
                have f0 := HB7.out.frozen 0
                have f1 := HB7.out.frozen 1
                obtain ⟨hb8, hF8, hg8⟩ := flow_stored (sv := .slice none 0 0) (nv := .slice none 0 0) (f := ([], [])) HB7.out (FlowA.empty _) HS7.out.g HWB.out
                have HB8 := Lib.hid hb8
                have HF8 := Lib.hid hF8
                have HG8 := Lib.hid hg8
                clear hb8 hF8 hg8
                go_wp2_with fail
                exact rcut_out rfl rfl rfl HB8.out HR.out HF8.out HG8.out
            · have hge3 : (cs.length : Int) ≤ (i2 : Int) := by omega
              have HR := Lib.hid (cut_o h1 h9 HJA.out HLV.out (fun j hj => HLO3.out j (by omega)))
              have p0 := HS6.out.f0
              have p1 := HS6.out.f1
              have d0 := HB6.out.cell 0
              have d1 := HB6.out.cell 1
              have f0 := HB6.out.frozen 0
              have f1 := HB6.out.frozen 1
              have hFl : FlowA wr (.agg #[.slice (some ⟨b1, o1, none⟩) n c1, .slice (some ⟨b2, o2, none⟩) n c2]) (flowB cs) := ⟨_, _, rfl, HS6.out.s, HS6.out.x⟩
              obtain ⟨hb8, hF8, hg8⟩ := flow_stored HB6.out hFl HS6.out.g HWB.out
              have HB8 := Lib.hid hb8
              have HF8 := Lib.hid hF8
              have HG8 := Lib.hid hg8
              clear hb8 hF8 hg8 hFl
              go_wp2_with fail
              exact rcut_out rfl rfl rfl HB8.out HR.out HF8.out HG8.out
end Go.Proofs.Ytgdoklbcmgkllaa

/- BlocksWhole. -/
import Derived.Test.YtnejikkibneegaaBWhA
namespace Go.Proofs.Ytnejikkibneegaa
open Go.RowKit Go.Maps

set_option maxRecDepth 100000 in
set_option maxHeartbeats 8000000 in
theorem bwhole_any (rs : List Rw) (odd : Nat) (v : Value) (w : World) (hR : RowsA w v rs) (hodd : odd < 256) : Calls Try.prog 5 #[v, .int .u8 (odd : Int)] w fun e w' => e = .returned (.bool true) ∧ w.grownBy w' none := by
  obtain ⟨Ar, cr, rfl, _⟩ := id hR
  have HR := Lib.hid hR
  have HODD := Lib.hid hodd
  have hmk : ∀ W : World, (Instr.makeMap 42 none).run Try.prog W = .ok (.map (some W.heap.size)) (W.alloc (.map #[] 0)) := fun W => by simp [Instr.makeMap, go_sem]
  have hoddI : (odd : Int) < 256 := by omega
  have hodd0 : (0 : Int) ≤ (odd : Int) := by omega
  clear hR hodd
  go_enter Try.func5, Try.ntmps5
  go_wp2_with fail
  refine (works_any _).mono ?_
  rintro e w1 ⟨rfl, hg1⟩
  have HG1 := Lib.hid hg1
  clear hg1
  go_wp2_with fail
  refine (coded_any rs odd _ _ (HR.out.kept HG1.out) HODD.out).mono ?_
  rintro e w2 ⟨cv, cs, rfl, hC, hn, hl, hg2⟩
  obtain ⟨Ac, cc, rfl, _⟩ := id hC
  have HG2 := Lib.hid (only_trans HG1.out hg2)
  have HC := Lib.hid hC
  have HL : Hid (∀ x ∈ cs, x.2.length ≤ 1048576) := Lib.hid fun x hx => by have := hl x hx; omega
  have HL3 := Lib.hid hl
  have HN := Lib.hid hn
  have hnI : (cs.length : Int) ≤ 128 := by omega
  clear HG1 hg2 hC hl hn HR
  go_wp2_with fail
  refine (blCut_any cs _ _ HC.out HL.out).mono ?_
  rintro e w3 ⟨fv, rfl, hF, hg3⟩
  obtain ⟨A1, n1, c1, A2, n2, c2, rfl, e1, e2, hI1, hN2⟩ := flow_slices hF
  have hg4 : w2.grownBy (w3.alloc (.cells #[.slice A1 n1 c1, .slice A2 n2 c2] 27)) none := only_alloc hg3 _
  have HF3 := Lib.hid hg3
  have HC4 := Lib.hid (HC.out.kept hg4)
  have HG4 := Lib.hid (only_trans HG2.out hg4)
  clear HG2 HC hF hg3 hg4
  rcases cut_cases cs with ⟨hr, hlen⟩ | ⟨i, hi, hlen, hr, hj, hlow⟩ | ⟨b, h1, hlen, hj, hb, hr, hd, hlow⟩ | ⟨i, hi, hlen, hj, hlv, hr, hro, hlow⟩ | ⟨hok, hr⟩
  · rw [hr] at e1 e2
    replace e1 : n1 = 0 := e1
    replace e2 : n2 = 0 := e2
    subst e1
    subst e2
    have hz1 : decide ((-1 : Int) < (cs.length : Int)) = true := decide_eq_true (by omega)
    rw [hr]
    clear hr hI1 hN2
    go_wp2_with fail
    go_ret
    exact ⟨rfl, HG4.out⟩
  · rw [hr] at e1 e2
    replace e1 : n1 = 0 := e1
    replace e2 : n2 = 0 := e2
    subst e1
    subst e2
    have hiI : (i : Int) < (cs.length : Int) := by omega
    have hm1 : ((i : Int) == -1) = false := by rw [beq_eq_false_iff_ne]; omega
    rw [hr]
    clear hr hI1 hN2 hj hlow
    go_wp2_with fail
    go_ret
    exact ⟨rfl, HG4.out⟩
  · obtain ⟨i, hii⟩ : ∃ i, (startsL cs).getD b 0 = i := ⟨_, rfl⟩
    have hi : i < cs.length := by
      rw [List.getD_eq_getElem?_getD, List.getElem?_eq_getElem hb] at hii
      rw [← hii]
      exact (mem_starts.1 (List.getElem_mem hb)).1
    rw [hii] at hr
    rw [hr] at e1 e2
    replace e1 : n1 = 0 := e1
    replace e2 : n2 = 0 := e2
    subst e1
    subst e2
    have hiI : (i : Int) < (cs.length : Int) := by omega
    have hm1 : ((i : Int) == -1) = false := by rw [beq_eq_false_iff_ne]; omega
    rw [hr]
    clear hr hI1 hN2 hj hlow hii hd hb
    go_wp2_with fail
    go_ret
    exact ⟨rfl, HG4.out⟩
  · rw [hr] at e1 e2
    replace e1 : n1 = 0 := e1
    replace e2 : n2 = 0 := e2
    subst e1
    subst e2
    have hiI : (i : Int) < (cs.length : Int) := by omega
    have hm1 : ((i : Int) == -1) = false := by rw [beq_eq_false_iff_ne]; omega
    rw [hr]
    clear hr hI1 hN2 hj hlow hlv hro
    go_wp2_with fail
    go_ret
    exact ⟨rfl, HG4.out⟩
  · have HK := Lib.hid hok
    have h1 := hok.n0
    have hs0 := starts_zero h1
    obtain ⟨n, hn⟩ : ∃ n, (startsL cs).length = n := ⟨_, rfl⟩
    have hn1 : 0 < n := by rw [← hn]; exact (List.getElem?_eq_some_iff.1 hs0).1
    have hn128 : n ≤ 128 := by
      rw [← hn]
      unfold startsL
      have := List.length_filter_le (beginB cs) (List.range cs.length)
      rw [List.length_range] at this
      have := HN.out
      omega
    rw [hr] at e1 e2 hI1 hN2
    replace e1 : n = n1 := (e1.trans hn).symm
    replace e2 : n = n2 := (e2.trans (by rw [List.length_map, List.length_range]; exact hn)).symm
    subst e1
    subst e2
    obtain ⟨b1, o1, rfl, hc0⟩ := hI1.at_ (i := 0) (z := 0) (by unfold intsN; rw [List.getElem?_map, hs0]; rfl)
    obtain ⟨b2, o2, -, -, rfl, -, -⟩ := hN2.at_ (i := 0) (l := intsN (nextB cs 0)) (by rw [List.getElem?_map, List.getElem?_map, List.getElem?_range (by omega)]; rfl)
    have hgA : w3.grownBy (w3.alloc (.cells #[.slice (some ⟨b1, o1, none⟩) n c1, .slice (some ⟨b2, o2, none⟩) n c2] 27)) none := only_alloc (only_refl _ _) _
    have HS4 : Hid (St w (.slice Ac cs.length cc) cs w3.heap.size b1 o1 n c1 b2 o2 c2 (w3.alloc (.cells #[.slice (some ⟨b1, o1, none⟩) n c1, .slice (some ⟨b2, o2, none⟩) n c2] 27))) := Lib.hid ⟨HG4.out, HC4.out, Blk.new _ _ _, hI1.kept hgA, hN2.kept hgA⟩
    have HNN := Lib.hid hn
    have hnI1 : (1 : Int) ≤ (n : Int) := by omega
    have hnI2 : (n : Int) ≤ 128 := by omega
    have hnz : ((n : Int) == 0) = false := by rw [beq_eq_false_iff_ne]; omega
    have hgo := fun (i : Nat) w hC => blGoes_any cs (.slice Ac cs.length cc) (i : Int) w hC HL.out (by have := HN.out; omega)
    simp only [goesI_at] at hgo
    rw [hr]
    clear hr hI1 hN2 hgA hc0 hs0 hn HF3 HC4 HG4 hok
    go_upto_region 7 with fail
    generalize w3.heap.size = Bf at *
    generalize (w3.alloc (.cells #[.slice (some ⟨b1, o1, none⟩) n c1, .slice (some ⟨b2, o2, none⟩) n c2] 27)) = w4 at *
    have d0 := HS4.out.f0
    have d1 := HS4.out.f1
    have d2 : w4.cell? ⟨b1, o1, none⟩ = some (.int .i64 0) := HS4.out.start (i := 0) (starts_zero h1)
    go_upto_region 9 with fail
    have hg5 : w4.grownBy (w4.alloc (.map #[] 0)) none := only_alloc (only_refl _ _) _
    have HS5 := Lib.hid (HS4.out.kept hg5)
    have HM5 := Lib.hid (MMap.made w4)
    have hwb : w.heap.size ≤ w4.heap.size := HS4.out.g.size
    clear d0 d1 d2 hg5 HS4
    go_upto_region 10 with fail
    generalize w4.heap.size = B9 at *
    generalize w4.alloc (.map #[] 0) = w5 at *
    go_wp2_with fail
    go_loopw [10] (fun z wr => ∃ (b : Nat) (M : MMp), b ≤ n ∧ z = .int .i64 (b : Int) ∧ St w (.slice Ac cs.length cc) cs Bf b1 o1 n c1 b2 o2 c2 wr ∧ MMap wr B9 b M ∧ NumM cs b M) (fun z _ => n - (intOf z).toNat)
    case atStart => exact ⟨0, _, Nat.zero_le _, rfl, HS5.out, HM5.out, fun j s hj _ => by omega⟩
    case round =>
      obtain ⟨b, M, hb, rfl, hS, hM, hnum⟩ := hrel
      have HS := Lib.hid hS
      have HM := Lib.hid hM
      have HNUM := Lib.hid hnum
      have hb0 : (0 : Int) ≤ (b : Int) := by omega
      have d0 := hS.f0
      have d1 := hS.f1
      clear hS hM hnum
      by_cases hlt : b < n
      · have hltI : (b : Int) < (n : Int) := by omega
        obtain ⟨s, hs⟩ : ∃ s, (startsL cs)[b]? = some s := ⟨_, List.getElem?_eq_getElem (by rw [HNN.out]; exact hlt)⟩
        have HSB := Lib.hid hs
        have hsn : s < cs.length := (mem_starts.1 (List.mem_of_getElem? hs)).1
        have k0 := HS.out.start hs
        have hz1 : decide ((cs.length : Int) ≤ (s : Int)) = false := decide_eq_false (by omega)
        have hz1n : decide (cs.length ≤ s) = false := decide_eq_false (by omega)
        have HNUM2 := Lib.hid (HNUM.out.next hs)
        clear hs
        rcases Nat.eq_zero_or_pos b with hbz | hbp
        · have hzb : decide ((0 : Int) < (b : Int)) = false := decide_eq_false (by omega)
          have hzbn : decide (0 < b) = false := decide_eq_false (by omega)
          clear hbz
          go_upto_region 13 with fail
          go_quiet (fail)
          have hgq : wr.grownBy (wr.drewN nq) none := only_drewN (only_refl _ _) _
          generalize wr.drewN nq = wq at *
          have HSQ := Lib.hid (HS.out.kept hgq)
          have HMQ := Lib.hid (HM.out.none_ hgq)
          have k0 := HSQ.out.start HSB.out
          have d0 := HSQ.out.f0
          obtain ⟨W', hmu, hM', hgr⟩ := HMQ.out.put (i := s) (by omega) (by omega) (b : Int)
          have HS2 := Lib.hid (HSQ.out.put HMQ.out hgr hwb)
          have HM2 := Lib.hid hM'
          clear hM' hgr hgq HS HM
          go_wp2_with fail
          go_roundw
          case rel => exact ⟨b + 1, _, by omega, by go_num, HS2.out, HM2.out, HNUM2.out⟩
          case measure => simp [intOf]; omega
        · have hzb : decide ((0 : Int) < (b : Int)) = true := decide_eq_true (by omega)
          have hzbn : decide (0 < b) = true := decide_eq_true (by omega)
          obtain ⟨p, hp⟩ : ∃ p, (startsL cs)[b - 1]? = some p := ⟨_, List.getElem?_eq_getElem (by rw [HNN.out]; omega)⟩
          have hps := starts_lt hp HSB.out (by omega)
          have k1 := HS.out.start hp
          have hz2 : decide ((s : Int) ≤ (p : Int)) = false := decide_eq_false (by omega)
          have hz2n : decide (s ≤ p) = false := decide_eq_false (by omega)
          obtain ⟨bp, hbp2⟩ : ∃ bp : Nat, b = bp + 1 := ⟨b - 1, by omega⟩
          have e9 : o1 + (b - 1) = o1 + bp := by omega
          rw [e9] at k1
          have e8 : (b : Int) - 1 = (bp : Int) := by omega
          clear hp e9 hbp2
          go_upto_region 13 with fail
          go_quiet (fail)
          have hgq : wr.grownBy (wr.drewN nq) none := only_drewN (only_refl _ _) _
          generalize wr.drewN nq = wq at *
          have HSQ := Lib.hid (HS.out.kept hgq)
          have HMQ := Lib.hid (HM.out.none_ hgq)
          have k0 := HSQ.out.start HSB.out
          have d0 := HSQ.out.f0
          obtain ⟨W', hmu, hM', hgr⟩ := HMQ.out.put (i := s) (by omega) (by omega) (b : Int)
          have HS2 := Lib.hid (HSQ.out.put HMQ.out hgr hwb)
          have HM2 := Lib.hid hM'
          clear hM' hgr hgq HS HM
          go_wp2_with fail
          go_roundw
          case rel => exact ⟨b + 1, _, by omega, by go_num, HS2.out, HM2.out, HNUM2.out⟩
          case measure => simp [intOf]; omega
      · have hge : (n : Int) ≤ (b : Int) := by omega
        have hbn : b = n := by omega
        have HM6 := Lib.hid (HM.out.mono (m' := 1000) (by omega))
        have HNM : Hid (NumM cs n M) := Lib.hid (by rw [← hbn]; exact HNUM.out)
        obtain ⟨w6, hmu0, hM7, hgr⟩ := (MMap.made wr).put (i := 0) (by omega) (by omega) 1
        have hmu : (Instr.mapUpdate 42 (.map (some wr.heap.size)) (.int .i64 0) (.int .i64 1)).run Try.prog (wr.alloc (.map #[] 0)) = .ok () w6 := hmu0
        have hg6 : wr.grownBy (wr.alloc (.map #[] 0)) none := only_alloc (only_refl _ _) _
        have hwb2 : w.heap.size ≤ wr.heap.size := HS.out.g.size
        have HS7 := Lib.hid ((HS.out.kept hg6).put (MMap.made wr) hgr hwb2)
        have hlt9 : B9 < wr.heap.size := HM6.out.lt
        have HMN := Lib.hid ((HM6.out.none_ hg6).kept hgr (by simp; omega))
        have HM7 := Lib.hid hM7
        clear hbn HM HNUM HM5 HS5 hg6 hM7 hgr hmu0
        go_wp2_with fail
        clear HS HM6 hmu hmk d0 d1 hge hlt
        generalize wr.heap.size = B11 at *
        go_loopw [12] (fun z wx => ∃ (b : Nat) (M2 : MMp), b ≤ n ∧ z = .int .i64 (b : Int) ∧ St w (.slice Ac cs.length cc) cs Bf b1 o1 n c1 b2 o2 c2 wx ∧ MMap wx B9 1000 M ∧ MMap wx B11 (1 + b * 4) M2 ∧ Rcd cs b M2) (fun z _ => n - (intOf z).toNat)
        case atStart => exact ⟨0, _, Nat.zero_le _, rfl, HS7.out, HMN.out, HM7.out, upd_at, fun a t ha => by omega⟩
        case round =>
          obtain ⟨b, M2, hb, rfl, hS, hMN, hM, hrc⟩ := hrel
          have HS := Lib.hid hS
          have HMN1 := Lib.hid hMN
          have HM := Lib.hid hM
          have HRC := Lib.hid hrc
          have hb0 : (0 : Int) ≤ (b : Int) := by omega
          have d0 := hS.f0
          clear hS hMN hM hrc
          by_cases hlt : b < n
          · have hltI : (b : Int) < (n : Int) := by omega
            obtain ⟨s, hs⟩ : ∃ s, (startsL cs)[b]? = some s := ⟨_, List.getElem?_eq_getElem (by rw [HNN.out]; exact hlt)⟩
            have HSB := Lib.hid hs
            obtain ⟨hsl, hln⟩ := last_in hs
            have k0 := HS.out.start hs
            obtain ⟨en, hen⟩ : ∃ en, lastB cs b = en := ⟨_, rfl⟩
            have HEN := Lib.hid hen
            rw [hen] at hsl hln
            have henI : (en : Int) < 128 := by omega
            have hen0 : (0 : Int) ≤ (en : Int) := by omega
            clear hs hen
            go_upto_if 136 with fail
            go_cut [13] from 137 to 142 (fun u wx => u = .int .i64 ((en : Int) + 1) ∧ wr.grownBy wx none)
            case first =>
              by_cases hbn : b + 1 < n
              · have hbnI : (b : Int) + 1 < (n : Int) := by omega
                obtain ⟨t, ht⟩ : ∃ t, (startsL cs)[b + 1]? = some t := ⟨_, List.getElem?_eq_getElem (by rw [HNN.out]; exact hbn)⟩
                have k1 := HS.out.start ht
                have HT := Lib.hid (last_next ht (by rw [HNN.out]; exact hlt))
                clear ht
                go_wp2_with fail
                go_meet
                exact ⟨by rw [← HEN.out, HT.out], only_refl _ _⟩
              · have hbnI : (n : Int) ≤ (b : Int) + 1 := by omega
                have HT := Lib.hid (last_end (cs := cs) (b := b) (by rw [HNN.out]; omega) h1)
                go_wp2_with fail
                go_meet
                exact ⟨by rw [← HEN.out, HT.out], only_refl _ _⟩
            case rest =>
              obtain ⟨rfl, hg5⟩ := hcut
              have HS1 := Lib.hid (HS.out.kept hg5)
              have HMN2 := Lib.hid (HMN1.out.none_ hg5)
              have HM1 := Lib.hid (HM.out.none_ hg5)
              generalize wc = wd at *
              have d0 := HS1.out.f0
              have k0 := HS1.out.start HSB.out
              clear hg5 HS HMN1 HM
              go_wp2_with fail
              go_loopw [14] (fun z wx => ∃ i : Nat, s ≤ i ∧ i ≤ en ∧ z = .int .i64 (i : Int) ∧ St w (.slice Ac cs.length cc) cs Bf b1 o1 n c1 b2 o2 c2 wx ∧ MMap wx B9 1000 M ∧ MMap wx B11 (1 + b * 4) M2) (fun z _ => en - (intOf z).toNat)
              case atStart => exact ⟨s, Nat.le_refl _, hsl, rfl, HS1.out, HMN2.out, HM1.out⟩
              case round =>
                obtain ⟨i, hsi, hie, rfl, hS, hMN, hM⟩ := hrel
                have HS := Lib.hid hS
                have HMN3 := Lib.hid hMN
                have HM3 := Lib.hid hM
                have hi0 : (0 : Int) ≤ (i : Int) := by omega
                clear hS hMN hM d0 k0
                by_cases hilt : i < en
                · have hiI : (i : Int) < (en : Int) := by omega
                  have hgi := (goes_in HSB.out hsi (by rw [HEN.out]; exact hilt)).1
                  rw [show ((i + 1 : Nat) : Int) = (i : Int) + 1 by omega] at hgi
                  have HGI := Lib.hid hgi
                  clear hgi
                  go_wp2_with fail
                  refine (hgo i _ HS.out.c).mono ?_
                  rintro e w8 ⟨gv, rfl, ho8, hg8⟩
                  rw [HGI.out] at ho8
                  obtain ⟨Ag, cg, rfl, -⟩ := id ho8.reads
                  have hg9 : wr.grownBy (w8.alloc (.cells #[.int .i64 ((i : Int) + 1)] 3)) none := only_alloc hg8 _
                  have HG9 := Lib.hid hg9
                  have hin := bints_any [(i : Int) + 1] [(i : Int) + 1] (.slice Ag 1 cg) (.slice (some ⟨w8.heap.size, 0, none⟩) 1 1) _ _ (w8.alloc (.cells #[.int .i64 ((i : Int) + 1)] 3)) (ho8.none_ (only_alloc (only_refl _ _) _)).reads (ints_blk (Blk.new _ _ _) rfl rfl) (by simp)
                  rw [show decide ([(i : Int) + 1] = [(i : Int) + 1]) = true from decide_eq_true rfl] at hin
                  clear hg8 ho8 hg9
                  go_wp2_with fail
                  refine hin.mono ?_
                  rintro e wA ⟨rfl, hgA⟩
                  have hgB := only_trans HG9.out hgA
                  have HSB2 := Lib.hid (HS.out.kept hgB)
                  have HMNB := Lib.hid (HMN3.out.none_ hgB)
                  have HMB := Lib.hid (HM3.out.none_ hgB)
                  clear hin hgA hgB HS HMN3 HM3 HG9
                  go_wp2_with fail
                  go_roundw
                  case rel => exact ⟨i + 1, by omega, by omega, by go_num, HSB2.out, HMNB.out, HMB.out⟩
                  case measure => simp [intOf]; omega
                · have hge : (en : Int) ≤ (i : Int) := by omega
                  obtain ⟨gl, hgl⟩ : ∃ gl, goesN cs en = gl := ⟨_, rfl⟩
                  have hgle := goes_four HL3.out en
                  rw [hgl] at hgle
                  have hglI : (gl.length : Int) ≤ 4 := by omega
                  have HGLB : Hid (goesN cs (lastB cs b) = gl) := Lib.hid (by rw [HEN.out]; exact hgl)
                  have hgc := hgo en
                  rw [hgl] at hgc
                  have HLV := Lib.hid (HRC.out.at_ (HK.out.live b (by rw [HNN.out]; exact hlt)))
                  clear hgl hilt HS1 HMN2 HM1
                  go_wp2_with fail
                  refine (hgc _ HS.out.c).mono ?_
                  rintro e w8 ⟨gv, rfl, ho8, hg8⟩
                  obtain ⟨Ag, cg, rfl, -⟩ := id ho8.reads
                  have HS8 := Lib.hid (HS.out.kept hg8)
                  have HMN8 := Lib.hid (HMN3.out.none_ hg8)
                  have HM8 := Lib.hid (HM3.out.none_ hg8)
                  have HO8 := Lib.hid ho8
                  obtain ⟨A5, c5, k5, -⟩ := HS8.out.next (by rw [HNN.out]; exact hlt) HGLB.out
                  have d1 := HS8.out.f1
                  have hget := HM8.out.get (i := b) (by omega)
                  rw [HLV.out] at hget
                  simp only [Option.getD_some] at hget
                  clear hgc hg8 ho8 HS HMN3 HM3 hge
                  go_wp2_with fail
                  go_loopw [16] (fun z wx => ∃ (k : Nat) (M3 : MMp), k ≤ gl.length ∧ z = .int .i64 (k : Int) ∧ St w (.slice Ac cs.length cc) cs Bf b1 o1 n c1 b2 o2 c2 wx ∧ BOwn wr.heap.size wx (.slice Ag gl.length cg) gl ∧ MMap wx B9 1000 M ∧ MMap wx B11 (1 + b * 4 + k) M3 ∧ Rcd cs b M3 ∧ ∀ q t : Nat, q < k → gl[q]? = some (t : Int) → b < numB cs t → M3 (numB cs t) = some 1) (fun z _ => gl.length - (intOf z).toNat)
                  case atStart => exact ⟨0, _, Nat.zero_le _, rfl, HS8.out, HO8.out, HMN8.out, HM8.out, HRC.out, fun q t hq => by omega⟩
                  case round =>
                    obtain ⟨k, M3, hk, rfl, hS, ho, hMN, hM, hrc, hset⟩ := hrel
                    have HS := Lib.hid hS
                    have HMN9 := Lib.hid hMN
                    have HM9 := Lib.hid hM
                    have HO := Lib.hid ho
                    have HRC9 := Lib.hid hrc
                    have HSET := Lib.hid hset
                    have hk0 : (0 : Int) ≤ (k : Int) := by omega
                    have d1 := hS.f1
                    clear hS ho hMN hM hrc hset hget k5 HS8 HO8 HMN8 HM8
                    by_cases hklt : k < gl.length
                    · have hkI : (k : Int) < (gl.length : Int) := by omega
                      obtain ⟨t, ht⟩ : ∃ t, gl[k]? = some t := ⟨_, List.getElem?_eq_getElem hklt⟩
                      have hmem : t ∈ goesN cs (lastB cs b) := by rw [HGLB.out]; exact List.mem_of_getElem? ht
                      have hlt2 := goes_lt HK.out.jmp hmem
                      have hnx := (next_at HK.out.jmp HSB.out hmem).1
                      obtain ⟨tn, rfl⟩ : ∃ tn : Nat, t = (tn : Int) := ⟨t.toNat, by omega⟩
                      rw [Int.toNat_natCast] at hnx
                      obtain ⟨nb, hnb⟩ : ∃ nb, numB cs tn = nb := ⟨_, rfl⟩
                      rw [hnb] at hnx
                      have hnbn : nb < n := by rw [← HNN.out]; exact (List.getElem?_eq_some_iff.1 hnx).1
                      have hlook := HMN9.out.look (i := tn) (by omega)
                      rw [HNM.out nb tn hnbn hnx] at hlook
                      simp only [Option.getD_some, Option.isSome_some] at hlook
                      obtain ⟨A6, c6, k6, hI6⟩ := HS.out.next (by rw [HNN.out]; exact hlt) HGLB.out
                      obtain ⟨b6, o6, rfl, k7⟩ := hI6.at_ (i := k) (z := (nb : Int)) (by
                        unfold intsN nextB
                        rw [HGLB.out, List.getElem?_map, List.getElem?_map, ht]
                        show some (((numB cs ((tn : Int).toNat) : Nat)) : Int) = _
                        rw [Int.toNat_natCast, hnb])
                      obtain ⟨bg, og, rfl, g0⟩ := HO.out.at_ ht
                      have HNB := Lib.hid hnb
                      have HT := Lib.hid ht
                      clear ht hmem hlt2 hnx hnb hI6
                      by_cases hup : b < nb
                      · have hupI : (b : Int) < (nb : Int) := by omega
                        obtain ⟨W', hmu, hM', hgr⟩ := HM9.out.put (i := nb) (by omega) (by omega) 1
                        have hkc := map_cells HM9.out hgr
                        have hwb3 : w.heap.size ≤ B11 := hwb2
                        have HSA := Lib.hid (HS.out.put HM9.out hgr hwb3)
                        have HOA := Lib.hid (HO.out.keepc hkc)
                        have HMNA := Lib.hid (HMN9.out.kept hgr (by simp; omega))
                        have HMA := Lib.hid hM'
                        have HSETA : Hid (∀ q t : Nat, q < k + 1 → gl[q]? = some (t : Int) → b < numB cs t → updI M3 nb 1 (numB cs t) = some 1) := Lib.hid fun q t hq hqt hbt => by
                          rcases Nat.lt_or_eq_of_le (Nat.le_of_lt_succ hq) with h | h
                          · exact upd_up (HSET.out q t h hqt hbt)
                          · rw [h, HT.out] at hqt
                            injection hqt with hqt
                            have : t = tn := by omega
                            rw [this, HNB.out]
                            exact upd_at
                        clear hM' hgr hkc
                        go_wp2_with fail
                        go_roundw
                        case rel => exact ⟨k + 1, _, by omega, by go_num, HSA.out, HOA.out, HMNA.out, HMA.out, HRC9.out.upd, HSETA.out⟩
                        case measure => simp [intOf]; omega
                      · have hupI : (nb : Int) ≤ (b : Int) := by omega
                        have HMA := Lib.hid (HM9.out.mono (m' := 1 + b * 4 + (k + 1)) (by omega))
                        have HSETA : Hid (∀ q t : Nat, q < k + 1 → gl[q]? = some (t : Int) → b < numB cs t → M3 (numB cs t) = some 1) := Lib.hid fun q t hq hqt hbt => by
                          rcases Nat.lt_or_eq_of_le (Nat.le_of_lt_succ hq) with h | h
                          · exact HSET.out q t h hqt hbt
                          · rw [h, HT.out] at hqt
                            injection hqt with hqt
                            have : t = tn := by omega
                            rw [this, HNB.out] at hbt
                            omega
                        go_wp2_with fail
                        go_roundw
                        case rel => exact ⟨k + 1, M3, by omega, by go_num, HS.out, HO.out, HMN9.out, HMA.out, HRC9.out, HSETA.out⟩
                        case measure => simp [intOf]; omega
                    · have hge : (gl.length : Int) ≤ (k : Int) := by omega
                      have HMA := Lib.hid (HM9.out.mono (m' := 1 + (b + 1) * 4) (by omega))
                      have HRCA : Hid (Rcd cs (b + 1) M3) := Lib.hid (HRC9.out.next fun t ht hbt => by
                        unfold nextB at ht
                        obtain ⟨x, hx, rfl⟩ := List.mem_map.1 ht
                        have hx0 := goes_lt HK.out.jmp hx
                        rw [HGLB.out] at hx
                        obtain ⟨q, hq⟩ := List.mem_iff_getElem?.1 hx
                        exact HSET.out q x.toNat (by have := (List.getElem?_eq_some_iff.1 hq).1; omega) (by rw [hq]; congr 1; omega) hbt)
                      go_wp2_with fail
                      go_roundw
                      case rel => exact ⟨b + 1, M3, by omega, by go_num, HS.out, HMN9.out, HMA.out, HRCA.out⟩
                      case measure => simp [intOf]; omega
          · have hge : (n : Int) ≤ (b : Int) := by omega
            go_wp2_with fail
            go_ret
            exact ⟨rfl, HS.out.g⟩
end Go.Proofs.Ytnejikkibneegaa

/- BlocksTold. -/
import Derived.Test.YtnejikkibneegaaBMap
namespace Go.Proofs.Ytnejikkibneegaa
open Go.RowKit Go.Maps

theorem goes_four {cs : List Bi} (hl : ∀ x ∈ cs, x.2.length ≤ 3) (i : Nat) : (goesN cs i).length ≤ 4 := by
  unfold goesN
  cases hx : cs[i]? with
  | none => simp
  | some x =>
    show (goesX i x).length ≤ _
    have := hl x (List.mem_of_getElem? hx)
    unfold goesX tgtL
    rw [List.length_append]
    split <;> split <;> simp <;> omega
/-- A map that tells of some numbers, by 1. -/
def One (M : MMp) : Prop := ∀ k, M k = none ∨ M k = some 1
theorem One.upd {M : MMp} (h : One M) (i : Nat) : One (updI M i 1) := fun k => by
  unfold updI
  split
  · exact .inr rfl
  · exact h k
theorem upd_up {M : MMp} {i k : Nat} (h : M k = some 1) : updI M i 1 k = some 1 := by
  unfold updI
  split
  · rfl
  · exact h
theorem upd_at {M : MMp} {i : Nat} : updI M i 1 i = some 1 := by simp [updI]
/-- What was reached in so many steps. -/
def Rch (cs : List Bi) (a k : Nat) (M : MMp) : Prop := ∀ m j, m ≤ k → Pth cs m a j → M j = some 1
/-- Where those that lie ahead of i go. -/
def Ahd (cs : List Bi) (a k i : Nat) (M : MMp) : Prop := ∀ m j, m ≤ k → j < i → Pth cs m a j → ∀ z, z < cs.length → silB cs j z = true → M z = some 1
theorem Rch.next {cs : List Bi} {a k : Nat} {M : MMp} (hk : 1 ≤ k) (h : Rch cs a k M) (ha : Ahd cs a k cs.length M) : Rch cs a (k + 1) M := fun m j hm hp => by
  rcases Nat.lt_or_eq_of_le hm with h1 | h1
  · exact h m j (by omega) hp
  · cases hp with
    | one hs hj => exact h 1 j (by omega) (.one hs hj)
    | @snoc m' _ j' _ hp' hs hz => exact ha m' j' (by omega) (sil_lt hs) hp' j hz hs
theorem Rch.upd {cs : List Bi} {a k t : Nat} {M : MMp} (h : Rch cs a k M) : Rch cs a k (updI M t 1) := fun m j hm hp => upd_up (h m j hm hp)
theorem Ahd.upd {cs : List Bi} {a k i t : Nat} {M : MMp} (h : Ahd cs a k i M) : Ahd cs a k i (updI M t 1) := fun m j hm hj hp z hz hs => upd_up (h m j hm hj hp z hz hs)
theorem Ahd.more {cs : List Bi} {a k i : Nat} {M : MMp} (h : Ahd cs a k i M) (hi : ∀ m, m ≤ k → Pth cs m a i → ∀ z, z < cs.length → silB cs i z = true → M z = some 1) : Ahd cs a k (i + 1) M := fun m j hm hj hp z hz hs => by
  rcases Nat.lt_or_eq_of_le (Nat.le_of_lt_succ hj) with h1 | h1
  · exact h m j hm h1 hp z hz hs
  · subst h1
    exact hi m hm hp z hz hs
set_option maxRecDepth 100000 in
set_option maxHeartbeats 8000000 in
theorem btold_any (rs : List Rw) (v : Value) (w : World) (hR : RowsA w v rs) : Calls Try.prog 7 #[v] w fun e w' => e = .returned (.bool true) ∧ w.grownBy w' none := by
  obtain ⟨Ar, cr, rfl, _⟩ := id hR
  have HR := Lib.hid hR
  have hmk : ∀ W : World, (Instr.makeMap 42 none).run Try.prog W = .ok (.map (some W.heap.size)) (W.alloc (.map #[] 0)) := fun W => by simp [Instr.makeMap, go_sem]
  clear hR
  go_enter Try.func7, Try.ntmps7
  go_wp2_with fail
  refine (works_any _).mono ?_
  rintro e w1 ⟨rfl, hg1⟩
  have HG1 := Lib.hid hg1
  clear hg1
  go_wp2_with fail
  refine (coded_any rs 0 _ _ (HR.out.kept HG1.out) (by decide)).mono ?_
  rintro e w2 ⟨cv, cs, rfl, hC, hn, hl, hg2⟩
  obtain ⟨Ac, cc, rfl, _⟩ := id hC
  have HG2 := Lib.hid (only_trans HG1.out hg2)
  have HC := Lib.hid hC
  have HL : Hid (∀ x ∈ cs, x.2.length ≤ 1048576) := Lib.hid fun x hx => by have := hl x hx; omega
  have HL3 := Lib.hid hl
  have HN := Lib.hid hn
  have hnI : (cs.length : Int) ≤ 128 := by omega
  clear HG1 hg2 hC hl hn HR
  go_wp2_with fail
  refine (blCut_any cs _ _ HC.out HL.out).mono ?_
  rintro e w3 ⟨fv, rfl, hF, hg3⟩
  obtain ⟨A1, n1, c1, A2, n2, c2, rfl, -, -, -, -⟩ := flow_slices hF
  have hg4 : w2.grownBy (w3.alloc (.cells #[.slice A1 n1 c1, .slice A2 n2 c2] 27)) none := only_alloc hg3 _
  have HG4 := Lib.hid (only_trans HG2.out hg4)
  have HC4 := Lib.hid (HC.out.kept hg4)
  clear HG2 HC hF hg3 hg4
  have hgo := fun (i : Nat) w hC => blGoes_any cs (.slice Ac cs.length cc) (i : Int) w hC HL.out (by have := HN.out; omega)
  simp only [goesI_at] at hgo
  rcases cut_cases cs with ⟨hr, hlen⟩ | ⟨i, hi, hlen, hr, hj, hlow⟩ | ⟨b, h1, hlen, hj, hb, hr, hd, hlow⟩ | ⟨i, hi, hlen, hj, hlv, hr, hro, hlow⟩ | ⟨hok, hr⟩
  · rw [hr]
    clear hr hgo
    go_wp2_with fail
    go_ret
    exact ⟨rfl, HG4.out⟩
  · rw [hr]
    clear hr hgo hj hlow
    go_wp2_with fail
    go_ret
    exact ⟨rfl, HG4.out⟩
  · obtain ⟨s, hs⟩ : ∃ s, (startsL cs)[b]? = some s := ⟨_, List.getElem?_eq_getElem hb⟩
    have hsd : (startsL cs).getD b 0 = s := by rw [List.getD_eq_getElem?_getD, hs]; rfl
    rw [hr, hsd]
    have hsn : s < cs.length := (mem_starts.1 (List.mem_of_getElem? hs)).1
    have hs1 : 1 ≤ s := by
      obtain ⟨l0, hl0⟩ := starts_ne h1
      have hb0 : 0 < b := by
        unfold deadB at hd
        rw [Bool.and_eq_true] at hd
        simpa using hd.1
      have := starts_lt (show (startsL cs)[0]? = some 0 by rw [hl0]; rfl) hs hb0
      omega
    have HDN : Hid (∀ i : Nat, i < s → ((s : Nat) : Int) ∉ goesN cs i) := Lib.hid fun i hi => dead_none hd hs hi
    have hs1I : (1 : Int) ≤ (s : Int) := by omega
    have hsnI : (s : Int) < (cs.length : Int) := by omega
    have hz1 : decide ((s : Int) < 1) = false := decide_eq_false (by omega)
    have hz2 : decide ((cs.length : Int) ≤ (s : Int)) = false := decide_eq_false (by omega)
    have hz3 : decide (cs.length ≤ s) = false := decide_eq_false (by omega)
    clear hr hd hs hsd hj hlow hb
    go_upto_region 9 with fail
    generalize w3.heap.size = Bf at *
    generalize (w3.alloc (.cells #[.slice A1 n1 c1, .slice A2 n2 c2] 27)) = w4 at *
    go_wp2_with fail
    try simp only [hz3]
    go_loopw [7] (fun z wr => ∃ i : Nat, i ≤ s ∧ z = .int .i64 (i : Int) ∧ w.grownBy wr none ∧ CodeA wr (.slice Ac cs.length cc) cs) (fun z _ => s - (intOf z).toNat)
    case atStart => exact ⟨0, Nat.zero_le _, rfl, HG4.out, HC4.out⟩
    case round =>
      obtain ⟨i, hi, rfl, hg, hC⟩ := hrel
      have HG := Lib.hid hg
      have HCr := Lib.hid hC
      have hi0 : (0 : Int) ≤ (i : Int) := by omega
      clear hg hC
      by_cases hlt : i < s
      · have hltI : (i : Int) < (s : Int) := by omega
        go_wp2_with fail
        refine (hgo i _ HCr.out).mono ?_
        rintro e w6 ⟨gv, rfl, ho6, hg6⟩
        obtain ⟨gl, hgl⟩ : ∃ gl, goesN cs i = gl := ⟨_, rfl⟩
        have hgle := goesN_length (i := i) HL.out
        rw [hgl] at ho6 hgle
        obtain ⟨Ag, cg, rfl, -⟩ := id ho6.reads
        have HG6 := Lib.hid (only_trans HG.out hg6)
        have HC6 := Lib.hid (HCr.out.kept hg6)
        have HO6 := Lib.hid ho6
        have HGL := Lib.hid hgl
        have hglI : (gl.length : Int) ≤ 1048577 := by omega
        clear hg6 ho6 hgl hgle
        go_wp2_with fail
        go_loopw [47] (fun z wr => ∃ j : Nat, j ≤ gl.length ∧ z = .int .i64 (j : Int) ∧ w6.grownBy wr none) (fun z _ => gl.length - (intOf z).toNat)
        case atStart => exact ⟨0, Nat.zero_le _, rfl, only_refl _ _⟩
        case round =>
          obtain ⟨j, hj, rfl, hgj⟩ := hrel
          have HGJ := Lib.hid hgj
          have hj0 : (0 : Int) ≤ (j : Int) := by omega
          clear hgj
          by_cases hjlt : j < gl.length
          · have hjI : (j : Int) < (gl.length : Int) := by omega
            obtain ⟨t, ht⟩ : ∃ t, gl[j]? = some t := ⟨_, List.getElem?_eq_getElem hjlt⟩
            obtain ⟨bg, og, rfl, g0⟩ := (HO6.out.none_ HGJ.out).at_ ht
            have hne : (t == (s : Int)) = false := by
              rw [beq_eq_false_iff_ne]
              intro e
              refine HDN.out i hlt ?_
              rw [HGL.out, ← e]
              exact List.mem_of_getElem? ht
            clear ht
            go_wp2_with fail
            go_roundw
            case rel => exact ⟨j + 1, by omega, by go_num, HGJ.out⟩
            case measure => simp [intOf]; omega
          · have hge : (gl.length : Int) ≤ (j : Int) := by omega
            have HG7 := Lib.hid (only_trans HG6.out HGJ.out)
            have HC7 := Lib.hid (HC6.out.kept HGJ.out)
            go_wp2_with fail
            go_roundw
            case rel => exact ⟨i + 1, by omega, by go_num, HG7.out, HC7.out⟩
            case measure => simp [intOf]; omega
      · have hge : (s : Int) ≤ (i : Int) := by omega
        go_wp2_with fail
        go_ret
        exact ⟨rfl, HG.out⟩
  · rw [hr]
    have hq : quietN cs i = true := by
      cases hq : quietN cs i with
      | true => rfl
      | false => rw [round_quiet hq] at hro; cases hro
    obtain ⟨mm, hmm⟩ := round_iff.1 hro
    obtain ⟨k9, hk1, hk2, hk9⟩ := Pth.short mm hmm
    have HK9 := Lib.hid hk9
    have HQ := Lib.hid hq
    have HJ := Lib.hid hj
    obtain ⟨x, hx⟩ : ∃ x, cs[i]? = some x := ⟨_, List.getElem?_eq_getElem hi⟩
    obtain ⟨b, off, a2, b2, c2', d2, A3, cp3, rfl, hb, hIA, m0, m1, m2, m3, m4, m5⟩ := code_at HC4.out hx
    obtain ⟨op, l⟩ := x
    dsimp only at m0
    have hta : ∀ w, Calls Try.prog 16 #[.int .i64 op] w fun e w' => e = .returned (.bool false) ∧ w.grownBy w' none := fun w => by
      have h := blTalks_any op w
      unfold quietN at hq
      rw [hx] at hq
      have : talkB op = false := by simpa using hq
      rwa [this] at h
    have hz1 : decide ((i : Int) < 0) = false := decide_eq_false (by omega)
    have hz2 : decide ((cs.length : Int) ≤ (i : Int)) = false := decide_eq_false (by omega)
    have hz3 : decide (cs.length ≤ i) = false := decide_eq_false (by omega)
    have hi0 : (0 : Int) ≤ (i : Int) := by omega
    have hiI : (i : Int) < (cs.length : Int) := by omega
    have hi1000 : i ≤ 1000 := by omega
    clear hr hro hj hlv hlow hmm hk9 hq hx hIA m1 m2 m3 m4 m5 hb
    go_upto_region 19 with fail
    generalize w3.heap.size = Bf at *
    generalize (w3.alloc (.cells #[.slice A1 n1 c1, .slice A2 n2 c2] 27)) = w4 at *
    go_wp2_with fail
    refine (hta _).mono ?_
    rintro e w5 ⟨rfl, hg5⟩
    have hg5' : w4.grownBy (w5.alloc (.map #[] 0)) none := only_alloc hg5 _
    have HG5 := Lib.hid (only_trans HG4.out hg5')
    have HC5 := Lib.hid (HC4.out.kept hg5')
    have HM5 := Lib.hid (MMap.made w5)
    have hwb : w.heap.size ≤ w5.heap.size := (only_trans HG4.out hg5).size
    clear hta hg5 hg5' m0 HG4 HC4
    go_upto_region 22 with fail
    generalize w5.heap.size = BM at *
    generalize w5.alloc (.map #[] 0) = w6 at *
    go_wp2_with fail
    try simp only [hz3]
    refine (hgo i _ HC5.out).mono ?_
    rintro e w7 ⟨gv, rfl, ho7, hg7⟩
    obtain ⟨gl, hgl⟩ : ∃ gl, goesN cs i = gl := ⟨_, rfl⟩
    have hgle := goes_four HL3.out i
    rw [hgl] at ho7 hgle
    obtain ⟨Ag, cg, rfl, -⟩ := id ho7.reads
    have HGL := Lib.hid hgl
    have hglI : (gl.length : Int) ≤ 4 := by omega
    have HG7 := Lib.hid (only_trans HG5.out hg7)
    have HC7 := Lib.hid (HC5.out.kept hg7)
    have HM7 := Lib.hid (HM5.out.none_ hg7)
    have HO7 := Lib.hid ho7
    clear hg7 ho7 hgl HG5 HC5 HM5
    go_wp2_with fail
    go_loopw [78] (fun z wr => ∃ (j : Nat) (M : MMp), j ≤ gl.length ∧ z = .int .i64 (j : Int) ∧ w.grownBy wr none ∧ CodeA wr (.slice (some ⟨b, off, none⟩) cs.length cc) cs ∧ BOwn w6.heap.size wr (.slice Ag gl.length cg) gl ∧ MMap wr BM j M ∧ One M ∧ ∀ (q : Nat) (t : Nat), q < j → gl[q]? = some (t : Int) → M t = some 1) (fun z _ => gl.length - (intOf z).toNat)
    case atStart => exact ⟨0, _, Nat.zero_le _, rfl, HG7.out, HC7.out, HO7.out, HM7.out, fun _ => .inl rfl, fun q t h => by omega⟩
    case round =>
      obtain ⟨j, M, hj, rfl, hg, hC, ho, hM, hone, hset⟩ := hrel
      have HG := Lib.hid hg
      have HCr := Lib.hid hC
      have HO := Lib.hid ho
      have HM := Lib.hid hM
      have HONE := Lib.hid hone
      have HSET := Lib.hid hset
      have hj0 : (0 : Int) ≤ (j : Int) := by omega
      clear hg hC ho hM hone hset
      by_cases hjlt : j < gl.length
      · have hjI : (j : Int) < (gl.length : Int) := by omega
        obtain ⟨t, ht⟩ : ∃ t, gl[j]? = some t := ⟨_, List.getElem?_eq_getElem hjlt⟩
        have htm := goes_lt HJ.out (i := i) (t := t) (by rw [HGL.out]; exact List.mem_of_getElem? ht)
        obtain ⟨tn, rfl⟩ : ∃ tn : Nat, t = (tn : Int) := ⟨t.toNat, by omega⟩
        obtain ⟨bg, og, rfl, g0⟩ := HO.out.at_ ht
        obtain ⟨W', hmu, hM', hgr⟩ := HM.out.put (i := tn) (by omega) (by omega) 1
        have hkc := map_cells HM.out hgr
        have HG8 := Lib.hid (only_new HG.out hgr hwb)
        have HC8 := Lib.hid (HCr.out.keepc hkc)
        have HO8 := Lib.hid (HO.out.keepc hkc)
        have HM8 := Lib.hid hM'
        have HSET8 : Hid (∀ (q : Nat) (t : Nat), q < j + 1 → gl[q]? = some (t : Int) → updI M tn 1 t = some 1) := Lib.hid fun q t hq hqt => by
          rcases Nat.lt_or_eq_of_le (Nat.le_of_lt_succ hq) with h | h
          · exact upd_up (HSET.out q t h hqt)
          · rw [h, ht] at hqt
            injection hqt with hqt
            have : t = tn := by omega
            rw [this]
            exact upd_at
        clear ht htm hM' hgr hkc
        go_wp2_with fail
        go_roundw
        case rel => exact ⟨j + 1, _, by omega, by go_num, HG8.out, HC8.out, HO8.out, HM8.out, HONE.out.upd _, HSET8.out⟩
        case measure => simp [intOf]; omega
      · have hge : (gl.length : Int) ≤ (j : Int) := by omega
        have HR1 : Hid (Rch cs i 1 M) := Lib.hid fun m z hm hp => by
          have h1 := hp.fns.1
          have : m = 1 := by omega
          subst this
          have hs : silB cs i z = true := by
            cases hp with
            | one hs _ => exact hs
            | snoc hp' _ _ => have := hp'.fns.1; omega
          unfold silB at hs
          rw [Bool.and_eq_true, List.contains_iff_mem, HGL.out] at hs
          obtain ⟨q, hq⟩ := List.mem_iff_getElem?.1 hs.2
          exact HSET.out q z (by have := (List.getElem?_eq_some_iff.1 hq).1; omega) hq
        have HM1 := Lib.hid (HM.out.mono (m' := 4) (by omega))
        clear hgle HSET HM HO
        go_wp2_with fail
        go_loopw [13] (fun z wr => ∃ (n : Nat) (M : MMp), n ≤ cs.length ∧ z = .int .i64 (n : Int) ∧ w.grownBy wr none ∧ CodeA wr (.slice (some ⟨b, off, none⟩) cs.length cc) cs ∧ MMap wr BM (4 + n * 512) M ∧ One M ∧ Rch cs i (n + 1) M) (fun z _ => cs.length - (intOf z).toNat)
        case atStart => exact ⟨0, M, Nat.zero_le _, rfl, HG.out, HCr.out, HM1.out.mono (by omega), HONE.out, HR1.out⟩
        case round =>
          obtain ⟨n, M, hn, rfl, hg, hC, hM, hone, hrch⟩ := hrel
          have HG := Lib.hid hg
          have HCr := Lib.hid hC
          have HM := Lib.hid hM
          have HONE := Lib.hid hone
          have HRCH := Lib.hid hrch
          have hn0 : (0 : Int) ≤ (n : Int) := by omega
          clear hg hC hM hone hrch HR1 HM1
          by_cases hnlt : n < cs.length
          · have hnI2 : (n : Int) < (cs.length : Int) := by omega
            go_wp2_with fail
            go_loopw [14] (fun z wr => ∃ (q : Nat) (M : MMp), q ≤ cs.length ∧ z = .int .i64 (q : Int) ∧ w.grownBy wr none ∧ CodeA wr (.slice (some ⟨b, off, none⟩) cs.length cc) cs ∧ MMap wr BM (4 + n * 512 + q * 4) M ∧ One M ∧ Rch cs i (n + 1) M ∧ Ahd cs i (n + 1) q M) (fun z _ => cs.length - (intOf z).toNat)
            case atStart => exact ⟨0, M, Nat.zero_le _, rfl, HG.out, HCr.out, HM.out.mono (by omega), HONE.out, HRCH.out, fun m j hm hj => by omega⟩
            case round =>
              obtain ⟨q, M, hq, rfl, hg, hC, hM, hone, hrch, hahd⟩ := hrel
              have HG := Lib.hid hg
              have HCr := Lib.hid hC
              have HM := Lib.hid hM
              have HONE := Lib.hid hone
              have HRCH := Lib.hid hrch
              have HAHD := Lib.hid hahd
              have hq0 : (0 : Int) ≤ (q : Int) := by omega
              by_cases hqlt : q < cs.length
              · have hqI : (q : Int) < (cs.length : Int) := by omega
                have hget := hM.get (i := q) (by omega)
                obtain ⟨x, hx⟩ : ∃ x, cs[q]? = some x := ⟨_, List.getElem?_eq_getElem hqlt⟩
                obtain ⟨b', off', a2', b2', c2'', d2', A3', cp3', e9, hb, hIA, m0, m1, m2, m3, m4, m5⟩ := code_at hC hx
                injection e9 with e9
                injection e9 with e9 e10 _
                subst e9
                subst e10
                obtain ⟨op2, l2⟩ := x
                dsimp only at m0
                have hta := fun w => blTalks_any op2 w
                obtain ⟨tb, htb⟩ : ∃ tb, talkB op2 = tb := ⟨_, rfl⟩
                rw [htb] at hta
                have HQ2 : Hid (quietN cs q = !tb) := Lib.hid (by unfold quietN; rw [hx, ← htb])
                clear hg hC hM hone hrch hahd hx hIA m1 m2 m3 m4 m5 hb htb
                rcases HONE.out q with hmq | hmq
                · have HA2 : Hid (Ahd cs i (n + 1) (q + 1) M) := Lib.hid (HAHD.out.more fun m hm hp z hz hs => by
                    have := HRCH.out m q hm hp
                    rw [hmq] at this
                    cases this)
                  have HM2 := Lib.hid (HM.out.mono (m' := 4 + n * 512 + (q + 1) * 4) (by omega))
                  rw [hmq] at hget
                  simp only [Option.getD_none] at hget
                  clear hmq hta
                  go_wp2_with fail
                  go_roundw
                  case rel => exact ⟨q + 1, M, by omega, by go_num, HG.out, HCr.out, HM2.out, HONE.out, HRCH.out, HA2.out⟩
                  case measure => simp [intOf]; omega
                · rw [hmq] at hget
                  simp only [Option.getD_some] at hget
                  clear hmq
                  go_wp2_with fail
                  refine (hta _).mono ?_
                  rintro e w8 ⟨rfl, hg8⟩
                  have HG8 := Lib.hid (only_trans HG.out hg8)
                  have HC8 := Lib.hid (HCr.out.kept hg8)
                  have HM8 := Lib.hid (HM.out.none_ hg8)
                  clear hta hg8 m0 hget HG HCr HM
                  cases tb with
                  | true =>
                    have HA2 : Hid (Ahd cs i (n + 1) (q + 1) M) := Lib.hid (HAHD.out.more fun m hm hp z hz hs => by
                      unfold silB at hs
                      rw [HQ2.out] at hs
                      cases hs)
                    have HM2 := Lib.hid (HM8.out.mono (m' := 4 + n * 512 + (q + 1) * 4) (by omega))
                    go_wp2_with fail
                    go_roundw
                    case rel => exact ⟨q + 1, M, by omega, by go_num, HG8.out, HC8.out, HM2.out, HONE.out, HRCH.out, HA2.out⟩
                    case measure => simp [intOf]; omega
                  | false =>
                    go_wp2_with fail
                    refine (hgo q _ HC8.out).mono ?_
                    rintro e w9 ⟨gv2, rfl, ho9, hg9⟩
                    obtain ⟨gl2, hgl2⟩ : ∃ gl2, goesN cs q = gl2 := ⟨_, rfl⟩
                    have hgle2 := goes_four HL3.out q
                    rw [hgl2] at ho9 hgle2
                    obtain ⟨Ag2, cg2, rfl, -⟩ := id ho9.reads
                    have HGL2 := Lib.hid hgl2
                    have hglI2 : (gl2.length : Int) ≤ 4 := by omega
                    have HG9 := Lib.hid (only_trans HG8.out hg9)
                    have HC9 := Lib.hid (HC8.out.kept hg9)
                    have HM9 := Lib.hid (HM8.out.none_ hg9)
                    have HO9 := Lib.hid ho9
                    clear hg9 ho9 hgl2 HG8 HC8 HM8
                    go_wp2_with fail
                    go_loopw [114] (fun z wr => ∃ (j : Nat) (M : MMp), j ≤ gl2.length ∧ z = .int .i64 (j : Int) ∧ w.grownBy wr none ∧ CodeA wr (.slice (some ⟨b, off, none⟩) cs.length cc) cs ∧ BOwn w8.heap.size wr (.slice Ag2 gl2.length cg2) gl2 ∧ MMap wr BM (4 + n * 512 + q * 4 + j) M ∧ One M ∧ Rch cs i (n + 1) M ∧ Ahd cs i (n + 1) q M ∧ ∀ (p : Nat) (t : Nat), p < j → gl2[p]? = some (t : Int) → M t = some 1) (fun z _ => gl2.length - (intOf z).toNat)
                    case atStart => exact ⟨0, M, Nat.zero_le _, rfl, HG9.out, HC9.out, HO9.out, HM9.out, HONE.out, HRCH.out, HAHD.out, fun p t h => by omega⟩
                    case round =>
                      obtain ⟨j, M, hj, rfl, hg, hC, ho, hM, hone, hrch, hahd, hset⟩ := hrel
                      have HG := Lib.hid hg
                      have HCr := Lib.hid hC
                      have HO := Lib.hid ho
                      have HM := Lib.hid hM
                      have HONE := Lib.hid hone
                      have HRCH := Lib.hid hrch
                      have HAHD := Lib.hid hahd
                      have HSET := Lib.hid hset
                      have hj0 : (0 : Int) ≤ (j : Int) := by omega
                      clear hg hC ho hM hone hset hrch hahd
                      by_cases hjlt : j < gl2.length
                      · have hjI : (j : Int) < (gl2.length : Int) := by omega
                        obtain ⟨t, ht⟩ : ∃ t, gl2[j]? = some t := ⟨_, List.getElem?_eq_getElem hjlt⟩
                        have htm := goes_lt HJ.out (i := q) (t := t) (by rw [HGL2.out]; exact List.mem_of_getElem? ht)
                        obtain ⟨tn, rfl⟩ : ∃ tn : Nat, t = (tn : Int) := ⟨t.toNat, by omega⟩
                        obtain ⟨bg, og, rfl, g0⟩ := HO.out.at_ ht
                        obtain ⟨W', hmu, hM', hgr⟩ := HM.out.put (i := tn) (by omega) (by omega) 1
                        have hkc := map_cells HM.out hgr
                        have HG8 := Lib.hid (only_new HG.out hgr hwb)
                        have HC8 := Lib.hid (HCr.out.keepc hkc)
                        have HO8 := Lib.hid (HO.out.keepc hkc)
                        have HM8 := Lib.hid hM'
                        have HSET8 : Hid (∀ (p : Nat) (t : Nat), p < j + 1 → gl2[p]? = some (t : Int) → updI M tn 1 t = some 1) := Lib.hid fun p t hq hqt => by
                          rcases Nat.lt_or_eq_of_le (Nat.le_of_lt_succ hq) with h | h
                          · exact upd_up (HSET.out p t h hqt)
                          · rw [h, ht] at hqt
                            injection hqt with hqt
                            have : t = tn := by omega
                            rw [this]
                            exact upd_at
                        clear ht htm hM' hgr hkc
                        go_wp2_with fail
                        go_roundw
                        case rel => exact ⟨j + 1, _, by omega, by go_num, HG8.out, HC8.out, HO8.out, HM8.out, HONE.out.upd _, HRCH.out.upd, HAHD.out.upd, HSET8.out⟩
                        case measure => simp [intOf]; omega
                      · have hge : (gl2.length : Int) ≤ (j : Int) := by omega
                        have HA2 : Hid (Ahd cs i (n + 1) (q + 1) M) := Lib.hid (HAHD.out.more fun m hm hp z hz hs => by
                          unfold silB at hs
                          rw [Bool.and_eq_true, List.contains_iff_mem, HGL2.out] at hs
                          obtain ⟨p, hp2⟩ := List.mem_iff_getElem?.1 hs.2
                          exact HSET.out p z (by have := (List.getElem?_eq_some_iff.1 hp2).1; omega) hp2)
                        have HM2 := Lib.hid (HM.out.mono (m' := 4 + n * 512 + (q + 1) * 4) (by omega))
                        clear HSET HM HO
                        go_wp2_with fail
                        go_roundw
                        case rel => exact ⟨q + 1, M, by omega, by go_num, HG.out, HCr.out, HM2.out, HONE.out, HRCH.out, HA2.out⟩
                        case measure => simp [intOf]; omega
              · have hge : (cs.length : Int) ≤ (q : Int) := by omega
                obtain rfl : q = cs.length := by omega
                have HR2 : Hid (Rch cs i (n + 1 + 1) M) := Lib.hid (HRCH.out.next (by omega) HAHD.out)
                have HM2 := Lib.hid (HM.out.mono (m' := 4 + (n + 1) * 512) (by omega))
                clear hg hC hM hone hrch hahd
                go_wp2_with fail
                go_roundw
                case rel => exact ⟨n + 1, M, by omega, by go_num, HG.out, HCr.out, HM2.out, HONE.out, HR2.out⟩
                case measure => simp [intOf]; omega
          · have hge : (cs.length : Int) ≤ (n : Int) := by omega
            have hget := HM.out.get (i := i) hi1000
            rw [HRCH.out k9 i (by omega) HK9.out] at hget
            simp only [Option.getD_some] at hget
            go_wp2_with fail
            go_ret
            exact ⟨rfl, HG.out⟩
  · rw [hr]
    clear hr hgo hok
    go_wp2_with fail
    go_ret
    exact ⟨rfl, HG4.out⟩
end Go.Proofs.Ytnejikkibneegaa

/- The document's answer for graph: Check: what it answers of any table. -/
import Derived.Test.YtacjkkhignjmnaaGRefB
import Derived.Test.YtacjkkhignjmnaaGPig
import Derived.Test.YtacjkkhignjmnaaGChk
namespace Go.Proofs.Ytacjkkhignjmnaa
open Go.RowKit Go.Shelf

theorem pick_neg {xs : List Nd} : ∀ {L : List Ed}, (∀ s ∈ L, 0 ≤ s.1) → ((pickL xs L).1 < 0 ↔ L.all (isAl xs) = true)
  | [], _ => by simp [pickL]
  | t :: L, h => by
    have ih := pick_neg (xs := xs) (L := L) (fun s hs => h s (List.mem_cons_of_mem _ hs))
    have h0 := h t List.mem_cons_self
    cases ht : isAl xs t with
    | true => simp only [pickL, ht, if_true, List.all_cons, Bool.true_and]; exact ih
    | false => simp only [pickL, ht, List.all_cons, Bool.false_and]; simp; omega
theorem lost_iff (xs : List Nd) (k : Nat) : (resolveL xs ((k : Int), 0)).1 < 0 ↔ lostB xs k = true :=
  pick_neg fun s hs => by
    obtain ⟨x, hx⟩ := wayL_mem hs
    exact (nodeAt_some hx).1
theorem lost_not {xs : List Nd} {k : Nat} {x : Nd} (hx : xs[k]? = some x) (hk : x.kind ≠ 5) : lostB xs k = false := by
  have hn : nodeAt xs (k : Int) = some x := nodeAt_nat.trans hx
  obtain ⟨hl, _⟩ := List.getElem?_eq_some_iff.1 hx
  obtain ⟨f, hf⟩ : ∃ f, xs.length = f + 1 := ⟨xs.length - 1, by omega⟩
  unfold lostB
  obtain ⟨r, hr⟩ := wayL_head (f := f) (t := ((k : Int), 0)) hn
  rw [hf, hr, List.all_cons, isAl_at (t := ((k : Int), 0)) hn]
  simp [hk]
theorem field_0 (p : Ed) (w : World) : (Instr.field 40 (edV p) 0).run Try.prog w = .ok (.int .i64 p.1) w := by kernel_rfl
def Found (xs : List Nd) (k : Nat) : Prop := ∀ j, j < k → lostB xs j = false
theorem Found.next {xs : List Nd} {k : Nat} (h : Found xs k) (hl : lostB xs k = false) : Found xs (k + 1) := fun j hj => by
  by_cases e : j = k
  · subst e; exact hl
  · exact h j (by omega)

set_option maxRecDepth 100000 in
set_option maxHeartbeats 2000000 in
theorem refCheck_any (xs : List Nd) (v : Value) (w : World) (hT : Tbl w v xs) (hxs : xs.length ≤ 1000000) :
    Calls Try.prog 19 #[v] w fun e w' => e = .returned (pairV (checkL xs)) ∧ w.grownBy w' none := by
  have HT := Lib.hid hT
  have HL := Lib.hid hxs
  obtain ⟨A, cap, rfl, hcl⟩ := hT
  obtain ⟨r, hr⟩ : ∃ r, checkL xs = r := ⟨_, rfl⟩
  rw [hr]
  have HR := Lib.hid hr
  clear hcl hxs hr
  by_cases h0 : xs.length = 0
  · have HC := Lib.hid (HR.out.symm.trans (check_0 h0))
    have h0' : (xs.length : Int) = 0 := by omega
    clear h0
    go_enter Try.func19, Try.ntmps19
    go_wp2_with fail
    go_ret2
    exact ⟨by rw [HC.out]; rfl, only_refl _ _⟩
  · by_cases h1 : 64 < xs.length
    · have HC := Lib.hid (HR.out.symm.trans (check_1 h1))
      have h0' : ¬ (xs.length : Int) = 0 := by omega
      have h1' : (64 : Int) < (xs.length : Int) := by omega
      clear h0 h1
      go_enter Try.func19, Try.ntmps19
      go_wp2_with fail
      go_ret2
      exact ⟨by rw [HC.out]; rfl, only_refl _ _⟩
    · have h0' : ((xs.length : Int) == 0) = false := beq_eq_false_iff_ne.2 (by omega)
      have h1' : decide ((64 : Int) < (xs.length : Int)) = false := decide_eq_false (by omega)
      have h64 : xs.length ≤ 64 := by omega
      have HP : Hid (0 < xs.length ∧ xs.length ≤ 64) := ⟨by omega, by omega⟩
      clear h0 h1
      go_enter Try.func19, Try.ntmps19
      go_wp2_with fail
      go_loopw [4] (fun i wr => ∃ k : Nat, k ≤ xs.length ∧ i = .int .i64 (k : Int) ∧ Fine xs k ∧ w.grownBy wr none) (fun i _ => xs.length - (intOf i).toNat)
      case atStart => exact ⟨0, Nat.zero_le _, rfl, fun j x h => by omega, only_refl _ _⟩
      case round =>
        obtain ⟨k, hk, rfl, hfine, hg⟩ := hrel
        have HF := Lib.hid hfine
        have HG := Lib.hid hg
        clear hfine hg
        by_cases hlt : k < xs.length
        · have hk0 : (0 : Int) ≤ (k : Int) := by omega
          have hk1 : (k : Int) < (xs.length : Int) := by omega
          obtain ⟨x, hx⟩ : ∃ x, xs[k]? = some x := ⟨_, List.getElem?_eq_getElem hlt⟩
          have HX := Lib.hid hx
          obtain ⟨A', c', hA, hcl⟩ := HT.out.keep (Keeps.grown HG.out)
          obtain ⟨bb, off, hAb, hcl2⟩ := hcl (by intro e0; rw [e0] at hlt; simp at hlt)
          have hnd := hcl2 k x hx
          have HND := Lib.hid hnd
          obtain ⟨v', hE, n0, n1, n2, n3, n4, n5⟩ := hnd
          have HE := Lib.hid hE
          obtain ⟨A2, c2, rfl, _, _⟩ := hE
          clear hcl2 hcl hx
          obtain ⟨rfl, rfl⟩ : A = A' ∧ cap = c' := by simpa using hA
          subst hAb
          clear hA
          cases hs : shapeB x
          · have HS : Hid (r = ((k : Int), 7)) := HR.out.symm.trans (by rw [check_2 HP.out.1 HP.out.2 (by rw [firstIll_here HX.out HF.out (by rw [ill_shape hs]; omega), ill_shape hs]; simp), firstIll_here HX.out HF.out (by rw [ill_shape hs]; omega), ill_shape hs])
            go_wp2_with (go_at_call 26; go_must (refine (refShape_any x (.slice A2 x.next.length c2) _ HE.out).mono ?_; rintro e w1 ⟨rfl, hg1⟩; have HG1 := Lib.hid hg1; clear hg1))
            go_ret2
            exact ⟨by rw [HS.out]; rfl, only_trans HG.out HG1.out⟩
          · have HSh := Lib.hid hs
            cases ho : (!(edgesL x).all (inB xs.length))
            · have HO := Lib.hid ho
              have HN := Lib.hid (HF.out.next HX.out (ill_ok HSh.out (by simpa using HO.out)))
              go_wp2_with (first | (go_at_call 26; go_must (refine (refShape_any x (.slice A2 x.next.length c2) _ HE.out).mono ?_; rintro e w1 ⟨rfl, hg1⟩; have HG1 := Lib.hid hg1; have HE1 := Lib.hid (HE.out.keep (.grown hg1)); have m0 := Keeps.grown hg1 _ _ n0; have m1 := Keeps.grown hg1 _ _ n1; have m2 := Keeps.grown hg1 _ _ n2; have m3 := Keeps.grown hg1 _ _ n3; have m4 := Keeps.grown hg1 _ _ n4; have m5 := Keeps.grown hg1 _ _ n5; clear hg1)) | (go_at_call 27; go_must (refine (open_any x (.slice A2 x.next.length c2) xs.length _ HE1.out).mono ?_; rintro e w2 ⟨rfl, hg2⟩; have HG2 := Lib.hid hg2; clear hg2)))
              go_roundw
              case rel => exact ⟨k + 1, by omega, by go_num, HN.out, only_trans (only_trans HG.out HG1.out) HG2.out⟩
              case measure => simp [intOf]; omega
            · have HO := Lib.hid ho
              have hof : (edgesL x).all (inB xs.length) = false := by simpa using HO.out
              have HS : Hid (r = ((k : Int), 8)) := HR.out.symm.trans (by rw [check_2 HP.out.1 HP.out.2 (by rw [firstIll_here HX.out HF.out (by rw [ill_open HSh.out hof]; omega), ill_open HSh.out hof]; simp), firstIll_here HX.out HF.out (by rw [ill_open HSh.out hof]; omega), ill_open HSh.out hof])
              clear hof
              go_wp2_with (first | (go_at_call 26; go_must (refine (refShape_any x (.slice A2 x.next.length c2) _ HE.out).mono ?_; rintro e w1 ⟨rfl, hg1⟩; have HG1 := Lib.hid hg1; have HE1 := Lib.hid (HE.out.keep (.grown hg1)); have m0 := Keeps.grown hg1 _ _ n0; have m1 := Keeps.grown hg1 _ _ n1; have m2 := Keeps.grown hg1 _ _ n2; have m3 := Keeps.grown hg1 _ _ n3; have m4 := Keeps.grown hg1 _ _ n4; have m5 := Keeps.grown hg1 _ _ n5; clear hg1)) | (go_at_call 27; go_must (refine (open_any x (.slice A2 x.next.length c2) xs.length _ HE1.out).mono ?_; rintro e w2 ⟨rfl, hg2⟩; have HG2 := Lib.hid hg2; clear hg2)))
              go_ret2
              exact ⟨by rw [HS.out]; rfl, only_trans (only_trans HG.out HG1.out) HG2.out⟩
        · have hke : k = xs.length := by omega
          have HI : Hid ((firstIll xs.length xs 0).2 = 0) := by rw [firstIll_none (by have := HF.out; rw [hke] at this; exact this)]; rfl
          have hge : decide (k < xs.length) = false := decide_eq_false hlt
          clear hke hlt hk HF
          go_wp2_with fail
          go_loopw [5] (fun i wr => ∃ k : Nat, k ≤ xs.length ∧ i = .int .i64 (k : Int) ∧ Found xs k ∧ w.grownBy wr none) (fun i _ => xs.length - (intOf i).toNat)
          case atStart => exact ⟨0, Nat.zero_le _, rfl, fun j h => by omega, HG.out⟩
          case round =>
            clear HG hge
            obtain ⟨k2, hk, rfl, hfd, hg⟩ := hrel
            have HF := Lib.hid hfd
            have hfld := fun p w => field_0 p w
            have HG := Lib.hid hg
            clear hfd hg
            by_cases hlt : k2 < xs.length
            · have hk0 : (0 : Int) ≤ (k2 : Int) := by omega
              have hk1 : (k2 : Int) < (xs.length : Int) := by omega
              obtain ⟨x, hx⟩ : ∃ x, xs[k2]? = some x := ⟨_, List.getElem?_eq_getElem hlt⟩
              have HX := Lib.hid hx
              have hT2 := HT.out.keep (Keeps.grown HG.out)
              have HT2 := Lib.hid hT2
              obtain ⟨A', c', hA, hcl⟩ := hT2
              obtain ⟨bb, off, hAb, hcl2⟩ := hcl (by intro e0; rw [e0] at hlt; simp at hlt)
              obtain ⟨v', _, n0, _⟩ := hcl2 k2 x hx
              clear hcl2 hcl hx
              obtain ⟨rfl, rfl⟩ : A = A' ∧ cap = c' := by simpa using hA
              subst hAb
              clear hA
              by_cases h5 : x.kind = 5
              · rw [h5] at n0
                clear h5
                by_cases hl : (resolveL xs ((k2 : Int), 0)).1 < 0
                · have HS : Hid (r = ((k2 : Int), 9)) := by
                    have hh := firstLost_here hlt HF.out ((lost_iff xs k2).1 hl)
                    exact HR.out.symm.trans (by rw [check_4 HP.out.1 HP.out.2 HI.out (by rw [hh]; omega), hh])
                  go_wp2_with (go_at_call 28; go_must (refine (refResolve_any xs _ ((k2 : Int), 0) _ HT2.out HL.out).mono ?_; rintro e w2 ⟨rfl, hg2⟩; have HG2 := Lib.hid hg2; clear hg2; rw [pick_more]))
                  go_ret2
                  exact ⟨by rw [HS.out]; rfl, only_trans HG.out HG2.out⟩
                · have HN : Hid (Found xs (k2 + 1)) := HF.out.next (by
                    cases hb : lostB xs k2 with
                    | false => rfl
                    | true => exact absurd ((lost_iff xs k2).2 hb) hl)
                  have hl' : 0 ≤ (resolveL xs ((k2 : Int), 0)).1 := by omega
                  clear hl
                  go_wp2_with (go_at_call 28; go_must (refine (refResolve_any xs _ ((k2 : Int), 0) _ HT2.out HL.out).mono ?_; rintro e w2 ⟨rfl, hg2⟩; have HG2 := Lib.hid hg2; clear hg2; rw [pick_more]))
                  go_roundw
                  case rel => exact ⟨k2 + 1, by omega, by go_num, HN.out, only_trans HG.out HG2.out⟩
                  case measure => simp [intOf]; omega
              · have HN := Lib.hid (HF.out.next (lost_not HX.out h5))
                go_wp2_with fail
                go_roundw
                case rel => exact ⟨k2 + 1, by omega, by go_num, HN.out, HG.out⟩
                case measure => simp [intOf]; omega
            · have hke : k2 = xs.length := by omega
              have HS : Hid (r = (-1, 0)) := by
                have hh := firstLost_none (n := xs.length) (by have := HF.out; rw [hke] at this; exact this)
                exact HR.out.symm.trans (check_3 HP.out.1 HP.out.2 HI.out (by rw [hh]; omega))
              have hge : (xs.length : Int) ≤ (k2 : Int) := by omega
              clear hke hlt hk
              go_wp2_with fail
              go_ret2
              exact ⟨by rw [HS.out]; rfl, HG.out⟩
end Go.Proofs.Ytacjkkhignjmnaa

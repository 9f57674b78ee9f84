/- The document's answer for blocks (colloquyref10): jumps. -/
import Derived.Test.YtgdoklbcmgkllaaBInt
namespace Go.Proofs.Ytgdoklbcmgkllaa
open Go.RowKit

theorem IntsA.up {W W' : World} {v : Value} {zs : List Int} (h : IntsA (fun k => k < W.heap.size) W v zs) (hg : W.grownBy W' none) : IntsA (fun k => k < W'.heap.size) W' v zs := by
  obtain ⟨A2, c2, k1, k2⟩ := h.row hg (fun _ _ e => by cases e)
  refine ⟨A2, c2, k1, fun hm => ?_⟩
  obtain ⟨b2, off2, k3, k4, k5⟩ := k2 hm
  exact ⟨b2, off2, k3, Nat.lt_of_lt_of_le k4 hg.size, k5⟩
theorem jumpX_bad {n k : Nat} {op : Int} {l tx : List Int} (ht : tgtL (op, l) = tx) (h : ((op = 11 ∨ op = 12) ∧ tx.length ≠ 1) ∨ (op = 19 ∧ tx.length = 0)) : jumpX n k (op, l) = false := by
  unfold jumpX
  rw [ht]
  rcases h with ⟨h1, h2⟩ | ⟨h1, h2⟩
  · have e : ((op == 11 || op == 12) && !decide (tx.length = 1)) = true := by simp [h1, h2]
    dsimp only
    rw [e]
    simp
  · have e : (op == 19 && decide (tx.length = 0)) = true := by simp [h1, h2]
    dsimp only
    rw [e]
    simp
theorem jumpX_good {n k : Nat} {op : Int} {l tx : List Int} (ht : tgtL (op, l) = tx) (h : ¬ (((op = 11 ∨ op = 12) ∧ tx.length ≠ 1) ∨ (op = 19 ∧ tx.length = 0))) : jumpX n k (op, l) = (tx.all (fun t => decide (0 ≤ t) && decide (t < n)) && (decide (k + 1 < n) || closeB op)) := by
  unfold jumpX
  rw [ht]
  have e1 : ((op == 11 || op == 12) && !decide (tx.length = 1)) = false := by
    rw [Bool.eq_false_iff]
    intro e
    simp only [Bool.and_eq_true, Bool.or_eq_true, beq_iff_eq, Bool.not_eq_true', decide_eq_false_iff_not] at e
    exact h (.inl e)
  have e2 : (op == 19 && decide (tx.length = 0)) = false := by
    rw [Bool.eq_false_iff]
    intro e
    simp only [Bool.and_eq_true, beq_iff_eq, decide_eq_true_eq] at e
    exact h (.inr e)
  dsimp only
  rw [e1, e2]
  simp

set_option maxRecDepth 100000 in
set_option maxHeartbeats 4000000 in
theorem bjumps_any (cs : List Bi) (v : Value) (k : Nat) (x : Bi) (w : World) (hx : cs[k]? = some x) (hC : CodeA w v cs) (hl : ∀ x ∈ cs, x.2.length ≤ 1048576) (hn : cs.length ≤ 128) : Calls Try.prog 13 #[v, .int .i64 (k : Int)] w fun e w' => e = .returned (.bool (jumpX cs.length k x)) ∧ w.grownBy w' none := by
  obtain ⟨A, cp, rfl, hcl, hA⟩ := id hC
  have hk : k < cs.length := (List.getElem?_eq_some_iff.1 hx).1
  obtain ⟨b, off, rfl, hb, hat⟩ := hA (by intro e; rw [e] at hk; simp at hk)
  obtain ⟨s, hs, hI, hc⟩ := hat k x hx
  have hxl := hl x (List.mem_of_getElem? hx)
  obtain ⟨r, hr⟩ : ∃ r, jumpX cs.length k x = r := ⟨_, rfl⟩
  rw [hr]
  have HR := Lib.hid hr
  clear hr
  obtain ⟨op, l⟩ := x
  dsimp only at hs hxl hc
  have c0 : w.cell? ⟨b, off + k * 6, none⟩ = some (.int .i64 op) := hc 0 _ rfl
  have c1 : w.cell? ⟨b, off + k * 6 + 1, none⟩ = some (.int .i64 s.a) := hc 1 _ rfl
  have c2 : w.cell? ⟨b, off + k * 6 + 2, none⟩ = some (.int .i64 s.b) := hc 2 _ rfl
  have c3 : w.cell? ⟨b, off + k * 6 + 3, none⟩ = some (.int .i64 s.c) := hc 3 _ rfl
  have c4 : w.cell? ⟨b, off + k * 6 + 4, none⟩ = some (.int .i64 s.d) := hc 4 _ rfl
  have c5 : w.cell? ⟨b, off + k * 6 + 5, none⟩ = some s.lv := hc 5 _ rfl
  have hkI : (k : Int) < (cs.length : Int) := by omega
  have hk0 : (0 : Int) ≤ (k : Int) := by omega
  have hnI : (cs.length : Int) ≤ 128 := by omega
  obtain ⟨a2, b2, c2', d2, lv, l2⟩ := s
  dsimp only at hs c1 c2 c3 c4 c5 hI
  subst hs
  obtain ⟨A3, cp3, hlv, hdrop⟩ := id hI
  clear hdrop
  subst hlv
  have HI := Lib.hid hI
  have HXL := Lib.hid hxl
  clear hat hC hl hc hx hcl hA hI hxl hn hk
  go_enter Try.func13, Try.ntmps13
  go_wp2_with fail
  obtain ⟨tx, htx⟩ : ∃ tx, tgtL (op, l2) = tx := ⟨_, rfl⟩
  have hga : w.grownBy (w.alloc (.cells #[.int .i64 op, .int .i64 a2, .int .i64 b2, .int .i64 c2', .int .i64 d2, .slice A3 l2.length cp3] 43)) none := only_alloc (only_refl _ _) _
  have hba := Blk.new w 43 #[.int .i64 op, .int .i64 a2, .int .i64 b2, .int .i64 c2', .int .i64 d2, .slice A3 l2.length cp3]
  have ht := btargets_is (op := op) (s := ⟨a2, b2, c2', d2, .slice A3 l2.length cp3, l2⟩) (l := l2) rfl (HI.out.up hga) HXL.out
  rw [htx] at ht
  refine ht.mono ?_
  rintro e w1 ⟨v1, rfl, ho1, hg1⟩
  have hb1 := hba.kept hg1
  have hg2 := only_trans hga hg1
  obtain ⟨A1, cp1, rfl, hr1⟩ := ho1.reads
  have hxl : tx.length ≤ 1048576 := by
    rw [← htx]
    unfold tgtL
    split
    · exact HXL.out
    · simp
  have q0 : w1.cell? ⟨w.heap.size, 0, none⟩ = some (.int .i64 op) := hb1.cell 0
  have HR1 := Lib.hid hr1
  have HG2 := Lib.hid hg2
  have HXT := Lib.hid hxl
  have HTX := Lib.hid htx
  clear ht hga hba hb1 hg2 hg1 ho1 hr1 HI HXL c0 c1 c2 c3 c4 c5 hb hxl htx
  by_cases hbad : ((op = 11 ∨ op = 12) ∧ tx.length ≠ 1) ∨ (op = 19 ∧ tx.length = 0)
  · have hrf : r = false := by rw [← HR.out]; exact jumpX_bad HTX.out hbad
    subst hrf
    rcases hbad with ⟨rfl | rfl, h⟩ | ⟨rfl, h⟩
    · have hb4 : ((tx.length : Int) != 1) = true := by simp; omega
      clear h
      go_wp2_with fail
      go_ret
      exact ⟨rfl, HG2.out⟩
    · have hb4 : ((tx.length : Int) != 1) = true := by simp; omega
      clear h
      go_wp2_with fail
      go_ret
      exact ⟨rfl, HG2.out⟩
    · have hb4 : ((tx.length : Int) == 0) = true := by rw [h]; rfl
      clear h
      go_wp2_with fail
      go_ret
      exact ⟨rfl, HG2.out⟩
  · have hgood : r = (tx.all (fun t => decide (0 ≤ t) && decide (t < cs.length)) && (decide (k + 1 < cs.length) || closeB op)) := by rw [← HR.out]; exact jumpX_good HTX.out hbad
    have HGOOD := Lib.hid hgood
    have h4 : (op = 11 ∧ tx.length = 1) ∨ (op = 12 ∧ tx.length = 1) ∨ (op = 19 ∧ tx.length ≠ 0) ∨ (op ≠ 11 ∧ op ≠ 12 ∧ op ≠ 19) := by omega
    clear hbad hgood
    have hxI : (tx.length : Int) ≤ 1048576 := by have := HXT.out; omega
    have h5 : ((op == 11) = true ∧ ((tx.length : Int) != 1) = false) ∨ ((op == 11) = false ∧ (op == 12) = true ∧ ((tx.length : Int) != 1) = false) ∨ ((op == 11) = false ∧ (op == 12) = false ∧ (op == 19) = true ∧ ((tx.length : Int) == 0) = false) ∨ ((op == 11) = false ∧ (op == 12) = false ∧ (op == 19) = false) := by
      simp only [beq_iff_eq, bne_eq_false_iff_eq, beq_eq_false_iff_ne]
      omega
    clear h4
    have hall : ∀ (z : Int) (j : Nat), tx[j]? = some z → (z < 0 ∨ (cs.length : Int) ≤ z) → r = false := fun z j hz hb => by
      rw [HGOOD.out]
      have e : tx.all (fun t => decide (0 ≤ t) && decide (t < cs.length)) = false := by
        rw [Bool.eq_false_iff]
        intro e
        have := List.all_eq_true.1 e z (List.mem_of_getElem? hz)
        simp at this
        omega
      rw [e]
      rfl
    have hend : (∀ z ∈ tx, 0 ≤ z ∧ z < (cs.length : Int)) → r = (decide (k + 1 < cs.length) || closeB op) := fun h => by
      rw [HGOOD.out]
      have e : tx.all (fun t => decide (0 ≤ t) && decide (t < cs.length)) = true := List.all_eq_true.2 fun z hz => by
        have := h z hz
        simp
        omega
      rw [e]
      rfl
    have HALL := Lib.hid hall
    have HEND := Lib.hid hend
    clear hall hend
    rcases h5 with ⟨e1, e4⟩ | ⟨e1, e2, e4⟩ | ⟨e1, e2, e3, e4⟩ | ⟨e1, e2, e3⟩
    all_goals
      go_wp2_with fail
      go_loopw [7] (fun i wr => ∃ j : Nat, j ≤ tx.length ∧ i = .int .i64 (j : Int) ∧ w1.grownBy wr none ∧ ∀ z ∈ tx.take j, 0 ≤ z ∧ z < (cs.length : Int)) (fun i _ => tx.length - (intOf i).toNat)
      case atStart => exact ⟨0, Nat.zero_le _, rfl, only_refl _ _, by simp⟩
      case round =>
        obtain ⟨j, hj, rfl, hg, hq⟩ := hrel
        have HG := Lib.hid hg
        have HQ := Lib.hid hq
        have hgw := only_trans HG2.out hg
        have HGW := Lib.hid hgw
        clear hg hq hgw
        by_cases hlt : j < tx.length
        · obtain ⟨z, hz⟩ : ∃ z, tx[j]? = some z := ⟨_, List.getElem?_eq_getElem hlt⟩
          obtain ⟨b9, o9, rfl, _, hce⟩ := HR1.out (by intro e0; rw [e0] at hlt; simp at hlt)
          have g0 := cell_row (hce j z hz) HG.out (fun e => by cases e)
          have hj0 : (0 : Int) ≤ (j : Int) := by omega
          have hj1 : (j : Int) < (tx.length : Int) := by omega
          have HZ := Lib.hid hz
          clear hce hz
          by_cases z0 : z < 0
          · have hrf := HALL.out z j HZ.out (.inl z0)
            subst hrf
            go_wp2_with fail
            go_ret
            exact ⟨rfl, HGW.out⟩
          · by_cases z1 : (cs.length : Int) ≤ z
            · have hrf := HALL.out z j HZ.out (.inr z1)
              subst hrf
              go_wp2_with fail
              go_ret
              exact ⟨rfl, HGW.out⟩
            · have hq2 : ∀ y ∈ tx.take (j + 1), 0 ≤ y ∧ y < (cs.length : Int) := fun y hy => by
                rw [List.take_add_one, HZ.out] at hy
                rcases List.mem_append.1 hy with h | h
                · exact HQ.out y h
                · simp at h
                  subst h
                  omega
              have HQ2 := Lib.hid hq2
              clear hq2
              go_wp2_with fail
              go_roundw
              case rel => exact ⟨j + 1, by omega, by go_num, HG.out, HQ2.out⟩
              case measure => simp [intOf]; omega
        · have hge : (tx.length : Int) ≤ (j : Int) := by omega
          have hrt := HEND.out (fun z hz => HQ.out z (by rw [List.take_of_length_le (by omega)]; exact hz))
          have q1 := cell_row q0 HG.out (fun e => by cases e)
          clear hlt hj q0
          have hkm : (k : Int) + 1 ≤ 128 := by omega
          by_cases hk2 : k + 1 < cs.length
          · have hk3 : (k : Int) + 1 < (cs.length : Int) := by omega
            have hr2 : r = true := by rw [hrt]; simp [hk2]
            subst hr2
            clear hrt hk2
            go_wp2_with fail
            go_ret
            exact ⟨rfl, HGW.out⟩
          · have hk3 : (cs.length : Int) ≤ (k : Int) + 1 := by omega
            have hr2 : r = closeB op := by rw [hrt]; simp [hk2]
            have HR2 := Lib.hid hr2
            have hcl := bcloses_any op wr
            clear hrt hk2 hr2
            go_wp2_with fail
            refine hcl.mono ?_
            rintro e w5 ⟨rfl, hg5⟩
            have HG5 := Lib.hid hg5
            clear hcl hg5
            go_wp2_with fail
            go_ret
            have hkf : decide ((k : Int) + 1 < (cs.length : Int)) = false := decide_eq_false (by omega)
            refine ⟨?_, only_trans HGW.out HG5.out⟩
            rw [HR2.out]
            show Ending.returned (.bool (decide ((k : Int) + 1 < (cs.length : Int)) || closeB op)) = _
            rw [hkf]
            rfl
end Go.Proofs.Ytgdoklbcmgkllaa

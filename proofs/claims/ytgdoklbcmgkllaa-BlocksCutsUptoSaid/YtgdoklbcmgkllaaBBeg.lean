/- The document's answer for blocks (colloquyref10): begins. -/
import Derived.Test.YtgdoklbcmgkllaaBJmp
namespace Go.Proofs.Ytgdoklbcmgkllaa
open Go.RowKit

theorem begin_hit {cs : List Bi} {i a : Nat} {x : Bi} (hx : cs[a]? = some x) (h : (i : Int) ∈ tgtL x) : beginB cs i = true := by
  unfold beginB
  have e : cs.any (fun x => (tgtL x).contains (i : Int)) = true := List.any_eq_true.2 ⟨x, List.mem_of_getElem? hx, List.contains_iff_mem.2 h⟩
  rw [e]
  simp
theorem begin_end {cs : List Bi} {i : Nat} {y : Bi} (h0 : i ≠ 0) (h : ∀ x ∈ cs, (i : Int) ∉ tgtL x) (hy : cs[i - 1]? = some y) : beginB cs i = cutX y := by
  unfold beginB
  have e : cs.any (fun x => (tgtL x).contains (i : Int)) = false := by
    rw [Bool.eq_false_iff]
    intro e
    obtain ⟨x, hx, h2⟩ := List.any_eq_true.1 e
    exact h x hx (List.contains_iff_mem.1 h2)
  have e0 : (i == 0) = false := by simp [h0]
  rw [e, e0, hy]
  rfl
theorem code_at {W : World} {A : Option Addr} {n c : Nat} {cs : List Bi} {k : Nat} {x : Bi} (h : CodeA W (.slice A n c) cs) (hx : cs[k]? = some x) : ∃ b off a2 b2 c2 d2 A3 cp3, A = some ⟨b, off, none⟩ ∧ b < W.heap.size ∧ IntsA (fun k => k < W.heap.size) W (.slice A3 x.2.length cp3) x.2 ∧
    W.cell? ⟨b, off + k * 6, none⟩ = some (.int .i64 x.1) ∧ W.cell? ⟨b, off + k * 6 + 1, none⟩ = some (.int .i64 a2) ∧ W.cell? ⟨b, off + k * 6 + 2, none⟩ = some (.int .i64 b2) ∧ W.cell? ⟨b, off + k * 6 + 3, none⟩ = some (.int .i64 c2) ∧ W.cell? ⟨b, off + k * 6 + 4, none⟩ = some (.int .i64 d2) ∧ W.cell? ⟨b, off + k * 6 + 5, none⟩ = some (.slice A3 x.2.length cp3) := by
  obtain ⟨A', cp, e, hcl, hA⟩ := h
  injection e with e1 e2 e3
  subst e1
  have hk : k < cs.length := (List.getElem?_eq_some_iff.1 hx).1
  obtain ⟨b, off, rfl, hb, hat⟩ := hA (by intro e; rw [e] at hk; simp at hk)
  obtain ⟨⟨a2, b2, c2, d2, lv, l2⟩, hs, hI, hc⟩ := hat k x hx
  dsimp only at hs hI
  obtain ⟨A3, cp3, hlv, _⟩ := id hI
  subst hlv
  subst hs
  exact ⟨b, off, a2, b2, c2, d2, A3, cp3, rfl, hb, hI, hc 0 _ rfl, hc 1 _ rfl, hc 2 _ rfl, hc 3 _ rfl, hc 4 _ rfl, hc 5 _ rfl⟩

set_option maxRecDepth 100000 in
set_option maxHeartbeats 4000000 in
theorem bbegins_any (cs : List Bi) (v : Value) (i : Nat) (w : World) (hi : i < cs.length) (hC : CodeA w v cs) (hl : ∀ x ∈ cs, x.2.length ≤ 1048576) (hn : cs.length ≤ 128) : Calls Try.prog 28 #[v, .int .i64 (i : Int)] w fun e w' => e = .returned (.bool (beginB cs i)) ∧ w.grownBy w' none := by
  obtain ⟨A, cp, rfl, _⟩ := id hC
  obtain ⟨r, hr⟩ : ∃ r, beginB cs i = r := ⟨_, rfl⟩
  rw [hr]
  have HR := Lib.hid hr
  have HC := Lib.hid hC
  have HL := Lib.hid hl
  have HI := Lib.hid hi
  have hiI : (i : Int) < (cs.length : Int) := by omega
  have hi0 : (0 : Int) ≤ (i : Int) := by omega
  have hnI : (cs.length : Int) ≤ 128 := by omega
  clear hr hC hl hn hi
  by_cases h0 : i = 0
  · have hrt : r = true := by rw [← HR.out, h0]; rfl
    subst hrt
    have e0 : ((i : Int) == 0) = true := by simp [h0]
    clear h0
    go_enter Try.func28, Try.ntmps28
    go_wp2_with fail
    go_ret
    exact ⟨rfl, only_refl _ _⟩
  have e0 : ((i : Int) == 0) = false := by simp [h0]
  have H0 := Lib.hid h0
  clear h0
  go_enter Try.func28, Try.ntmps28
  go_wp2_with fail
  go_loopw [5] (fun i' wr => ∃ k : Nat, k ≤ cs.length ∧ i' = .int .i64 (k : Int) ∧ w.grownBy wr none ∧ ∀ x ∈ cs.take k, (i : Int) ∉ tgtL x) (fun i' _ => cs.length - (intOf i').toNat)
  case atStart => exact ⟨0, Nat.zero_le _, rfl, only_refl _ _, by simp⟩
  case round =>
    obtain ⟨k, hk, rfl, hg, hq⟩ := hrel
    have HG := Lib.hid hg
    have HQ := Lib.hid hq
    clear hg hq
    by_cases hlt : k < cs.length
    · obtain ⟨x, hx⟩ : ∃ x, cs[k]? = some x := ⟨_, List.getElem?_eq_getElem hlt⟩
      obtain ⟨b, off, a2, b2, c2, d2, A3, cp3, rfl, hb, hI, m0, m1, m2, m3, m4, m5⟩ := code_at (HC.out.kept HG.out) hx
      have hxl := HL.out x (List.mem_of_getElem? hx)
      obtain ⟨tx, htx⟩ : ∃ tx, tgtL x = tx := ⟨_, rfl⟩
      obtain ⟨op, l2⟩ := x
      dsimp only at hI m0 m5 hxl
      have ht := btargets_is (op := op) (s := ⟨a2, b2, c2, d2, .slice A3 l2.length cp3, l2⟩) (l := l2) rfl hI hxl
      rw [htx] at ht
      unfold Sg.cells at ht
      dsimp only at ht
      have hx1 : tx.length ≤ 1048576 := by
        rw [← htx]
        unfold tgtL
        split
        · exact hxl
        · simp
      have hxI : (tx.length : Int) ≤ 1048576 := by omega
      have HX := Lib.hid hx
      have HTX := Lib.hid htx
      have hk0 : (0 : Int) ≤ (k : Int) := by omega
      have hk1 : (k : Int) < (cs.length : Int) := by omega
      clear hI hxl hx htx hx1
      go_wp2_with fail
      refine ht.mono ?_
      rintro e w1 ⟨v1, rfl, ho1, hg1⟩
      have HG1 := Lib.hid (only_trans HG.out hg1)
      obtain ⟨A1, cp1, rfl, hr1⟩ := ho1.reads
      have HR1 := Lib.hid hr1
      clear ht hg1 ho1 hr1 m0 m1 m2 m3 m4 m5 hb
      go_wp2_with fail
      go_loopw [7] (fun i' wr => ∃ j : Nat, j ≤ tx.length ∧ i' = .int .i64 (j : Int) ∧ w1.grownBy wr none ∧ (i : Int) ∉ tx.take j) (fun i' _ => tx.length - (intOf i').toNat)
      case atStart => exact ⟨0, Nat.zero_le _, rfl, only_refl _ _, by simp⟩
      case round =>
        obtain ⟨j, hj, rfl, hg, hq⟩ := hrel
        have HGJ := Lib.hid hg
        have HQJ := Lib.hid hq
        have HGW := Lib.hid (only_trans HG1.out hg)
        clear hg hq
        by_cases hlj : j < tx.length
        · obtain ⟨z, hz⟩ : ∃ z, tx[j]? = some z := ⟨_, List.getElem?_eq_getElem hlj⟩
          obtain ⟨b9, o9, rfl, _, hce⟩ := HR1.out (by intro e0; rw [e0] at hlj; simp at hlj)
          have g0 := cell_row (hce j z hz) HGJ.out (fun e => by cases e)
          have hj0 : (0 : Int) ≤ (j : Int) := by omega
          have hj1 : (j : Int) < (tx.length : Int) := by omega
          have HZ := Lib.hid hz
          clear hce hz
          by_cases hzi : z = (i : Int)
          · have ez : (z == (i : Int)) = true := by simp [hzi]
            have hrt : r = true := by
              rw [← HR.out]
              refine begin_hit HX.out ?_
              rw [HTX.out, ← hzi]
              exact List.mem_of_getElem? HZ.out
            subst hrt
            clear hzi
            go_wp2_with fail
            go_ret
            exact ⟨rfl, HGW.out⟩
          · have ez : (z == (i : Int)) = false := by simp [hzi]
            have hq2 : (i : Int) ∉ tx.take (j + 1) := fun hy => by
              rw [List.take_add_one, HZ.out] at hy
              rcases List.mem_append.1 hy with h | h
              · exact HQJ.out h
              · simp at h
                exact hzi h.symm
            have HQ2 := Lib.hid hq2
            clear hq2 hzi
            go_wp2_with fail
            go_roundw
            case rel => exact ⟨j + 1, by omega, by go_num, HGJ.out, HQ2.out⟩
            case measure => simp [intOf]; omega
        · have hge : (tx.length : Int) ≤ (j : Int) := by omega
          have hq3 : ∀ y ∈ cs.take (k + 1), (i : Int) ∉ tgtL y := fun y hy => by
            rw [List.take_add_one, HX.out] at hy
            rcases List.mem_append.1 hy with h | h
            · exact HQ.out y h
            · simp at h
              subst h
              rw [HTX.out]
              have := HQJ.out
              rwa [List.take_of_length_le (by omega)] at this
          have HQ3 := Lib.hid hq3
          clear hq3 hlj hj
          go_wp2_with fail
          go_roundw
          case rel => exact ⟨k + 1, by omega, by go_num, HGW.out, HQ3.out⟩
          case measure => simp [intOf]; omega
    · have hge : (cs.length : Int) ≤ (k : Int) := by omega
      obtain ⟨m, hm⟩ : ∃ m : Nat, (i : Int) - 1 = (m : Int) := ⟨i - 1, by have := H0.out; omega⟩
      have hmn : m < cs.length := by have := HI.out; omega
      obtain ⟨y, hy⟩ : ∃ y, cs[m]? = some y := ⟨_, List.getElem?_eq_getElem hmn⟩
      have hmi : i - 1 = m := by omega
      have hre : r = cutX y := by
        rw [← HR.out]
        refine begin_end H0.out (fun x hx => HQ.out x (by rw [List.take_of_length_le (by omega)]; exact hx)) ?_
        rw [hmi]
        exact hy
      obtain ⟨b, off, a2, b2, c2, d2, A3, cp3, rfl, hb, hI, m0, m1, m2, m3, m4, m5⟩ := code_at (HC.out.kept HG.out) hy
      have hmI : (m : Int) < (cs.length : Int) := by omega
      have hm0 : (0 : Int) ≤ (m : Int) := by omega
      have HRE := Lib.hid hre
      clear hI m1 m2 m3 m4 m5 hy hre hmi hlt hk hmn
      obtain ⟨op, l⟩ := y
      dsimp only at m0
      have hcl := fun W => bcloses_any op W
      obtain ⟨cb, hcb⟩ : ∃ cb, closeB op = cb := ⟨_, rfl⟩
      rw [hcb] at hcl
      have HCB : Hid (r = (cb || op == 12)) := by show _ = _; rw [HRE.out, ← hcb]; rfl
      clear hcb
      go_wp2_with fail
      refine (hcl _).mono ?_
      rintro e w5 ⟨rfl, hg5⟩
      have HG5 := Lib.hid (only_trans HG.out hg5)
      clear hcl hg5
      cases cb with
      | true =>
        have hrt : r = true := by rw [HCB.out]; rfl
        subst hrt
        clear HCB HRE
        go_wp2_with fail
        go_ret
        exact ⟨rfl, HG5.out⟩
      | false =>
        have hrt : r = (op == 12) := by rw [HCB.out]; simp
        subst hrt
        clear HCB HRE
        go_wp2_with fail
        go_ret
        exact ⟨rfl, HG5.out⟩
end Go.Proofs.Ytgdoklbcmgkllaa

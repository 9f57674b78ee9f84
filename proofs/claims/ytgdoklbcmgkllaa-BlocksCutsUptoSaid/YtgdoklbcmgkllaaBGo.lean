/- The document's answer for blocks (colloquyref10): Targets, Goes. -/
import Derived.Test.YtgdoklbcmgkllaaBRef
import Derived.Lib.Hide
namespace Go.Proofs.Ytgdoklbcmgkllaa
open Go.RowKit

/-- A code in memory. -/
def CodeA (W : World) (v : Value) (cs : List Bi) : Prop := ∃ (A : Option Addr) (c : Nat), v = .slice A cs.length c ∧ cs.length ≤ 9223372036854775807 ∧
  (cs ≠ [] → ∃ b off, A = some ⟨b, off, none⟩ ∧ b < W.heap.size ∧ ∀ (i : Nat) (x : Bi), cs[i]? = some x → ∃ s : Sg, s.l = x.2 ∧ IntsA (fun k => k < W.heap.size) W s.lv s.l ∧ ∀ (j : Nat) (u : Value), (s.cells x.1)[j]? = some u → W.cell? ⟨b, off + i * 6 + j, none⟩ = some u)
theorem CodeA.kept {W W' : World} {v : Value} {cs : List Bi} (h : CodeA W v cs) (hg : W.grownBy W' none) : CodeA W' v cs := by
  obtain ⟨A, c, h1, h2, h3⟩ := h
  refine ⟨A, c, h1, h2, fun hn => ?_⟩
  obtain ⟨b, off, h4, h5, h6⟩ := h3 hn
  refine ⟨b, off, h4, Nat.lt_of_lt_of_le h5 hg.size, fun i x hx => ?_⟩
  obtain ⟨s, e, h7, h8⟩ := h6 i x hx
  refine ⟨s, e, ?_, fun j u hu => cell_row (h8 j u hu) hg (fun e => by cases e)⟩
  obtain ⟨A2, c2, k1, k2⟩ := h7.row hg (fun _ _ e => by cases e)
  refine ⟨A2, c2, k1, fun hm => ?_⟩
  obtain ⟨b2, off2, k3, k4, k5⟩ := k2 hm
  exact ⟨b2, off2, k3, Nat.lt_of_lt_of_le k4 hg.size, k5⟩
theorem tgt_no {op : Int} {l : List Int} (h : hasT op = false) : tgtL (op, l) = [] := by unfold tgtL; rw [h]; rfl
theorem tgt_yes {op : Int} {l : List Int} (h : hasT op = true) : tgtL (op, l) = l := by unfold tgtL; rw [h]; rfl

set_option maxRecDepth 100000 in
set_option maxHeartbeats 4000000 in
theorem btargets_any (op : Int) (s : Sg) (w : World) (hI : IntsA (fun k => k < w.heap.size) w s.lv s.l) (hl : s.l.length ≤ 1048576) : Calls Try.prog 26 #[.agg (s.cells op)] w fun e w' => ∃ v, e = .returned v ∧ BOwn w.heap.size w' v (tgtL (op, s.l)) ∧ w.grownBy w' none := by
  obtain ⟨a, b, c, d, lv, l⟩ := s
  have HI := Lib.hid hI
  have HL : Hid (l.length ≤ 1048576) := hl
  clear hI hl
  unfold Sg.cells
  dsimp only at HI HL ⊢
  by_cases ht : hasT op = true
  · rw [tgt_yes ht]
    have h3 : op = 11 ∨ op = 12 ∨ op = 19 := by
      unfold hasT at ht
      simp only [Bool.or_eq_true, beq_iff_eq] at ht
      omega
    clear ht
    rcases h3 with rfl | rfl | rfl
    all_goals
      go_enter Try.func26, Try.ntmps26
      go_wp2_with (at_builtin; go_loud (refine wpList_append_zs (base := w.heap.size) rfl _ _ rfl rfl rfl (BOwn.nil_ _ _) (HI.out.row (only_alloc (only_refl w none) _) (fun _ _ e => by cases e)) (by have := HL.out; simp; omega) (by simp) ?_); intro v' w3 ho hg; rw [List.nil_append] at ho)
      go_ret
      exact ⟨_, rfl, ho, only_trans (only_alloc (only_refl w none) _) hg⟩
  · have ht' : hasT op = false := by simpa using ht
    rw [tgt_no ht']
    unfold hasT at ht'
    simp only [Bool.or_eq_false_iff] at ht'
    obtain ⟨⟨e1, e2⟩, e3⟩ := ht'
    clear ht
    go_enter Try.func26, Try.ntmps26
    go_wp2_with fail
    go_ret
    exact ⟨_, rfl, BOwn.nil_ _ _, only_alloc (only_refl _ _) _⟩
def goesI (cs : List Bi) (i : Int) : List Int := if i < 0 ∨ (cs.length : Int) ≤ i then [] else goesN cs i.toNat
theorem goesI_at {cs : List Bi} {i : Nat} : goesI cs (i : Int) = goesN cs i := by
  unfold goesI
  split
  · rename_i h
    unfold goesN
    rw [List.getElem?_eq_none (by omega)]
  · rw [Int.toNat_natCast]
theorem btargets_is {op : Int} {s : Sg} {l : List Int} {w : World} (he : s.l = l) (hI : IntsA (fun k => k < w.heap.size) w s.lv s.l) (hl : l.length ≤ 1048576) : Calls Try.prog 26 #[.agg (s.cells op)] w fun e w' => ∃ v, e = .returned v ∧ BOwn w.heap.size w' v (tgtL (op, l)) ∧ w.grownBy w' none := by
  subst he
  exact btargets_any op s w hI hl
set_option maxRecDepth 100000 in
set_option maxHeartbeats 4000000 in
theorem bgoes_any (cs : List Bi) (v : Value) (i : Int) (w : World) (hC : CodeA w v cs) (hl : ∀ x ∈ cs, x.2.length ≤ 1048576) : Calls Try.prog 29 #[v, .int .i64 i] w fun e w' => ∃ v', e = .returned v' ∧ BOwn w.heap.size w' v' (goesI cs i) ∧ w.grownBy w' none := by
  obtain ⟨A, cp, rfl, hcl, hA⟩ := id hC
  by_cases h0 : i < 0
  · unfold goesI
    rw [if_pos (.inl h0)]
    clear hA
    go_enter Try.func29, Try.ntmps29
    go_wp2_with fail
    go_ret
    exact ⟨_, rfl, BOwn.nil_ _ _, only_refl _ _⟩
  by_cases h1 : (cs.length : Int) ≤ i
  · unfold goesI
    rw [if_pos (.inr h1)]
    clear hA
    go_enter Try.func29, Try.ntmps29
    go_wp2_with fail
    go_ret
    exact ⟨_, rfl, BOwn.nil_ _ _, only_refl _ _⟩
  obtain ⟨k, rfl⟩ : ∃ k : Nat, i = (k : Int) := ⟨i.toNat, by omega⟩
  have hk : k < cs.length := by omega
  obtain ⟨x, hx⟩ : ∃ x, cs[k]? = some x := ⟨_, List.getElem?_eq_getElem hk⟩
  rw [goesI_at]
  have hg : goesN cs k = goesX k x := by unfold goesN; rw [hx]
  rw [hg]
  obtain ⟨b, off, rfl, hb, hat⟩ := hA (by intro e; rw [e] at hk; simp at hk)
  obtain ⟨s, hs, hI, hc⟩ := hat k x hx
  have hxl := hl x (List.mem_of_getElem? hx)
  obtain ⟨op, l⟩ := x
  dsimp only at hs hxl hc
  have c0 : w.cell? ⟨b, off + k * 6, none⟩ = some (.int .i64 op) := hc 0 _ rfl
  have c1 : w.cell? ⟨b, off + k * 6 + 1, none⟩ = some (.int .i64 s.a) := hc 1 _ rfl
  have c2 : w.cell? ⟨b, off + k * 6 + 2, none⟩ = some (.int .i64 s.b) := hc 2 _ rfl
  have c3 : w.cell? ⟨b, off + k * 6 + 3, none⟩ = some (.int .i64 s.c) := hc 3 _ rfl
  have c4 : w.cell? ⟨b, off + k * 6 + 4, none⟩ = some (.int .i64 s.d) := hc 4 _ rfl
  have c5 : w.cell? ⟨b, off + k * 6 + 5, none⟩ = some s.lv := hc 5 _ rfl
  have ht := btargets_is (op := op) hs hI hxl
  unfold Sg.cells at ht
  obtain ⟨gx, hgx⟩ : ∃ gx, goesX k (op, l) = gx := ⟨_, rfl⟩
  obtain ⟨tx, htx⟩ : ∃ tx, tgtL (op, l) = tx := ⟨_, rfl⟩
  rw [hgx]
  rw [htx] at ht
  have htl : tx.length ≤ 1048576 := by
    rw [← htx]
    unfold tgtL
    split
    · exact hxl
    · simp
  have HGX : Hid (gx = tx ++ (if closeB op then [] else [((k + 1 : Nat) : Int)])) := by show _ = _; rw [← hgx, ← htx]; rfl
  have HTL := Lib.hid htl
  clear hgx htx htl
  obtain ⟨cb, hcb⟩ : ∃ cb, closeB op = cb := ⟨_, rfl⟩
  rw [hcb] at HGX
  have hkI : (k : Int) < (cs.length : Int) := by omega
  have hk0 : (0 : Int) ≤ (k : Int) := by omega
  clear hat hg hC hl hc hI h0 h1 hx
  go_enter Try.func29, Try.ntmps29
  go_wp2_with fail
  refine ht.mono ?_
  rintro e w1 ⟨v1, rfl, ho1, hg1⟩
  have d0 := cell_row c0 hg1 (fun e => by cases e)
  have hcl := bcloses_any op w1
  rw [hcb] at hcl
  clear ht
  go_wp2_with fail
  refine hcl.mono ?_
  rintro e w2 ⟨rfl, hg2⟩
  have ho2 := ho1.none_ hg2
  have hg := only_trans hg1 hg2
  clear hcl hg1 hg2 ho1 d0 c0 c1 c2 c3 c4 c5
  clear hcb
  cases cb with
  | true =>
    have hgx : gx = tx := by rw [HGX.out]; simp
    subst hgx
    go_wp2_with fail
    go_ret
    exact ⟨_, rfl, ho2, hg⟩
  | false =>
    have hgx : gx = tx ++ [((k + 1 : Nat) : Int)] := by rw [HGX.out]; simp
    clear HGX
    have HO2 := Lib.hid ho2
    have HG := Lib.hid hg
    clear ho2 hg
    have hsz : w.heap.size ≤ w2.heap.size := HG.out.size
    go_wp2_with (at_builtin; go_loud (refine wpList_append_z (base := w.heap.size) (z := (k : Int) + 1) rfl _ _ rfl rfl rfl (HO2.out.none_ (only_alloc (only_refl w2 none) _)) (Blk.new w2 _ _) (by have := HTL.out; omega) (by simp; omega) ?_); intro v' w3 ho hg3)
    go_ret
    refine ⟨_, rfl, by rw [hgx]; exact ho, ?_⟩
    exact (HO2.out.none_ (only_alloc (only_refl w2 none) _)).only (only_alloc HG.out _) hg3
end Go.Proofs.Ytgdoklbcmgkllaa

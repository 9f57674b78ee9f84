/- blocks: slices.Collect over goes, slices.Clone; Targets, Goes. -/
import Derived.Test.YtnejikkibneegaaBGb
namespace Go.Proofs.Ytnejikkibneegaa
open Go.RowKit Go.Shelf
attribute [local go_sem] Oper.semAt_some

/-- A code's own goes, in its boxes. -/
structure GoB (Bc Bn : Nat) (v : Value) (cs : List Bi) (i : Nat) (w0 W : World) : Prop where
  cd : CodeA w0 v cs
  gr : w0.grownBy W none
  bc : Blk W Bc 22 #[v]
  bi : Blk W Bn 3 #[.int .i64 (i : Int)]
theorem blk_atB {W : World} {g : Nat} (h : W.heap.size = g) (T : TypeId) (cs : Array Value) : Blk (W.alloc (.cells cs T)) g T cs := h ▸ Blk.new W T cs
theorem goesN_length {cs : List Bi} {i : Nat} (hl : ∀ x ∈ cs, x.2.length ≤ 1048576) : (goesN cs i).length ≤ 1048577 := by
  unfold goesN
  cases hx : cs[i]? with
  | none => simp
  | some x =>
    show (goesX i x).length ≤ _
    have := hl x (List.mem_of_getElem? hx)
    unfold goesX tgtL
    rw [List.length_append]
    split <;> split <;> simp <;> omega
set_option maxRecDepth 100000 in
set_option maxHeartbeats 4000000 in
theorem appendSeq_any (Bc Bn : Nat) (v : Value) (cs : List Bi) (i : Nat) (w0 w : World) (hi : i < cs.length) (hl : ∀ x ∈ cs, x.2.length ≤ 1048576) (hn : cs.length ≤ 1048576) (hT : GoB Bc Bn v cs i w0 w) :
    Calls Try.prog 41 #[.slice none 0 0, .func (.func 42) #[] #[.pointer (some ⟨Bc, 0, none⟩), .pointer (some ⟨Bn, 0, none⟩)]] w fun e w' => ∃ v', e = .returned v' ∧ BOwn w.heap.size w' v' (goesN cs i) ∧ w.grownBy w' none := by
  refine (callsIn_wide (n := 3)).1 ?_
  refine callsIn_of_wp_marks Try.func41 rfl trivial ?_ rfl
  simp only [Try.ntmps41, List.size_toArray, List.length_cons, List.length_nil, Nat.reduceAdd, Nat.reduceSub, Array.replicate_succ, Array.replicate_zero, List.push_toArray, List.append_toArray, List.nil_append, List.cons_append]
  have HT := Lib.hid hT
  have HGL := Lib.hid (goesN_length (i := i) hl)
  clear hT
  gi_wp2_with fail
  have hT2 := HT.out
  have hTE : 24 ≠ 3 := by decide
  have hbcl := hT2.bc.lt
  have hbil := hT2.bi.lt
  have H0 : GBx w 24 3 1 w.heap.size (.slice none 0 0) 0 (zsV []) (w.alloc (.cells #[.slice none 0 0] 24)) := ⟨only_alloc (only_refl _ _) _, Blk.new _ _ _, Nat.le_refl _, World.ownsRow_nil _ _ _ _⟩
  refine wpIn_rangeFunc_toldP rfl (by omega) (gf := 42) (lb := #[.pointer (some ⟨Bc, 0, none⟩), .pointer (some ⟨Bn, 0, none⟩)]) rfl trivial (enters_of Try.func42 (by kernel_rfl) rfl)
    (goes_told (fun k => k < w.heap.size) [3, 24] (by decide) Bc Bn cs v i w0 hi hl hn) KS.trans (fun W l o o' hl ho hc => KS.putObj W l o o' (by simp at hl ⊢; omega) ho hc) (fun _ => rfl) ?t0
    (fun pre W => ∃ v', GBx w 24 3 1 w.heap.size v' pre.length (zsV pre) W) (fun _ _ _ => False) (fun pre X Y row ⟨v', h⟩ hg hr => ⟨v', h.own (by simp) hg hr⟩) (fun _ _ _ _ _ h => h.elim) ⟨_, H0⟩
    (fun t => { tmps := #[.slice none 0 0, .func (.func 42) #[] #[.pointer (some ⟨Bc, 0, none⟩), .pointer (some ⟨Bn, 0, none⟩)], .pointer (some ⟨w.heap.size, 0, none⟩), undef, .slice none 0 0, .int .i64 t, .func (.func 42) #[] #[.pointer (some ⟨Bc, 0, none⟩), .pointer (some ⟨Bn, 0, none⟩)], .int .i64 t, undef, undef, undef, undef, undef], defers := [] }) ?assign ?body ?done ?stop
  case t0 =>
    intro W hW
    have hg := below_only hW (only_alloc (only_refl w none) (.cells #[.slice none 0 0] 24)) (by simp)
    exact ⟨fun k hk => Nat.lt_of_lt_of_le hk hT2.gr.size, hbcl, hbil, hT2.cd, only_trans hT2.gr hg, hT2.bc.kept hg, hT2.bi.kept hg⟩
  case assign =>
    intro l q W3 K hK
    gi_wp2
    exact hK
  case stop =>
    rintro D c pre W hD hpre hne h hK
    exact h.elim
  case body =>
    rintro l pre t W hpre hsz ⟨v', h1⟩
    try dsimp only
    have hpl : pre.length ≤ 1048577 := by
      have h5 := List.IsPrefix.length_le hpre
      rw [List.length_append, List.length_singleton] at h5
      have := HGL.out
      omega
    have c2 : W.cell? ⟨w.heap.size, 0, none⟩ = some v' := h1.bx.cell 0
    have hlt2 := cell_ltB c2
    have H1 := Lib.hid h1
    obtain ⟨A1, c1, rfl⟩ := own_lenB h1.ow
    clear h1 hpre
    gi_wp2_with (gi_at_builtin; go_loud (refine wpListIn_append_z (z := t) (zs := pre) rfl _ _ rfl rfl rfl (own_keptB H1.out.ow (only_alloc (only_refl _ _) (.cells #[.int .i64 t] 3))) (Blk.new _ _ _) (by omega) (Nat.le_trans H1.out.gr.size (by simp)) ?_); intro v5 W5 ho5 hg5; have hg5 : (W.alloc (.cells #[.int .i64 t] 3)).grownBy W5 (Value.slice A1 pre.length c1).ownBlock := hg5; obtain ⟨A5, c5, rfl, _⟩ := ho5.reads; have HX := Lib.hid (H1.out.kept (only_alloc (only_refl _ _) (.cells #[.int .i64 t] 3))); have b5 := HX.out.at_ hTE hg5; have d0 := b5.cell 0; have f0 := b5.frozen 0; have HO5 := Lib.hid ho5; have HG5 := Lib.hid hg5; clear ho5 hg5 b5)
    have hput := HX.out.put hTE HG5.out (v' := .slice A5 (pre ++ [t]).length c5) HO5.out
    have hpl2 : (pre ++ [t]).length = pre.length + 1 := by simp
    rw [hpl2] at hput
    refine ⟨((KeepsOthers.alloc W _).from _).trans (HX.out.from_ HG5.out _ _), (KS.alloc W _).trans (HX.out.ks hTE (fun k hk => hk) (by simp) (by simp) HG5.out (.slice A5 (pre.length + 1) c5)), .slice A5 (pre.length + 1) c5, ?_⟩
    rw [hpl2]
    exact hput
  case done =>
    rintro D W hD ⟨v', h1⟩ hK
    have c2 : W.cell? ⟨w.heap.size, 0, none⟩ = some v' := h1.bx.cell 0
    have hlt2 := cell_ltB c2
    have H1 := Lib.hid h1
    obtain ⟨A1, c1, rfl⟩ := own_lenB h1.ow
    clear h1
    gi_wp2_with fail
    refine marks_ret (B := w.heap.size + 1) [D] W (by simp) (fun D' hm => by obtain rfl := List.mem_singleton.1 hm; exact ⟨by simpa using hD, hK⟩) fun W' hW' => ⟨_, by simp [results, Try.results41, go_sem], _, rfl, BOwn.keepc H1.out.ow hW'.2, hW'.grown H1.out.gr (by omega)⟩
theorem collect_any (Bc Bn : Nat) (v : Value) (cs : List Bi) (i : Nat) (w0 w : World) (hi : i < cs.length) (hl : ∀ x ∈ cs, x.2.length ≤ 1048576) (hn : cs.length ≤ 1048576) (hT : GoB Bc Bn v cs i w0 w) :
    Calls Try.prog 32 #[.func (.func 42) #[] #[.pointer (some ⟨Bc, 0, none⟩), .pointer (some ⟨Bn, 0, none⟩)]] w fun e w' => ∃ v', e = .returned v' ∧ BOwn w.heap.size w' v' (goesN cs i) ∧ w.grownBy w' none := by
  have h := appendSeq_any Bc Bn v cs i w0 w hi hl hn hT
  go_enter Try.func32, Try.ntmps32
  go_wp2_with fail
  refine h.mono ?_
  rintro e w1 ⟨v', rfl, ho, hg⟩
  obtain ⟨A1, c1, rfl, _⟩ := id ho.reads
  go_wp2_with fail
  go_ret
  exact ⟨_, rfl, ho, hg⟩
/-- A slice's copy, of a call's own. -/
theorem clone_any (v : Value) (l : List Int) (w : World) (hI : IntsA (fun k => k < w.heap.size) w v l) (hl : l.length ≤ 1000000000) :
    Calls Try.prog 34 #[v] w fun e w' => ∃ v', e = .returned v' ∧ BOwn w.heap.size w' v' l ∧ w.grownBy w' none := by
  obtain ⟨A, c, rfl, hA⟩ := id hI
  have HI := Lib.hid hI
  have HL := Lib.hid hl
  have he1 : ∀ (w : World) (a : Addr) (n c : Nat), (binOp .eql 24 (.slice (some a) n c) (.slice none 0 0)).run Try.prog w = .ok (.bool false) w := fun _ _ _ _ => rfl
  have he0 : ∀ (w : World) (n c : Nat), (binOp .eql 24 (.slice none n c) (.slice none 0 0)).run Try.prog w = .ok (.bool true) w := fun _ _ _ => rfl
  cases A with
  | none =>
    have hl0 : l = [] := by
      cases l with
      | nil => rfl
      | cons z l => obtain ⟨b, off, e, _⟩ := hA (by simp); cases e
    subst hl0
    clear hA hI
    go_enter Try.func34, Try.ntmps34
    go_wp2_with fail
    go_ret
    exact ⟨_, rfl, BOwn.nil_ _ _, only_refl _ _⟩
  | some a =>
    clear hA hI hl
    have hz : BOwn w.heap.size (w.alloc (.cells #[] 3)) (.slice (some ⟨w.heap.size, 0, none⟩) 0 0) [] := ⟨rfl, .inr ⟨w.heap.size, 0, #[], rfl, Nat.le_refl _, World.alloc_heap_new _ _, Nat.le_refl _, by decide, rfl, rfl⟩⟩
    have HZ := Lib.hid hz
    clear hz
    go_enter Try.func34, Try.ntmps34
    go_wp2_with (at_builtin; go_loud (refine wpList_append_zs (base := w.heap.size) rfl _ _ rfl rfl rfl HZ.out (HI.out.row (only_alloc (only_refl w none) _) (fun _ _ e => by cases e)) (by have := HL.out; simp; omega) (by simp) ?_); intro v' w3 ho hg; rw [List.nil_append] at ho; obtain ⟨A1, c1, rfl, _⟩ := id ho.reads)
    go_ret
    exact ⟨_, rfl, ho, only_new (only_alloc (only_refl w none) _) hg (Nat.le_refl _)⟩
theorem blTargets_any (op : Int) (s : Sg) (w : World) (hI : IntsA (fun k => k < w.heap.size) w s.lv s.l) (hl : s.l.length ≤ 1048576) : Calls Try.prog 21 #[.agg (s.cells op)] w fun e w' => ∃ v, e = .returned v ∧ BOwn w.heap.size w' v (tgtL (op, s.l)) ∧ w.grownBy w' none := by
  obtain ⟨a, b, c, d, lv, l⟩ := s
  dsimp only at hI
  obtain ⟨A, cp, rfl, _⟩ := id hI
  have HI := Lib.hid hI
  have HL : Hid (l.length ≤ 1048576) := hl
  clear hI hl
  unfold Sg.cells
  dsimp only at HI HL ⊢
  have hit := fun w => is_any op 4 w
  rw [is_aims] at hit
  have hg1 : w.grownBy (w.alloc (.cells #[.int .i64 op, .int .i64 a, .int .i64 b, .int .i64 c, .int .i64 d, .slice A l.length cp] 40)) none := only_alloc (only_refl _ _) _
  have HG1 := Lib.hid hg1
  have hbx : Blk (w.alloc (.cells #[.int .i64 op, .int .i64 a, .int .i64 b, .int .i64 c, .int .i64 d, .slice A l.length cp] 40)) w.heap.size 40 #[.int .i64 op, .int .i64 a, .int .i64 b, .int .i64 c, .int .i64 d, .slice A l.length cp] := Blk.new _ _ _
  have HB := Lib.hid hbx
  clear hg1 hbx
  by_cases ht : hasT op = true
  · rw [ht] at hit
    rw [tgt_yes ht]
    clear ht
    go_enter Try.func21, Try.ntmps21
    go_wp2_with fail
    refine (hit _).mono ?_
    rintro e w2 ⟨rfl, hg2⟩
    have y5 : w2.cell? ⟨w.heap.size, 5, none⟩ = some (.slice A l.length cp) := (HB.out.kept hg2).cell 5
    have hg3 := only_trans HG1.out hg2
    have HG3 := Lib.hid hg3
    have hs3 := hg3.size
    clear hit hg2 hg3
    go_wp2_with fail
    refine (clone_any (.slice A l.length cp) l _ (HI.out.up HG3.out) (by have := HL.out; omega)).mono ?_
    rintro e w4 ⟨v', rfl, ho, hg4⟩
    obtain ⟨A1, c1, rfl, _⟩ := id ho.reads
    go_wp2_with fail
    go_ret
    exact ⟨_, rfl, ho.down hs3 (Nat.le_trans hs3 hg4.size), only_trans HG3.out hg4⟩
  · have ht' : hasT op = false := by simpa using ht
    rw [ht'] at hit
    rw [tgt_no ht']
    clear ht ht'
    go_enter Try.func21, Try.ntmps21
    go_wp2_with fail
    refine (hit _).mono ?_
    rintro e w2 ⟨rfl, hg2⟩
    have HG3 := Lib.hid (only_trans HG1.out hg2)
    clear hit hg2
    go_wp2_with fail
    go_ret
    exact ⟨_, rfl, BOwn.nil_ _ _, HG3.out⟩
theorem blGoes_any (cs : List Bi) (v : Value) (i : Int) (w : World) (hC : CodeA w v cs) (hl : ∀ x ∈ cs, x.2.length ≤ 1048576) (hn : cs.length ≤ 1048576) : Calls Try.prog 19 #[v, .int .i64 i] w fun e w' => ∃ v', e = .returned v' ∧ BOwn w.heap.size w' v' (goesI cs i) ∧ w.grownBy w' none := by
  obtain ⟨A, cp, rfl, hcl, _⟩ := id hC
  have hpl := fun w => blPlace_any A cs.length cp i w (by omega)
  have HC := Lib.hid hC
  have HL := Lib.hid hl
  have HN := Lib.hid hn
  clear hC hl hn
  by_cases h : 0 ≤ i ∧ i < (cs.length : Int)
  · rw [decide_eq_true h] at hpl
    obtain ⟨j, rfl⟩ : ∃ j : Nat, i = (j : Int) := ⟨i.toNat, by omega⟩
    have hj : j < cs.length := by omega
    rw [goesI_at]
    go_enter Try.func19, Try.ntmps19
    go_wp2_with fail
    refine (hpl _).mono ?_
    rintro e w1 ⟨rfl, hg1⟩
    have HG1 := Lib.hid hg1
    clear hg1 hpl
    go_wp2_with fail
    refine (blGoes_fn _ _ _ _ _).mono ?_
    rintro e w2 ⟨rfl, rfl⟩
    have hg2 : w1.grownBy ((w1.alloc (.cells #[.slice A cs.length cp] 22)).alloc (.cells #[.int .i64 (j : Int)] 3)) none := only_alloc (only_alloc (only_refl _ _) _) _
    have HB : Hid (GoB w1.heap.size (w1.heap.size + 1) (.slice A cs.length cp) cs j w ((w1.alloc (.cells #[.slice A cs.length cp] 22)).alloc (.cells #[.int .i64 (j : Int)] 3))) := ⟨HC.out, only_trans HG1.out hg2, (Blk.new _ _ _).alloc _, blk_atB (by simp) _ _⟩
    have HG2 := Lib.hid (only_trans HG1.out hg2)
    have hs2 := HG2.out.size
    clear hg2
    generalize w1.heap.size = B1 at *
    generalize World.alloc _ _ = W2 at *
    go_wp2_with fail
    refine (collect_any _ _ _ cs j w W2 hj HL.out HN.out HB.out).mono ?_
    rintro e w4 ⟨v', rfl, ho, hg4⟩
    obtain ⟨A1, c1, rfl, _⟩ := id ho.reads
    go_wp2_with fail
    go_ret
    exact ⟨_, rfl, ho.down hs2 (Nat.le_trans hs2 hg4.size), only_trans HG2.out hg4⟩
  · rw [decide_eq_false h] at hpl
    have hgi : goesI cs i = [] := by unfold goesI; rw [if_pos (by omega)]
    rw [hgi]
    clear hgi
    go_enter Try.func19, Try.ntmps19
    go_wp2_with fail
    refine (hpl _).mono ?_
    rintro e w1 ⟨rfl, hg1⟩
    go_wp2_with fail
    go_ret
    exact ⟨_, rfl, BOwn.nil_ _ _, hg1⟩
end Go.Proofs.Ytnejikkibneegaa

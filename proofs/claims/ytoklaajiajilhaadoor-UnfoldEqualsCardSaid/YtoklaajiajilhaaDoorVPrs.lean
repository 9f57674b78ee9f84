/- unfold: pairs: the parts of two types, one by one. -/
import Derived.Test.YtoklaajiajilhaaDoorVPar
import Derived.Test.YtoklaajiajilhaaDoorVGrw
import Derived.Laws.EntriesVeiled
namespace Go.Proofs.YtoklaajiajilhaaDoor
open Go.RowKit Go.Shelf
attribute [local go_sem] Oper.semAt_some

/-- One pair more, appended, in a round. -/
theorem wpListIn_append_pair {F : Fence} {m : Nat} {ops : Array Oper} {rest : List Oper} {o : Oper} {a : Act} {W : World} {Q : Exit → Act → World → Prop} (hgd : o.guard = none) (s x : Operand)
    (ho : o.op = .call { callee := .builtin .append, args := #[s, x], argTypes := #[44, 44] })
    {base : Nat} {v : Value} {ss : List (Ed × Ed)} {e : Ed × Ed} {g : Nat} (hs : a.eval s = v) (hx : a.eval x = .slice (some ⟨g, 0, none⟩) 1 1)
    (hot : W.ownsRow base 43 4 v ss.length (prAll ss)) (hb : Blk W g 43 (prA e)) (hn : ss.length ≤ 1000) (hbase : base ≤ W.heap.size)
    (h : ∀ v' W', W'.ownsRow base 43 4 v' (ss ++ [e]).length (prAll (ss ++ [e])) → W.grownBy W' v.ownBlock → wpListIn F m Tryd.prog ops Q rest (a.put o.dst v') W') : wpListIn F m Tryd.prog ops Q (o :: rest) a W := by
  obtain ⟨i0, hi, hz0, hz1, hz2⟩ := info_parts pair_info
  refine wpListIn_append_own W hgd s x 44 ho base 43 i0 _ 4 32 Tryd.underlying44 hi hz0 hz1 hz2 rfl (by decide) v ss.length (prAll ss) hs hot
    ⟨g, 0, none⟩ 1 1 (prA e).toList hx rfl (fun j u hu => ?_) (fun u hu => ?_) (by unfold maxLen; omega) (by omega) hbase (fun v' W' hr hg _ => h v' W' ?_ hg)
  · rw [addr_plain, Nat.zero_add, hb.cell j, ← hu]; simp
  · simp only [List.mem_cons, List.not_mem_nil, or_false] at hu
    rcases hu with rfl | rfl | rfl | rfl <;> rfl
  · rw [List.length_append, prAll_snoc]; exact hr
theorem prAll_set : ∀ (ps : List (Ed × Ed)) (j : Nat) (p : Ed × Ed) (e : Ed), ps[j]? = some p → ((prAll ps).set (j * 4 + 2) (.int .i64 e.1)).set (j * 4 + 3) (.int .i64 e.2) = prAll (ps.set j (p.1, e))
  | [], j, p, e, h => by simp at h
  | q :: ps, 0, p, e, h => by
    simp only [List.getElem?_cons_zero, Option.some.injEq] at h
    subst h
    simp [prAll]
  | q :: ps, j + 1, p, e, h => by
    have ih := prAll_set ps j p e (by simpa using h)
    have e1 : (j + 1) * 4 + 2 = (j * 4 + 2) + 4 := by omega
    have e2 : (j + 1) * 4 + 3 = (j * 4 + 3) + 4 := by omega
    show ((((prA q).toList ++ prAll ps).set _ _).set _ _) = (prA q).toList ++ prAll (ps.set j (p.1, e))
    rw [← ih, e1, e2]
    simp
theorem own_set {W : World} {base g n cap j : Nat} {ps : List (Ed × Ed)} {p : Ed × Ed} {e : Ed} (h : W.ownsRow base 43 4 (.slice (some ⟨g, 0, none⟩) n cap) n (prAll ps)) (hj : ps[j]? = some p) :
    ((W.setCell ⟨g, j * 4 + 2, none⟩ (.int .i64 e.1)).setCell ⟨g, j * 4 + 3, none⟩ (.int .i64 e.2)).ownsRow base 43 4 (.slice (some ⟨g, 0, none⟩) n cap) n (prAll (ps.set j (p.1, e))) := by
  refine ⟨?_, ?_⟩
  · have h1 := h.1
    rw [prAll_len] at h1 ⊢
    rw [List.length_set]; exact h1
  · rcases h.2 with ⟨h0, _⟩ | ⟨g', cap', cur, he, hb, hg, hnc, hcm, hsz, htk⟩
    · cases h0
    · simp only [Value.slice.injEq, Option.some.injEq, Addr.mk.injEq, and_true, true_and] at he
      obtain ⟨rfl, rfl⟩ := he
      refine .inr ⟨g, cap, _, rfl, hb, (Blk.set_ (Blk.set_ hg (j * 4 + 2) (.int .i64 e.1)) (j * 4 + 3) (.int .i64 e.2)), hnc, hcm, by simp [hsz], ?_⟩
      rw [Array.toList_setIfInBounds, Array.toList_setIfInBounds, List.take_set, List.take_set, htk]
      exact prAll_set ps j p e hj
theorem pr_at : ∀ {ps : List (Ed × Ed)} {j : Nat} {p : Ed × Ed}, ps[j]? = some p → ∀ i, i < 4 → (prAll ps)[j * 4 + i]? = (prA p).toList[i]?
  | [], _, _, h, _, _ => by simp at h
  | q :: ps, 0, p, h, i, hi => by
    simp only [List.getElem?_cons_zero, Option.some.injEq] at h
    subst h
    show ((prA q).toList ++ prAll ps)[0 * 4 + i]? = _
    rw [List.getElem?_append_left (by simp; omega), Nat.zero_mul, Nat.zero_add]
  | q :: ps, j + 1, p, h, i, hi => by
    show ((prA q).toList ++ prAll ps)[(j + 1) * 4 + i]? = _
    rw [List.getElem?_append_right (by simp; omega), show (j + 1) * 4 + i - (prA q).toList.length = j * 4 + i by simp; omega]
    exact pr_at (by simpa using h) i hi
/-- What the first range has made; what the second one has turned. -/
def fstL (pre : List Ed) : List (Ed × Ed) := pre.map fun e => (e, (0, 0))
def mixL (L pre : List Ed) : List (Ed × Ed) := L.zip (pre ++ List.replicate (L.length - pre.length) (0, 0))
theorem mix_nil (L : List Ed) : mixL L [] = fstL L := by
  unfold mixL fstL
  induction L with
  | nil => rfl
  | cons a L ih => simp only [List.nil_append, List.length_nil, Nat.sub_zero, List.length_cons, List.replicate_succ, List.zip_cons_cons, List.map_cons] at ih ⊢; rw [ih]
theorem mix_all {L M : List Ed} (h : L.length = M.length) : mixL L M = L.zip M := by unfold mixL; rw [h, Nat.sub_self]; simp
theorem mix_len (L pre : List Ed) (h : pre.length ≤ L.length) : (mixL L pre).length = L.length := by unfold mixL; simp; omega
theorem mix_next {L pre : List Ed} {e : Ed} (h : pre.length < L.length) : ∃ p, (mixL L pre)[pre.length]? = some p ∧ (mixL L pre).set pre.length (p.1, e) = mixL L (pre ++ [e]) := by
  have hm := mix_len L pre (by omega)
  refine ⟨(mixL L pre)[pre.length], List.getElem?_eq_getElem (by omega), ?_⟩
  refine List.ext_getElem? fun i => ?_
  have hr : L.length - pre.length = (L.length - (pre.length + 1)) + 1 := by omega
  rw [List.getElem?_set]
  by_cases hi : pre.length = i
  · subst hi
    rw [if_pos rfl, if_pos (by omega)]
    have h1 : ((mixL L pre)[pre.length]'(by omega)).1 = L[pre.length] := by simp [mixL, List.getElem_zip]
    have h2 : ((pre ++ [e]) ++ List.replicate (L.length - (pre ++ [e]).length) ((0 : Int), (0 : Int)))[pre.length]? = some e := by simp
    rw [h1]
    unfold mixL
    rw [List.zip, List.getElem?_zipWith, List.getElem?_eq_getElem h, h2]
  · rw [if_neg hi]
    unfold mixL
    simp only [List.zip, List.getElem?_zipWith]
    congr 1
    rw [hr, List.replicate_succ, List.length_append, List.length_singleton, List.append_assoc, List.getElem?_append, List.getElem?_append]
    split
    · rfl
    · have : i - pre.length ≠ 0 := by omega
      obtain ⟨m, hm2⟩ : ∃ m, i - pre.length = m + 1 := ⟨i - pre.length - 1, by omega⟩
      rw [hm2, List.getElem?_cons_succ, List.singleton_append, List.getElem?_cons_succ]
theorem own_keeps {X Y : World} {base : Nat} {e : TypeId} {sz n : Nat} {v : Value} {xs : List Value} (h : X.ownsRow base e sz v n xs) (hk : KeepsCells X Y) : Y.ownsRow base e sz v n xs := ⟨h.1, h.2.imp id (fun ⟨g, cap, cur, a, b, hg, rest⟩ => ⟨g, cap, cur, a, b, Blk.keeps hg hk, rest⟩)⟩
/-- Between two parts of the first type; of the second one. -/
def PI1 (w : World) (Bk By : Nat) (q : Ed) (pre : List Ed) (W : World) : Prop := ∃ tv, GB w 44 43 4 Bk tv (fstL pre).length (prAll (fstL pre)) W ∧ Blk W By 24 (edCells q)
theorem pi1_own {w : World} {Bk By B : Nat} {q : Ed} (hB : w.heap.size ≤ B) : OwnFrom B (PI1 w Bk By q) := fun _ _ _ _ ⟨tv, h1, h2⟩ hg hr => ⟨tv, h1.own hB hg hr, blk_ownF h2 hg hr⟩
def PI2 (w : World) (Bk Bi D : Nat) (tv : Value) (L : List Ed) (pre : List Ed) (W : World) : Prop := GB w 44 43 4 Bk tv L.length (prAll (mixL L pre)) W ∧ Blk W Bi 3 #[.int .i64 (pre.length : Int)] ∧ W.heap[D]? = some (.deferred (some []))
theorem pi2_own {w : World} {Bk Bi D B : Nat} {tv : Value} {L : List Ed} (hB : w.heap.size ≤ B) (hD : D < B) : OwnFrom B (PI2 w Bk Bi D tv L) := fun _ _ _ _ ⟨h1, h2, h3⟩ hg hr => ⟨h1.own hB hg hr, blk_ownF h2 hg hr, (hg.block D (Array.getElem?_eq_some_iff.1 h3).1 (fun e => by have := (hr D e.symm).1; omega)).trans h3⟩

set_option maxRecDepth 100000 in
set_option maxHeartbeats 4000000 in
theorem pairs_any (xs : List Nd) (v : Value) (p q : Ed) (w : World) (hT : Tbl w v xs) (hxs : xs.length ≤ 1000) (hp : nodeAt xs p.1 = none → p.1 < 0) (hq : nodeAt xs q.1 = none → q.1 < 0) (hl : (partsL xs p).length = (partsL xs q).length) (h9 : (partsL xs p).length ≤ 100) :
    Calls Tryd.prog 15 #[v, edV p, edV q] w fun e w' => ∃ tv, e = .returned tv ∧ w'.ownsRow w.heap.size 43 4 tv (partsL xs p).length (prAll ((partsL xs p).zip (partsL xs q))) ∧ w.grownBy w' none := by
  have HT := Lib.hid hT
  obtain ⟨A, cap, rfl, _⟩ := hT
  refine (callsIn_wide (n := 3)).1 ?_
  refine callsIn_of_wp_marks Tryd.func15 rfl trivial ?_ rfl
  simp only [Tryd.ntmps15, List.size_toArray, List.length_cons, List.length_nil, Nat.reduceAdd, Nat.reduceSub, Array.replicate_succ, Array.replicate_zero, List.push_toArray, List.append_toArray, List.nil_append, List.cons_append]
  gi_wp2_with (refine ⟨trivial, ?_⟩; gi_at_call 22; go_must (refine (callsIn_wide.2 (parts_any _ _ _ p _)).mono ?_; rintro e w5 ⟨rfl, rfl⟩))
  obtain ⟨W0, hW0⟩ : ∃ W0, (((((w.alloc (.cells (edCells p) 24)).alloc (.cells (edCells q) 24)).alloc (.cells #[.slice none 0 0] 44)).alloc (.cells #[.slice A xs.length cap] 22)).alloc (.cells (edCells p) 24)) = W0 := ⟨_, rfl⟩
  have hg0 : w.grownBy W0 none := by rw [← hW0]; exact only_alloc (only_alloc (only_alloc (only_alloc (only_alloc (only_refl _ _) _) _) _) _) _
  have hz : W0.heap.size = w.heap.size + 5 := by rw [← hW0]; simp
  have hby : Blk W0 (w.heap.size + 1) 24 (edCells q) := by rw [← hW0]; exact (((blk_at (by simp) _ _).alloc _).alloc _).alloc _
  have hbk : Blk W0 (w.heap.size + 1 + 1) 44 #[.slice none 0 0] := by rw [← hW0]; exact ((blk_at (by simp) _ _).alloc _).alloc _
  have hbn : Blk W0 (w.heap.size + 1 + 1 + 1) 22 #[.slice A xs.length cap] := by rw [← hW0]; exact (blk_at (by simp) _ _).alloc _
  have hbt : Blk W0 (w.heap.size + 1 + 1 + 1 + 1) 24 (edCells p) := by rw [← hW0]; exact blk_at (by simp) _ _
  rw [hW0]
  clear hW0
  have hpi : PI1 w (w.heap.size + 1 + 1) (w.heap.size + 1) q [] W0 := ⟨.slice none 0 0, ⟨hg0, hbk, by omega, ⟨rfl, .inl ⟨rfl, rfl⟩⟩⟩, hby⟩
  have hTE : 44 ≠ 43 := by decide
  have HB1 := Lib.hid hbn
  have HB2 := Lib.hid hbt
  have HG0 := Lib.hid hg0
  have HXS := Lib.hid hxs
  have HQN := Lib.hid hq
  have HLEN := Lib.hid hl
  clear hbn hbt hby hbk hxs hq hl
  refine wpIn_rangeFunc_told rfl (by omega) (gf := 29) (lb := #[.pointer (some ⟨w.heap.size + 1 + 1 + 1 + 1, 0, none⟩), .pointer (some ⟨w.heap.size + 1 + 1 + 1, 0, none⟩)]) rfl trivial (enters_of Tryd.func29 (by kernel_rfl) rfl)
    (parts_told w.heap.size (w.heap.size + 1 + 1 + 1 + 1) (w.heap.size + 1 + 1 + 1) [43, 44] (by decide) (by decide) w xs (.slice A xs.length cap) p HXS.out hp) KB.trans (fun W l o o' hl ho hc => KB.putObj W l o o' (Nat.le_trans (by omega) hl) ho hc) KB.alloc (fun _ => rfl) ?t0
    (PI1 w (w.heap.size + 1 + 1) (w.heap.size + 1) q) (fun _ _ _ => False) (pi1_own (by omega)) (fun _ _ _ _ _ h => h.elim) hpi 24 edCells
    (fun e Bx => { tmps := #[.slice A xs.length cap, edV p, edV q, undef, .pointer (some ⟨w.heap.size, 0, none⟩), .pointer (some ⟨w.heap.size + 1, 0, none⟩), .slice none 0 0, .pointer (some ⟨w.heap.size + 1 + 1, 0, none⟩), .pointer (some ⟨Bx, 0, none⟩), undef, undef, .slice A xs.length cap, edV p, .func (.func 29) #[] #[.pointer (some ⟨w.heap.size + 1 + 1 + 1 + 1, 0, none⟩), .pointer (some ⟨w.heap.size + 1 + 1 + 1, 0, none⟩)], edV e, undef, undef, undef, undef, undef, undef, undef, undef, undef, undef, undef, undef, undef, undef, undef, undef, undef], defers := [] }) ?assign ?body ?done ?stop
  case t0 =>
    intro W hW
    exact ⟨rfl, HT.out, below_only hW HG0.out (by omega), HB2.out.below hW (by omega), HB1.out.below hW (by omega)⟩
  case assign =>
    intro l e W K hK
    gi_wp2
    exact hK
  case stop =>
    rintro D c pre W hD hpre hne h hK
    exact h.elim
  case body =>
    rintro l pre ⟨e0, e1⟩ W Bx hpre hBx ⟨tv, h1, h2⟩ hbx
    try dsimp only
    have hfl : (fstL pre).length ≤ 1000 := by
      have h5 := List.IsPrefix.length_le hpre
      rw [List.length_append, List.length_singleton] at h5
      unfold fstL
      rw [List.length_map]; omega
    have c0 : W.cell? ⟨Bx, 0, none⟩ = some (.int .i64 e0) := hbx.cell 0
    have c1 : W.cell? ⟨Bx, 1, none⟩ = some (.int .i64 e1) := hbx.cell 1
    have c2 : W.cell? ⟨w.heap.size + 1 + 1, 0, none⟩ = some tv := h1.bx.cell 0
    have hlt1 := cell_lt c0
    have hlt2 := cell_lt c2
    have H1 := Lib.hid h1
    have H2 := Lib.hid h2
    clear h1 h2 hbx
    gi_wp2_with (gi_at_builtin; go_loud (refine wpListIn_append_pair (e := ((e0, e1), (0, 0))) rfl (.tmp 15) (.tmp 18) rfl rfl rfl (own_kept H1.out.ow (only_alloc (only_refl _ _) (.cells (prA ((e0, e1), (0, 0))) 43))) (Blk.new _ _ _) hfl (Nat.le_trans H1.out.gr.size (by simp)) ?_); intro v' W5 ho5 hg5; have hg5 : (W.alloc (.cells (prA ((e0, e1), (0, 0))) 43)).grownBy W5 tv.ownBlock := hg5; rw [List.length_append, List.length_singleton] at ho5; obtain ⟨A5, c5, rfl⟩ := own_len ho5; have HX := Lib.hid (H1.out.kept (only_alloc (only_refl _ _) (.cells (prA ((e0, e1), (0, 0))) 43))); have b5 := HX.out.at_ hTE hg5; have d0 := b5.cell 0; have f0 := b5.frozen 0; have HO5 := Lib.hid ho5; have HG5 := Lib.hid hg5; clear ho5 hg5 b5)
    have hfs : fstL (pre ++ [(e0, e1)]) = fstL pre ++ [((e0, e1), (0, 0))] := by simp [fstL]
    have hput := HX.out.put hTE HG5.out HO5.out
    have hky : w.heap.size + 1 ≠ w.heap.size + 1 + 1 := by omega
    refine ⟨((KeepsOthers.alloc W _).from _).trans (HX.out.from_ HG5.out _ _), (KB.alloc W _).trans (HX.out.kb hTE (Nat.le_refl _) (by simp) (by simp) HG5.out _), _, by rw [hfs, List.length_append, List.length_singleton]; exact hput, HX.out.other (H2.out.alloc _) (by decide) hky HG5.out _⟩
  case done =>
    rintro D W hD ⟨tv, h1, h2⟩ hK
    have hfl : (fstL (partsL xs p)).length = (partsL xs p).length := by simp [fstL]
    rw [hfl, ← mix_nil] at h1
    have c2 : W.cell? ⟨w.heap.size + 1 + 1, 0, none⟩ = some tv := h1.bx.cell 0
    have y0 : W.cell? ⟨w.heap.size + 1, 0, none⟩ = some (.int .i64 q.1) := h2.cell 0
    have y1 : W.cell? ⟨w.heap.size + 1, 1, none⟩ = some (.int .i64 q.2) := h2.cell 1
    have hly := cell_lt y0
    have hlk := cell_lt c2
    have H1 := Lib.hid h1
    have HK := Lib.hid hK
    clear h1 h2 hK
    gi_wp2_with (refine ⟨trivial, ?_⟩; gi_at_call 22; go_must (refine (callsIn_wide.2 (parts_any _ _ _ q _)).mono ?_; rintro e w5 ⟨rfl, rfl⟩))
    obtain ⟨W2, hW2⟩ : ∃ W2, (((W.alloc (.cells #[.int .i64 0] 3)).alloc (.cells #[.slice A xs.length cap] 22)).alloc (.cells (edCells q) 24)) = W2 := ⟨_, rfl⟩
    have hgw : W.grownBy W2 none := by rw [← hW2]; exact only_alloc (only_alloc (only_alloc (only_refl _ _) _) _) _
    have hz2 : W2.heap.size = W.heap.size + 3 := by rw [← hW2]; simp
    have hbi : Blk W2 W.heap.size 3 #[.int .i64 0] := by rw [← hW2]; exact ((Blk.new W _ _).alloc _).alloc _
    have hbn : Blk W2 (W.heap.size + 1) 22 #[.slice A xs.length cap] := by rw [← hW2]; exact (blk_at (by simp) _ _).alloc _
    have hbt : Blk W2 (W.heap.size + 1 + 1) 24 (edCells q) := by rw [← hW2]; exact blk_at (by simp) _ _
    rw [hW2]
    clear hW2
    have hWz : w.heap.size + 5 ≤ W.heap.size := by have := (Array.getElem?_eq_some_iff.1 HK.out).1; omega
    have HB3 := Lib.hid hbn
    have HB4 := Lib.hid hbt
    have HG2 := Lib.hid (only_trans H1.out.gr hgw)
    have HK2 : Hid (W2.heap[D]? = some (.deferred (some []))) := Lib.hid ((hgw.block D (Array.getElem?_eq_some_iff.1 HK.out).1 (fun e => by cases e)).trans HK.out)
    have hpi2 : PI2 w (w.heap.size + 1 + 1) W.heap.size D tv (partsL xs p) [] W2 := ⟨H1.out.kept hgw, hbi, HK2.out⟩
    have HDL : D < W2.heap.size := (Array.getElem?_eq_some_iff.1 HK2.out).1
    clear hbn hbt hbi hgw c2 y0 y1 hly hlk HK HK2
    revert hz2 hWz HB3 HB4 hpi2
    generalize W.heap.size = Bi
    intro hz2 hWz HB3 HB4 hpi2
    refine wpIn_rangeFunc_told rfl (by omega) (gf := 29) (lb := #[.pointer (some ⟨Bi + 1 + 1, 0, none⟩), .pointer (some ⟨Bi + 1, 0, none⟩)]) rfl trivial (enters_of Tryd.func29 (by kernel_rfl) rfl)
      (parts_told w.heap.size (Bi + 1 + 1) (Bi + 1) [43, 3] (by decide) (by decide) w xs (.slice A xs.length cap) q HXS.out HQN.out) KB.trans (fun W l o o' hl ho hc => KB.putObj W l o o' (Nat.le_trans (by omega) hl) ho hc) KB.alloc (fun _ => rfl) ?t0
      (PI2 w (w.heap.size + 1 + 1) Bi D tv (partsL xs p)) (fun _ _ _ => False) (pi2_own (by omega) HDL) (fun _ _ _ _ _ h => h.elim) hpi2 24 edCells
      (fun e Bx => { tmps := #[.slice A xs.length cap, edV p, edV q, undef, .pointer (some ⟨w.heap.size, 0, none⟩), .pointer (some ⟨w.heap.size + 1, 0, none⟩), .slice none 0 0, .pointer (some ⟨w.heap.size + 1 + 1, 0, none⟩), undef, .pointer (some ⟨Bi, 0, none⟩), .pointer (some ⟨Bx, 0, none⟩), .slice A xs.length cap, edV p, .func (.func 29) #[] #[.pointer (some ⟨w.heap.size + 1 + 1 + 1 + 1, 0, none⟩), .pointer (some ⟨w.heap.size + 1 + 1 + 1, 0, none⟩)], undef, undef, undef, undef, undef, undef, .slice A xs.length cap, edV q, .func (.func 29) #[] #[.pointer (some ⟨Bi + 1 + 1, 0, none⟩), .pointer (some ⟨Bi + 1, 0, none⟩)], edV e, undef, undef, undef, undef, undef, undef, undef, undef], defers := [] }) ?assign ?body ?done ?stop
    case t0 =>
      intro W hW
      exact ⟨rfl, HT.out, below_only hW HG2.out (by omega), HB4.out.below hW (by omega), HB3.out.below hW (by omega)⟩
    case assign =>
      intro l e W K hK
      gi_wp2
      exact hK
    case stop =>
      rintro D c pre W hD hpre hne h hK
      exact h.elim
    case body =>
      rintro l pre ⟨e0, e1⟩ X Bx hpre hBx ⟨h1, h2, h3⟩ hbx
      try dsimp only
      have hjl : pre.length < (partsL xs p).length := by
        have h5 := List.IsPrefix.length_le hpre
        rw [List.length_append, List.length_singleton, ← HLEN.out] at h5
        omega
      obtain ⟨pp, hpp, hset⟩ := mix_next (e := (e0, e1)) hjl
      have hpl : (pre ++ [(e0, e1)]).length = pre.length + 1 := by simp
      obtain ⟨n, hn⟩ : ∃ n, (partsL xs p).length = n := ⟨_, rfl⟩
      obtain ⟨j, hj⟩ : ∃ j, pre.length = j := ⟨_, rfl⟩
      rw [hn, hj] at hjl
      rw [hj] at hpp hset hpl h2
      have H1' := Lib.hid h1
      rw [hn] at h1
      obtain ⟨g, cp, rfl, hgb⟩ : ∃ g cp, tv = .slice (some ⟨g, 0, none⟩) n cp ∧ w.heap.size ≤ g := by
        rcases h1.ow.2 with ⟨_, h0⟩ | ⟨g, cp, cur, h0, hb, _⟩
        · omega
        · exact ⟨g, cp, h0, hb⟩
      have c0 : X.cell? ⟨Bx, 0, none⟩ = some (.int .i64 e0) := hbx.cell 0
      have c1 : X.cell? ⟨Bx, 1, none⟩ = some (.int .i64 e1) := hbx.cell 1
      have c2 : X.cell? ⟨w.heap.size + 1 + 1, 0, none⟩ = some (.slice (some ⟨g, 0, none⟩) n cp) := h1.bx.cell 0
      have c3 : X.cell? ⟨Bi, 0, none⟩ = some (.int .i64 (j : Int)) := h2.cell 0
      have f3 := h2.frozen 0
      obtain ⟨cs, hcs⟩ : ∃ cs, Blk X g 43 cs := (own_row h1.ow g rfl).2
      have f4 := hcs.frozen (j * 4 + 2)
      have f5 := hcs.frozen (j * 4 + 3)
      have c4 := h1.ow.cells (g := g) rfl (j * 4 + 2) (.int .i64 pp.2.1) (pr_at hpp 2 (by omega))
      have c5 := h1.ow.cells (g := g) rfl (j * 4 + 3) (.int .i64 pp.2.2) (pr_at hpp 3 (by omega))
      rw [addr_plain, Nat.zero_add] at c4 c5
      have hjI : (j : Int) < (n : Int) := by omega
      have hj0 : (0 : Int) ≤ (j : Int) := by omega
      have hn9 : (n : Int) ≤ 100 := by omega
      have hgi : g ≠ Bi := fun e => Blk.ne_ hcs h2 (by decide) e
      have hig : Bi ≠ g := fun e => hgi e.symm
      have HH1 := Lib.hid h1
      have HH2 := Lib.hid h2
      have HCS := Lib.hid hcs
      clear h1 h2 hbx hcs
      have hgD : D ≠ g := fun e => by
        have := HCS.out
        unfold Blk at this
        rw [← e, h3] at this
        cases this
      have hiD : D ≠ Bi := fun e => by
        have := HH2.out
        unfold Blk at this
        rw [← e, h3] at this
        cases this
      have hkg : w.heap.size + 1 + 1 ≠ g := fun e => Blk.ne_ HCS.out HH1.out.bx (by decide) e.symm
      have hki : w.heap.size + 1 + 1 ≠ Bi := by omega
      have H3 := Lib.hid h3
      clear h3
      gi_wp2_with fail
      have hs1 : X.grownBy ((X.setCell ⟨g, j * 4 + 2, none⟩ (.int .i64 e0)).setCell ⟨g, j * 4 + 3, none⟩ (.int .i64 e1)) (some g) := only_setCell (p := ⟨g, j * 4 + 3, none⟩) (only_setCell (p := ⟨g, j * 4 + 2, none⟩) (only_refl _ _) rfl _) rfl _
      have hs2 : ((X.setCell ⟨g, j * 4 + 2, none⟩ (.int .i64 e0)).setCell ⟨g, j * 4 + 3, none⟩ (.int .i64 e1)).grownBy (((X.setCell ⟨g, j * 4 + 2, none⟩ (.int .i64 e0)).setCell ⟨g, j * 4 + 3, none⟩ (.int .i64 e1)).setCell ⟨Bi, 0, none⟩ (.int .i64 ((j : Int) + 1))) (some Bi) := only_setCell (only_refl _ _) rfl _
      have hset3 := own_set (e := (e0, e1)) HH1.out.ow hpp
      rw [hset] at hset3
      have hbi2 : Blk ((X.setCell ⟨g, j * 4 + 2, none⟩ (.int .i64 e0)).setCell ⟨g, j * 4 + 3, none⟩ (.int .i64 e1)) Bi 3 #[.int .i64 (j : Int)] := (HH2.out.far (p := ⟨g, j * 4 + 2, none⟩) hig _).far (p := ⟨g, j * 4 + 3, none⟩) hig _
      have hkbb : w.heap.size ≤ Bi := by omega
      refine ⟨(((KeepsOthers.setCell X _ _).trans (KeepsOthers.setCell _ _ _)).trans (KeepsOthers.setCell _ _ _)).from _, (KB.row hs1 (fun g' e' => ?_)).trans (KB.row hs2 (fun g' e' => ?_)), ⟨?_, ?_, HH1.out.hk, ?_⟩, ?_, ?_⟩
      · injection e' with e'
        subst e'
        exact ⟨hgb, _, _, HCS.out, by simp⟩
      · injection e' with e'
        subst e'
        exact ⟨hkbb, _, _, hbi2, by simp⟩
      · exact only_setNew (only_setNew (only_setNew HH1.out.gr (p := ⟨g, j * 4 + 2, none⟩) hgb _) (p := ⟨g, j * 4 + 2 + 1, none⟩) hgb _) (p := ⟨Bi, 0, none⟩) hkbb _
      · exact ((HH1.out.bx.far (p := ⟨g, j * 4 + 2, none⟩) hkg _).far (p := ⟨g, j * 4 + 2 + 1, none⟩) hkg _).far (p := ⟨Bi, 0, none⟩) hki _
      · rw [hn]
        exact hset3.kept hs2 (.inr fun e' => by injection e' with e'; exact hgi e')
      · rw [hpl]
        exact hbi2.set_ 0 (.int .i64 ((j : Int) + 1))
      · exact ((Below.heap_setCell _ _ _ D hiD).trans ((Below.heap_setCell _ _ _ D hgD).trans (Below.heap_setCell _ _ _ D hgD))).trans H3.out
    case done =>
      rintro D2 X hD2 ⟨h1, h2, h3⟩ hK2
      have c2 : X.cell? ⟨w.heap.size + 1 + 1, 0, none⟩ = some tv := h1.bx.cell 0
      have H1 := Lib.hid h1
      clear h1 h2
      have H3 := Lib.hid h3
      clear h3
      gi_wp2_with fail
      have hmx := mix_all HLEN.out
      refine marks_ret (B := w.heap.size) [D2, D] _ (by simp; omega) (by simp only [List.mem_cons, List.not_mem_nil, or_false, forall_eq_or_imp, forall_eq]; exact ⟨⟨by omega, hK2⟩, by omega, H3.out⟩) fun W' hW' => ⟨_, results_tmp (t := 6) rfl _ _ _, tv, rfl, ?_, hW'.grown H1.out.gr (Nat.le_refl _)⟩
      rw [← hmx]
      exact own_keeps H1.out.ow hW'.2
end Go.Proofs.YtoklaajiajilhaaDoor

/- Texts joined for the claim's sake: SRai, CTld. -/
import Derived.Test.YtmhbmeckdbdhpaaZSKnwRow18
import Derived.Test.YtmhbmeckdbdhpaaZSKnwRow21
import Derived.Test.YtmhbmeckdbdhpaaZSKnwRow24
import Derived.Test.YtmhbmeckdbdhpaaZSKnwRow32
import Derived.Test.YtmhbmeckdbdhpaaZSKnwRow25
namespace Go.Proofs.Ytmhbmeckdbdhpaa
open Go.RowKit Go.Shelf

theorem zero_st : stC zeroT = #[.int .i64 0, .int .i64 0, .int .i64 0, .int .i64 0, .int .i64 0, .int .i64 0, .int .i64 0, .int .i64 0, .int .i64 0, .int .i64 0, .int .i64 0, .int .i64 0, .int .i64 0, .int .i64 0, .int .i64 0, .int .i64 0, .int .i64 0, .int .i64 0, .int .i64 0, .int .i64 0, .int .i64 0, .int .i64 0, .int .i64 0, .int .i64 0, .int .i64 0, .int .i64 0, .int .i64 0, .int .i64 0, .int .i64 0, .int .i64 0, .int .i64 0, .int .i64 0, .int .i64 0, .int .i64 0, .int .i64 0, .int .i64 0, .int .i64 0, .int .i64 0, .int .i64 0, .int .i64 0, .int .i64 0, .int .i64 0, .int .i64 0, .int .i64 0, .int .i64 0, .int .i64 0, .int .i64 0, .int .i64 0, .int .i64 0, .int .i64 0] := rfl
theorem Blk.rowM {W : World} {g : Nat} {t : TypeId} {cs : Array Value} (h : Blk W g t cs) (cs' : Array Value) : Blk (W.setRow g cs') g t cs' := by
  unfold Blk at h ⊢
  simp [World.setRow, Array.getElem?_modify, h]
theorem only_rowM (W : World) (g : Nat) (cs : Array Value) : W.grownBy (W.setRow g cs) (some g) :=
  ⟨rfl, rfl, rfl, by simp, fun i _ hne => setRow_other W g i cs (fun e => hne (by rw [e]))⟩
theorem StB.setLv {W : World} {g : Nat} {s : StT} (h : StB W g s) (m : Int) : StB (W.setCell ⟨g, 0, none⟩ (.int .i64 m)) g { s with lv := m } := by
  have := h.set_ 0 (.int .i64 m)
  have e : (stC s).setIfInBounds 0 (.int .i64 m) = stC { s with lv := m } := by
    unfold stC stL
    rw [List.setIfInBounds_toArray, List.set_cons_zero]
  rwa [e] at this
theorem results_st {fn : Func} {p : Tmp} (h : fn.results = #[.cell p 45]) {tmps : Array Value} {W : World} {g : Nat} {s : StT} (hp : tmps.getD p undef = .pointer (some ⟨g, 0, none⟩)) (hb : StB W g s) (hs : s.regs.length = 16) : (results fn tmps).run Try.prog W = .ok (stV s) W :=
  results_cell_row h tmps W g 45 (stC s) _ _ hp hb Try.underlying45 rfl (by rw [info_st, st_size hs])
set_option maxRecDepth 100000 in
set_option maxHeartbeats 4000000 in
theorem sraise_any (xs : List Nd) (vc vo vp vq : Value) (s : StT) (w : World) (hT : Tbl w vc xs) (hl : xs.length ≤ 1000000) (hs : s.regs.length = 16) :
    Calls Try.prog 15 #[.agg #[vc, vo, vp, vq], stV s] w fun e w' => e = .returned (stV (raiseA xs s)) ∧ w.grownBy w' none := by
  have HT := Lib.hid hT
  have HL := Lib.hid hl
  have HS := Lib.hid hs
  clear hT hl hs
  go_enter Try.func15, Try.ntmps15
  go_upto_region 1 with fail
  rw [← zero_st]
  obtain ⟨W0, hW0⟩ : ∃ W0, (((w.alloc (.cells #[vc, vo, vp, vq] 35)).alloc (.cells (stC s) 45)).alloc (.cells (stC zeroT) 45)) = W0 := ⟨_, rfl⟩
  have hg0 : Hid (w.grownBy W0 none) := Lib.hid (by rw [← hW0]; exact only_alloc (only_alloc (only_alloc (only_refl _ _) _) _) _)
  have hbf : Blk W0 w.heap.size 35 #[vc, vo, vp, vq] := by rw [← hW0]; exact ((Blk.new _ _ _).alloc _).alloc _
  have HB3 : Hid (StB W0 (w.heap.size + 1) s) := Lib.hid (by rw [← hW0]; exact (blk_at (by simp) _ _).alloc _)
  have HB4 : Hid (StB W0 (w.heap.size + 1 + 1) zeroT) := Lib.hid (by rw [← hW0]; exact blk_at (by simp) _ _)
  have f0 := hbf.cell 0
  have f1 := hbf.cell 1
  have f2 := hbf.cell 2
  have f3 := hbf.cell 3
  rw [hW0]
  clear hW0 hbf
  obtain ⟨o, ho⟩ : ∃ o, leastA xs s = o := ⟨_, rfl⟩
  have HO := Lib.hid ho
  clear ho
  refine wp_region_lit ?_
  cases o with
  | none =>
    have HR : Hid (raiseA xs s = s) := Lib.hid (by unfold raiseA; rw [HO.out])
    go_upto_region 4 with (first | (refine wpList_load_st rfl (.tmp 3) rfl rfl HS.out HB3.out ?_) | (go_at_call 16; go_must (refine (sleast_any xs vc vo vp vq s _ (HT.out.keep (.grown hg0.out)) HL.out HS.out).mono ?_; rw [HO.out]; rintro e w5 ⟨rfl, hg⟩; have HG5 := Lib.hid hg; clear hg)))
    refine wp_region_lit ?_
    refine wpList_load_st rfl (.tmp 3) rfl rfl HS.out (HB3.out.kept HG5.out) ?_
    refine wpList_store_st rfl (.tmp 4) (.tmp 16) rfl rfl rfl HS.out rfl (HB4.out.kept HG5.out) ?_
    simp only [Act.put]
    have hst := (HB4.out.kept HG5.out).rowM (stC s)
    have HST := Lib.hid hst
    have HGK : Hid (w.grownBy (w5.setRow (w.heap.size + 1 + 1) (stC s)) none) := Lib.hid (only_new (only_trans hg0.out HG5.out) (only_rowM _ _ _) (by omega))
    clear hst
    generalize (w5.setRow _ _) = w6 at *
    go_wp2_with fail
    exact bodyPost_ret (results_st rfl rfl HST.out HS.out) rfl ⟨by rw [HR.out], HGK.out⟩
  | some m =>
    have HR : Hid (raiseA xs s = { s with lv := m }) := Lib.hid (by unfold raiseA; rw [HO.out])
    go_upto_region 4 with (first | (refine wpList_load_st rfl (.tmp 3) rfl rfl HS.out HB3.out ?_) | (go_at_call 16; go_must (refine (sleast_any xs vc vo vp vq s _ (HT.out.keep (.grown hg0.out)) HL.out HS.out).mono ?_; rw [HO.out]; rintro e w5 ⟨rfl, hg⟩; have HG5 := Lib.hid hg; have c3 := StB.lv (HB3.out.kept hg); have fr3 := (HB3.out.kept hg).frozen 0; clear hg)))
    refine wp_region_lit ?_
    have hb3 : StB (w5.setCell ⟨w.heap.size + 1, 0, none⟩ (.int .i64 m)) (w.heap.size + 1) { s with lv := m } := StB.setLv (HB3.out.kept HG5.out) m
    have hb4 : StB (w5.setCell ⟨w.heap.size + 1, 0, none⟩ (.int .i64 m)) (w.heap.size + 1 + 1) zeroT := (HB4.out.kept HG5.out).far (p := ⟨w.heap.size + 1, 0, none⟩) (by simp) _
    have hs' : ({ s with lv := m } : StT).regs.length = 16 := HS.out
    have HGS : Hid (w.grownBy (w5.setCell ⟨w.heap.size + 1, 0, none⟩ (.int .i64 m)) none) := Lib.hid (only_setNew (only_trans hg0.out HG5.out) (by simp) _)
    generalize (w5.setCell _ _) = w6 at *
    refine wpList_load_st rfl (.tmp 3) rfl rfl hs' hb3 ?_
    refine wpList_store_st rfl (.tmp 4) (.tmp 16) rfl rfl rfl hs' rfl hb4 ?_
    simp only [Act.put]
    have HST := Lib.hid (hb4.rowM (stC { s with lv := m }))
    have HGK : Hid (w.grownBy (w6.setRow (w.heap.size + 1 + 1) (stC { s with lv := m })) none) := Lib.hid (only_new HGS.out (only_rowM _ _ _) (by omega))
    clear hb3 hb4
    generalize (w6.setRow _ _) = w7 at *
    go_wp2_with fail
    exact bodyPost_ret (results_st rfl rfl HST.out hs') rfl ⟨by rw [HR.out], HGK.out⟩
end Go.Proofs.Ytmhbmeckdbdhpaa

namespace Go.Proofs.Ytmhbmeckdbdhpaa
open Go.RowKit Go.Shelf

theorem told_news {W : World} {g : Nat} {t : TypeId} {k : Int} {ch : Bool} {p : Ed} {n : Int} {es : List Ed} (h : Blk W g t (knC k ch p n es)) (hl : es.length ≤ 8) : ∀ j u, (edAll es)[j]? = some u → W.cell? ((⟨g, 5, none⟩ : Addr).add j) = some u := by
  intro j u hu
  have hj := (List.getElem?_eq_some_iff.1 hu).1
  rw [edAll_len] at hj
  have hi : j / 2 < es.length := by omega
  obtain ⟨e, he⟩ : ∃ e, es[j / 2]? = some e := ⟨_, List.getElem?_eq_getElem hi⟩
  have hp : padE es (j / 2) = e := by unfold padE; rw [List.getD_eq_getElem?_getD, he]; rfl
  obtain ⟨c0, c1⟩ := h.atNext (i := j / 2) (by omega)
  rw [hp] at c0 c1
  rw [addr_plain]
  have h2 : j % 2 = 0 ∨ j % 2 = 1 := by omega
  rcases h2 with h2 | h2
  · have e1 : j / 2 * 2 + 0 = j := by omega
    have := edAll_at he 0 (by omega)
    rw [e1, hu] at this
    rw [show 5 + j = 5 + j / 2 * 2 by omega, c0, this]; rfl
  · have e1 : j / 2 * 2 + 1 = j := by omega
    have := edAll_at he 1 (by omega)
    rw [e1, hu] at this
    rw [show 5 + j = 5 + j / 2 * 2 + 1 by omega, c1, this]; rfl
section
variable {o : Oper} {b : Act} {W : World} {K : Act → World → Prop} {Q : Exit → Act → World → Prop}
theorem wp_appendLs (s x : Operand) (ho : o.op = .call { callee := .builtin .append, args := #[s, x], argTypes := #[84, 84] })
    {base g : Nat} {k : Int} {ch : Bool} {p : Ed} {n : Int} {es : List Ed} (hs : b.eval s = .slice none 0 0) (hx : b.eval x = .slice (some ⟨g, 5, none⟩) es.length 8)
    (hb : Blk W g 97 (knC k ch p n es)) (hl : es.length ≤ 8) (hbase : base ≤ W.heap.size)
    (h : ∀ v' W', LOwn base W' v' es → W.grownBy W' none → K (b.put o.dst v') W') : o.wp Try.prog b W K Q := by
  obtain ⟨i0, hi, hz0, hz1, hz2⟩ := info_parts link_info
  refine wp_append_own W s x 84 ho base 83 i0 _ 2 16 Try.underlying84 hi hz0 hz1 hz2 rfl (by decide) (.slice none 0 0) 0 [] hs (World.ownsRow_nil _ _ _ _)
    ⟨g, 5, none⟩ es.length 8 (edAll es) hx (by rw [edAll_len]) (told_news hb hl) (fun u hu => edAll_one es u hu) (by unfold maxLen; omega) (by omega) hbase (fun v' W' hr hg _ => h v' W' ?_ hg)
  show World.ownsRow _ _ _ _ _ _ _
  rw [Nat.zero_add, List.nil_append] at hr
  exact hr
theorem rv_sliceA {t1 t2 : Tmp} {g : Nat} {n : Nat} (hn : n ≤ 8) (ho : o.op = .slice 95 (.tmp t1) none (some (.tmp t2)) none) (h1 : b.eval (.tmp t1) = .pointer (some ⟨g, 5, none⟩)) (h2 : b.eval (.tmp t2) = .int .i64 (n : Int)) : (execOp b.eval o).run Try.prog W = .ok (.value (.slice (some ⟨g, 5, none⟩) n 8)) W := by
  obtain ⟨dst, op, type, pos, after, guard⟩ := o
  dsimp only at ho
  subst ho
  have hI : (n : Int) ≤ 8 := by omega
  have hI0 : (0 : Int) ≤ (n : Int) := by omega
  simp only [execOp, h1, h2, Option.map]
  go_simp
theorem rv_known3 {g : Nat} {t : Tmp} (ho : o.op = .fieldAddr 97 (.tmp t) 3) (h1 : b.eval (.tmp t) = .pointer (some ⟨g, 0, none⟩)) : (execOp b.eval o).run Try.prog W = .ok (.value (.pointer (some ⟨g, 4, none⟩))) W := by
  obtain ⟨dst, op, type, pos, after, guard⟩ := o
  dsimp only at ho
  subst ho
  simp only [execOp, h1]
  go_simp
theorem rv_known4 {g : Nat} {t : Tmp} (ho : o.op = .fieldAddr 97 (.tmp t) 4) (h1 : b.eval (.tmp t) = .pointer (some ⟨g, 0, none⟩)) : (execOp b.eval o).run Try.prog W = .ok (.value (.pointer (some ⟨g, 5, none⟩))) W := by
  obtain ⟨dst, op, type, pos, after, guard⟩ := o
  dsimp only at ho
  subst ho
  simp only [execOp, h1]
  go_simp
end
theorem six_set {W : World} {g : Nat} {t : TypeId} {c0 c1 c2 c3 c4 c5 : Value} (h : Blk W g t #[c0, c1, c2, c3, c4, c5]) (a0 a1 a2 a3 a4 a5 : Value) :
    Blk ((((((W.setCell ⟨g, 0, none⟩ a0).setCell ⟨g, 1, none⟩ a1).setCell ⟨g, 2, none⟩ a2).setCell ⟨g, 3, none⟩ a3).setCell ⟨g, 4, none⟩ a4).setCell ⟨g, 5, none⟩ a5) g t #[a0, a1, a2, a3, a4, a5] ∧
    W.grownBy ((((((W.setCell ⟨g, 0, none⟩ a0).setCell ⟨g, 1, none⟩ a1).setCell ⟨g, 2, none⟩ a2).setCell ⟨g, 3, none⟩ a3).setCell ⟨g, 4, none⟩ a4).setCell ⟨g, 5, none⟩ a5) (some g) := by
  have h0 : W.grownBy (W.setCell ⟨g, 0, none⟩ a0) (some g) := only_setCell (only_refl _ _) rfl _
  have b0 := h.set_ 0 a0
  generalize W.setCell ⟨g, 0, none⟩ a0 = W0 at *
  have h1 : W.grownBy (W0.setCell ⟨g, 1, none⟩ a1) (some g) := only_setCell h0 rfl _
  have b1 := b0.set_ 1 a1
  generalize W0.setCell ⟨g, 1, none⟩ a1 = W1 at *
  have h2 : W.grownBy (W1.setCell ⟨g, 2, none⟩ a2) (some g) := only_setCell h1 rfl _
  have b2 := b1.set_ 2 a2
  generalize W1.setCell ⟨g, 2, none⟩ a2 = W2 at *
  have h3 : W.grownBy (W2.setCell ⟨g, 3, none⟩ a3) (some g) := only_setCell h2 rfl _
  have b3 := b2.set_ 3 a3
  generalize W2.setCell ⟨g, 3, none⟩ a3 = W3 at *
  have h4 : W.grownBy (W3.setCell ⟨g, 4, none⟩ a4) (some g) := only_setCell h3 rfl _
  have b4 := b3.set_ 4 a4
  generalize W3.setCell ⟨g, 4, none⟩ a4 = W4 at *
  exact ⟨b4.set_ 5 a5, only_setCell h4 rfl _⟩
/-- What stands, step by step, as the Next are laid. -/
def TNx (X : World) (B : Nat) (es : List Ed) : Nat → (Tmp → Value) → World → Prop
  | 0, _, W => X.grownBy W none
  | 1, f, W => ∃ v', f 17 = v' ∧ LOwn X.heap.size W v' es ∧ X.grownBy W none
  | 2, _, W => ∃ v' W1, W = W1.setCell ⟨B, 5, none⟩ v' ∧ LOwn X.heap.size W1 v' es ∧ X.grownBy W1 none
  | _, _, _ => False
theorem told_results {tmps : Array Value} {W : World} {g : Nat} {x : Nd} {v : Value} (hp : tmps.getD 2 undef = .pointer (some ⟨g, 0, none⟩)) (hb : Blk W g 86 (ndCells x v)) :
    (results Try.f33 tmps).run Try.prog W = .ok (ndV x v) W := by
  have hp' : tmps[2]?.getD undef = .pointer (some ⟨g, 0, none⟩) := by simpa using hp
  have hs : (Try.prog.info? 86).map (·.size) = some 6 := by kernel_rfl
  simp [results, Try.results33, hp', asAddr, run_loadVar_row W g _ 86 _ _ _ hb Try.underlying86 rfl (by exact hs)]

set_option maxRecDepth 100000 in
set_option maxHeartbeats 2000000 in
theorem ctold_any (x : Nd) (hx : KN x) (w : World) :
    Calls Try.prog 33 #[knV x] w fun en w' => ∃ e, en = .returned (ndV x e) ∧ LnkO 0 w' e x.next ∧ w.grownBy w' none := by
  obtain ⟨kind, prio, chan, ⟨pa, pb⟩, next⟩ := x
  have h0 : prio = 0 := hx.prio
  subst h0
  have hlen : next.length ≤ 8 := hx.len
  have hI : (next.length : Int) ≤ 8 := by omega
  clear hx
  show Calls Try.prog 33 #[.agg (knC kind chan (pa, pb) (next.length : Int) next)] w _
  go_enter Try.func33, Try.ntmps33
  go_upto_region 1 with fail
  generalize hW1 : World.alloc _ _ = W1
  have hg1 : w.grownBy W1 none := by rw [← hW1]; exact only_alloc (only_alloc (only_refl _ _) _) _
  have hbk : Blk W1 w.heap.size 97 (knC kind chan (pa, pb) (next.length : Int) next) := by rw [← hW1]; exact (Blk.new w _ _).alloc _
  have hbr : Blk W1 (w.heap.size + 1) 86 (ndCells ⟨0, 0, false, (0, 0), []⟩ (.slice none 0 0)) := by rw [← hW1]; exact blk_at (by simp) _ _
  have hz : W1.heap.size = w.heap.size + 1 + 1 := by rw [← hW1]; simp
  have k0 := hbk.cell 0
  have k1 := hbk.cell 1
  have k2 := hbk.cell 2
  have k3 := hbk.cell 3
  have HBK := Lib.hid hbk
  have HBR := Lib.hid hbr
  have HG1 := Lib.hid hg1
  have HZ := Lib.hid hz
  clear hW1 hg1 hbk hbr hz
  go_upto_region 2 with fail
  generalize hW2 : World.alloc _ _ = W2
  have hg2 : W1.grownBy W2 none := by rw [← hW2]; exact only_alloc (only_refl _ _) _
  have hbc : Blk W2 W1.heap.size 86 (ndCells ⟨kind, 0, chan, (pa, pb), []⟩ (.slice none 0 0)) := by rw [← hW2]; exact Blk.new W1 _ _
  have HBC := Lib.hid hbc
  have HBK2 := Lib.hid (HBK.out.kept hg2)
  have HBR2 := Lib.hid (HBR.out.kept hg2)
  have HG2 := Lib.hid (only_trans HG1.out hg2)
  have HSZ := Lib.hid hg2.size
  clear hW2 hg2 hbc k0 k1 k2 k3 HBK HBR
  refine region_chainW (by kernel_rfl) (by kernel_rfl) (by kernel_rfl) [11, 12, 13, 14, 15, 16, 17, 18] (by kernel_rfl) (by kernel_rfl) (by decide)
    [(1, .pointer (some ⟨w.heap.size, 0, none⟩)), (3, .pointer (some ⟨W1.heap.size, 0, none⟩)), (11, .pointer (some ⟨W1.heap.size, 5, none⟩)), (12, .slice none 0 0), (13, .pointer (some ⟨w.heap.size, 5, none⟩)), (14, .pointer (some ⟨w.heap.size, 4, none⟩)), (15, .int .i64 (next.length : Int)), (16, .slice (some ⟨w.heap.size, 5, none⟩) next.length 8), (18, .pointer (some ⟨W1.heap.size, 5, none⟩))]
    ?h0 [6, 8] (by kernel_rfl) (by kernel_rfl) (by decide) (by kernel_rfl) (TNx W2 W1.heap.size next) ?hT ?reads ?steps (only_drew (only_refl _ _)) ?hQ
  case h0 =>
    intro p hp hn
    simp only [List.mem_cons, List.not_mem_nil, or_false] at hp
    rcases hp with rfl | rfl | rfl | rfl | rfl | rfl | rfl | rfl | rfl
    all_goals first | rfl | exact absurd (by dsimp only; decide) hn
  case hT =>
    intro j f g W' hj he
    match j, hj with
    | 0, hj => exact hj
    | 1, ⟨v', h1, h2⟩ => exact ⟨v', (he 0 6 _ 17 (by decide) rfl rfl rfl).symm.trans h1, h2⟩
    | 2, hj => exact hj
  case reads =>
    intro i o ho hn
    have hrd : ∀ j f W', j < 2 → TNx W2 W1.heap.size next j f W' → W2.grownBy W' none := by
      intro j f W' hj hT'
      match j, hj, hT' with
      | 0, _, hT' => exact hT'
      | 1, _, ⟨_, _, _, hg⟩ => exact hg
    have h9 : i = 0 ∨ i = 1 ∨ i = 2 ∨ i = 3 ∨ i = 4 ∨ i = 5 ∨ i = 7 := by
      have h1 := (Array.getElem?_eq_some_iff.1 ho).1
      simp only [List.size_toArray, List.length_cons, List.length_nil] at h1
      simp only [List.mem_cons, List.not_mem_nil, or_false] at hn
      omega
    rcases h9 with rfl | rfl | rfl | rfl | rfl | rfl | rfl
    · cases ho
      exact ⟨11, _, rfl, rfl, fun j f b W' hj hT' henv => rc_class4 rfl (henv 3 _ (by simp [Op.operands]) rfl)⟩
    · cases ho
      exact ⟨12, _, rfl, rfl, fun j f b W' hj hT' henv => rc_loadLinks rfl (henv 11 _ (by simp [Op.operands]) rfl) ((HBC.out.kept (hrd j f W' hj hT')).cell 5)⟩
    · cases ho
      exact ⟨13, _, rfl, rfl, fun j f b W' hj hT' henv => rv_known4 rfl (henv 1 _ (by simp [Op.operands]) rfl)⟩
    · cases ho
      exact ⟨14, _, rfl, rfl, fun j f b W' hj hT' henv => rv_known3 rfl (henv 1 _ (by simp [Op.operands]) rfl)⟩
    · cases ho
      exact ⟨15, _, rfl, rfl, fun j f b W' hj hT' henv => rc_loadInt rfl (henv 14 _ (by simp [Op.operands]) rfl) ((HBK2.out.kept (hrd j f W' hj hT')).cell 4)⟩
    · cases ho
      exact ⟨16, _, rfl, rfl, fun j f b W' hj hT' henv => rv_sliceA hlen rfl (henv 13 _ (by simp [Op.operands]) rfl) (henv 15 _ (by simp [Op.operands]) rfl)⟩
    · cases ho
      exact ⟨18, _, rfl, rfl, fun j f b W' hj hT' henv => rc_class4 rfl (henv 3 _ (by simp [Op.operands]) rfl)⟩
  case steps =>
    intro j i o hj ho
    have h4 : j = 0 ∨ j = 1 := by
      have := (List.getElem?_eq_some_iff.1 hj).1
      simp only [List.length_cons, List.length_nil] at this
      omega
    rcases h4 with rfl | rfl
    · cases hj
      cases ho
      refine ⟨fun t e => by cases e; rfl, fun b W' hb hT1 henv => ?_⟩
      have hg : W2.grownBy W' none := hT1
      exact wp_appendLs (.tmp 12) (.tmp 16) rfl (henv 12 _ (by simp [Op.operands, Call.operands]) rfl) (henv 16 _ (by simp [Op.operands, Call.operands]) rfl) (HBK2.out.kept hg) hlen hg.size (fun v' W5 ho5 hg5 => ⟨_, rfl, v', act_put_atC _ (by rw [hb]; show _ < 20; decide), ho5, only_trans hg hg5⟩)
    · cases hj
      cases ho
      refine ⟨fun t e => (by cases e), fun b W' hb hT1 henv => ?_⟩
      obtain ⟨v', h1, h2, hg⟩ := hT1
      obtain ⟨A5, c5, rfl⟩ := h2.len
      exact wp_storeLs rfl (henv 18 _ (by simp [Op.operands]) rfl) h1 (HBC.out.kept hg) ⟨undef, rfl, _, W', rfl, h2, hg⟩
  case hQ =>
    intro vs W' hv hT2
    obtain ⟨v', W4, rfl, h2, hg⟩ := hT2
    obtain ⟨A5, c5, rfl⟩ := h2.len
    have hbc := (HBC.out.kept hg).set_ 5 (.slice A5 next.length c5)
    have hbr := (HBR2.out.kept hg).far (p := ⟨W1.heap.size, 5, none⟩) (by show w.heap.size + 1 ≠ W1.heap.size; rw [HZ.out]; omega) (.slice A5 next.length c5)
    have hgr := only_setNew (only_trans HG2.out hg) (p := ⟨W1.heap.size, 5, none⟩) (by show w.heap.size ≤ W1.heap.size; rw [HZ.out]; omega) (.slice A5 next.length c5)
    have hln : LnkO 0 (W4.setCell ⟨W1.heap.size, 5, none⟩ (.slice A5 next.length c5)) (.slice A5 next.length c5) next :=
      ((h2.base_ (Nat.zero_le _)).edges (by omega)).grown (only_setCell (only_refl _ _) (p := ⟨W1.heap.size, 5, none⟩) rfl _) (fun g e => by
        injection e with e
        subst e
        exact ⟨Nat.zero_le _, _, _, HBC.out.kept hg, by decide⟩)
    simp only [List.foldl_cons, List.foldl_nil, List.setIfInBounds_toArray, List.set_cons_zero, List.set_cons_succ]
    have c0 := hbc.cell 0
    have c1 := hbc.cell 1
    have c2 := hbc.cell 2
    have c3 := hbc.cell 3
    have c4 := hbc.cell 4
    have c5' := hbc.cell 5
    have r0 := hbr.cell 0
    have r1 := hbr.cell 1
    have r2 := hbr.cell 2
    have r3 := hbr.cell 3
    have r4 := hbr.cell 4
    have r5 := hbr.cell 5
    have f0 := hbr.frozen 0
    have f1 := hbr.frozen 1
    have f2 := hbr.frozen 2
    have f3 := hbr.frozen 3
    have f4 := hbr.frozen 4
    have f5 := hbr.frozen 5
    have HBR3 := Lib.hid hbr
    have HGR := Lib.hid hgr
    have HLN := Lib.hid hln
    clear hv h2 hg hbc hbr hgr hln
    generalize World.setCell _ _ _ = W9 at *
    go_wp2_with fail
    obtain ⟨hb9, hg9⟩ := six_set HBR3.out (.int .i64 kind) (.int .i64 0) (.bool chan) (.int .i64 pa) (.int .i64 pb) (.slice A5 next.length c5)
    refine bodyPost_ret (told_results (x := ⟨kind, 0, chan, (pa, pb), next⟩) (v := .slice A5 next.length c5) rfl hb9) rfl ?_
    refine ⟨_, rfl, HLN.out.grown hg9 (fun g e => ?_), only_new HGR.out hg9 (Nat.le_succ _)⟩
    injection e with e
    subst e
    exact ⟨Nat.zero_le _, _, _, HBR3.out, by decide⟩
end Go.Proofs.Ytmhbmeckdbdhpaa

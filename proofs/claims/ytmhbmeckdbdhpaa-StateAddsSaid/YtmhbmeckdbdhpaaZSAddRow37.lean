/- Texts joined for the claim's sake: CTld, DHalf, DTab. -/
import Derived.Test.YtmhbmeckdbdhpaaZSAddRow26
import Derived.Test.YtmhbmeckdbdhpaaZSAddRow28
import Derived.Test.YtmhbmeckdbdhpaaZSAddRow35
import Derived.Test.YtmhbmeckdbdhpaaZSAddRow21
import Derived.Test.YtmhbmeckdbdhpaaZSAddRow36
import Derived.Test.YtmhbmeckdbdhpaaZSAddRow30
import Derived.WalkKit
import Derived.OwnWalkIn
import Derived.TacticsInMore
import Derived.LoopNIn
import Derived.LoopIn
import Derived.Test.YtmhbmeckdbdhpaaZSAddRow20
import Derived.Test.YtmhbmeckdbdhpaaZSAddRow32
import Derived.Test.YtmhbmeckdbdhpaaZSAddRow6
import Derived.Test.YtmhbmeckdbdhpaaZSAddRow7
import Derived.Sort.CutIn
import Derived.Shelf.RegionOpen
namespace Go.Proofs.Ytmhbmeckdbdhpaa
open Go.RowKit Go.Shelf

theorem told_news {W : World} {g : Nat} {t : TypeId} {k : Int} {ch : Bool} {p : Ed} {n : Int} {es : List Ed} (h : Blk W g t (knC k ch p n es)) (hl : es.length ≤ 8) : ∀ j u, (edAll es)[j]? = some u → W.cell? ((⟨g, 5, none⟩ : Addr).add j) = some u := by
  intro j u hu
  have hj := (List.getElem?_eq_some_iff.1 hu).1
  rw [edAll_len] at hj
  have hi : j / 2 < es.length := by omega
  obtain ⟨e, he⟩ : ∃ e, es[j / 2]? = some e := ⟨_, List.getElem?_eq_getElem hi⟩
  have hp : padE es (j / 2) = e := by unfold padE; rw [List.getD_eq_getElem?_getD, he]; rfl
  obtain ⟨c0, c1⟩ := h.atNext (i := j / 2) (by omega)
  rw [hp] at c0 c1
  rw [addr_plain]
  have h2 : j % 2 = 0 ∨ j % 2 = 1 := by omega
  rcases h2 with h2 | h2
  · have e1 : j / 2 * 2 + 0 = j := by omega
    have := edAll_at he 0 (by omega)
    rw [e1, hu] at this
    rw [show 5 + j = 5 + j / 2 * 2 by omega, c0, this]; rfl
  · have e1 : j / 2 * 2 + 1 = j := by omega
    have := edAll_at he 1 (by omega)
    rw [e1, hu] at this
    rw [show 5 + j = 5 + j / 2 * 2 + 1 by omega, c1, this]; rfl
section
variable {o : Oper} {b : Act} {W : World} {K : Act → World → Prop} {Q : Exit → Act → World → Prop}
theorem wp_appendLs (s x : Operand) (ho : o.op = .call { callee := .builtin .append, args := #[s, x], argTypes := #[84, 84] })
    {base g : Nat} {k : Int} {ch : Bool} {p : Ed} {n : Int} {es : List Ed} (hs : b.eval s = .slice none 0 0) (hx : b.eval x = .slice (some ⟨g, 5, none⟩) es.length 8)
    (hb : Blk W g 97 (knC k ch p n es)) (hl : es.length ≤ 8) (hbase : base ≤ W.heap.size)
    (h : ∀ v' W', LOwn base W' v' es → W.grownBy W' none → K (b.put o.dst v') W') : o.wp Try.prog b W K Q := by
  obtain ⟨i0, hi, hz0, hz1, hz2⟩ := info_parts link_info
  refine wp_append_own W s x 84 ho base 83 i0 _ 2 16 Try.underlying84 hi hz0 hz1 hz2 rfl (by decide) (.slice none 0 0) 0 [] hs (World.ownsRow_nil _ _ _ _)
    ⟨g, 5, none⟩ es.length 8 (edAll es) hx (by rw [edAll_len]) (told_news hb hl) (fun u hu => edAll_one es u hu) (by unfold maxLen; omega) (by omega) hbase (fun v' W' hr hg _ => h v' W' ?_ hg)
  show World.ownsRow _ _ _ _ _ _ _
  rw [Nat.zero_add, List.nil_append] at hr
  exact hr
theorem rv_sliceA {t1 t2 : Tmp} {g : Nat} {n : Nat} (hn : n ≤ 8) (ho : o.op = .slice 95 (.tmp t1) none (some (.tmp t2)) none) (h1 : b.eval (.tmp t1) = .pointer (some ⟨g, 5, none⟩)) (h2 : b.eval (.tmp t2) = .int .i64 (n : Int)) : (execOp b.eval o).run Try.prog W = .ok (.value (.slice (some ⟨g, 5, none⟩) n 8)) W := by
  obtain ⟨dst, op, type, pos, after, guard⟩ := o
  dsimp only at ho
  subst ho
  have hI : (n : Int) ≤ 8 := by omega
  have hI0 : (0 : Int) ≤ (n : Int) := by omega
  simp only [execOp, h1, h2, Option.map]
  go_simp
theorem rv_known3 {g : Nat} {t : Tmp} (ho : o.op = .fieldAddr 97 (.tmp t) 3) (h1 : b.eval (.tmp t) = .pointer (some ⟨g, 0, none⟩)) : (execOp b.eval o).run Try.prog W = .ok (.value (.pointer (some ⟨g, 4, none⟩))) W := by
  obtain ⟨dst, op, type, pos, after, guard⟩ := o
  dsimp only at ho
  subst ho
  simp only [execOp, h1]
  go_simp
theorem rv_known4 {g : Nat} {t : Tmp} (ho : o.op = .fieldAddr 97 (.tmp t) 4) (h1 : b.eval (.tmp t) = .pointer (some ⟨g, 0, none⟩)) : (execOp b.eval o).run Try.prog W = .ok (.value (.pointer (some ⟨g, 5, none⟩))) W := by
  obtain ⟨dst, op, type, pos, after, guard⟩ := o
  dsimp only at ho
  subst ho
  simp only [execOp, h1]
  go_simp
end
theorem six_set {W : World} {g : Nat} {t : TypeId} {c0 c1 c2 c3 c4 c5 : Value} (h : Blk W g t #[c0, c1, c2, c3, c4, c5]) (a0 a1 a2 a3 a4 a5 : Value) :
    Blk ((((((W.setCell ⟨g, 0, none⟩ a0).setCell ⟨g, 1, none⟩ a1).setCell ⟨g, 2, none⟩ a2).setCell ⟨g, 3, none⟩ a3).setCell ⟨g, 4, none⟩ a4).setCell ⟨g, 5, none⟩ a5) g t #[a0, a1, a2, a3, a4, a5] ∧
    W.grownBy ((((((W.setCell ⟨g, 0, none⟩ a0).setCell ⟨g, 1, none⟩ a1).setCell ⟨g, 2, none⟩ a2).setCell ⟨g, 3, none⟩ a3).setCell ⟨g, 4, none⟩ a4).setCell ⟨g, 5, none⟩ a5) (some g) := by
  have h0 : W.grownBy (W.setCell ⟨g, 0, none⟩ a0) (some g) := only_setCell (only_refl _ _) rfl _
  have b0 := h.set_ 0 a0
  generalize W.setCell ⟨g, 0, none⟩ a0 = W0 at *
  have h1 : W.grownBy (W0.setCell ⟨g, 1, none⟩ a1) (some g) := only_setCell h0 rfl _
  have b1 := b0.set_ 1 a1
  generalize W0.setCell ⟨g, 1, none⟩ a1 = W1 at *
  have h2 : W.grownBy (W1.setCell ⟨g, 2, none⟩ a2) (some g) := only_setCell h1 rfl _
  have b2 := b1.set_ 2 a2
  generalize W1.setCell ⟨g, 2, none⟩ a2 = W2 at *
  have h3 : W.grownBy (W2.setCell ⟨g, 3, none⟩ a3) (some g) := only_setCell h2 rfl _
  have b3 := b2.set_ 3 a3
  generalize W2.setCell ⟨g, 3, none⟩ a3 = W3 at *
  have h4 : W.grownBy (W3.setCell ⟨g, 4, none⟩ a4) (some g) := only_setCell h3 rfl _
  have b4 := b3.set_ 4 a4
  generalize W3.setCell ⟨g, 4, none⟩ a4 = W4 at *
  exact ⟨b4.set_ 5 a5, only_setCell h4 rfl _⟩
/-- What stands, step by step, as the Next are laid. -/
def TNx (X : World) (B : Nat) (es : List Ed) : Nat → (Tmp → Value) → World → Prop
  | 0, _, W => X.grownBy W none
  | 1, f, W => ∃ v', f 17 = v' ∧ LOwn X.heap.size W v' es ∧ X.grownBy W none
  | 2, _, W => ∃ v' W1, W = W1.setCell ⟨B, 5, none⟩ v' ∧ LOwn X.heap.size W1 v' es ∧ X.grownBy W1 none
  | _, _, _ => False
theorem told_results {tmps : Array Value} {W : World} {g : Nat} {x : Nd} {v : Value} (hp : tmps.getD 2 undef = .pointer (some ⟨g, 0, none⟩)) (hb : Blk W g 86 (ndCells x v)) :
    (results Try.f33 tmps).run Try.prog W = .ok (ndV x v) W := by
  have hp' : tmps[2]?.getD undef = .pointer (some ⟨g, 0, none⟩) := by simpa using hp
  have hs : (Try.prog.info? 86).map (·.size) = some 6 := by kernel_rfl
  simp [results, Try.results33, hp', asAddr, run_loadVar_row W g _ 86 _ _ _ hb Try.underlying86 rfl (by exact hs)]

set_option maxRecDepth 100000 in
set_option maxHeartbeats 2000000 in
theorem ctold_any (x : Nd) (hx : KN x) (w : World) :
    Calls Try.prog 33 #[knV x] w fun en w' => ∃ e, en = .returned (ndV x e) ∧ LnkO 0 w' e x.next ∧ w.grownBy w' none := by
  obtain ⟨kind, prio, chan, ⟨pa, pb⟩, next⟩ := x
  have h0 : prio = 0 := hx.prio
  subst h0
  have hlen : next.length ≤ 8 := hx.len
  have hI : (next.length : Int) ≤ 8 := by omega
  clear hx
  show Calls Try.prog 33 #[.agg (knC kind chan (pa, pb) (next.length : Int) next)] w _
  go_enter Try.func33, Try.ntmps33
  go_upto_region 1 with fail
  generalize hW1 : World.alloc _ _ = W1
  have hg1 : w.grownBy W1 none := by rw [← hW1]; exact only_alloc (only_alloc (only_refl _ _) _) _
  have hbk : Blk W1 w.heap.size 97 (knC kind chan (pa, pb) (next.length : Int) next) := by rw [← hW1]; exact (Blk.new w _ _).alloc _
  have hbr : Blk W1 (w.heap.size + 1) 86 (ndCells ⟨0, 0, false, (0, 0), []⟩ (.slice none 0 0)) := by rw [← hW1]; exact blk_at (by simp) _ _
  have hz : W1.heap.size = w.heap.size + 1 + 1 := by rw [← hW1]; simp
  have k0 := hbk.cell 0
  have k1 := hbk.cell 1
  have k2 := hbk.cell 2
  have k3 := hbk.cell 3
  have HBK := Lib.hid hbk
  have HBR := Lib.hid hbr
  have HG1 := Lib.hid hg1
  have HZ := Lib.hid hz
  clear hW1 hg1 hbk hbr hz
  go_upto_region 2 with fail
  generalize hW2 : World.alloc _ _ = W2
  have hg2 : W1.grownBy W2 none := by rw [← hW2]; exact only_alloc (only_refl _ _) _
  have hbc : Blk W2 W1.heap.size 86 (ndCells ⟨kind, 0, chan, (pa, pb), []⟩ (.slice none 0 0)) := by rw [← hW2]; exact Blk.new W1 _ _
  have HBC := Lib.hid hbc
  have HBK2 := Lib.hid (HBK.out.kept hg2)
  have HBR2 := Lib.hid (HBR.out.kept hg2)
  have HG2 := Lib.hid (only_trans HG1.out hg2)
  have HSZ := Lib.hid hg2.size
  clear hW2 hg2 hbc k0 k1 k2 k3 HBK HBR
  refine region_chainW (by kernel_rfl) (by kernel_rfl) (by kernel_rfl) [11, 12, 13, 14, 15, 16, 17, 18] (by kernel_rfl) (by kernel_rfl) (by decide)
    [(1, .pointer (some ⟨w.heap.size, 0, none⟩)), (3, .pointer (some ⟨W1.heap.size, 0, none⟩)), (11, .pointer (some ⟨W1.heap.size, 5, none⟩)), (12, .slice none 0 0), (13, .pointer (some ⟨w.heap.size, 5, none⟩)), (14, .pointer (some ⟨w.heap.size, 4, none⟩)), (15, .int .i64 (next.length : Int)), (16, .slice (some ⟨w.heap.size, 5, none⟩) next.length 8), (18, .pointer (some ⟨W1.heap.size, 5, none⟩))]
    ?h0 [6, 8] (by kernel_rfl) (by kernel_rfl) (by decide) (by kernel_rfl) (TNx W2 W1.heap.size next) ?hT ?reads ?steps (only_drew (only_refl _ _)) ?hQ
  case h0 =>
    intro p hp hn
    simp only [List.mem_cons, List.not_mem_nil, or_false] at hp
    rcases hp with rfl | rfl | rfl | rfl | rfl | rfl | rfl | rfl | rfl
    all_goals first | rfl | exact absurd (by dsimp only; decide) hn
  case hT =>
    intro j f g W' hj he
    match j, hj with
    | 0, hj => exact hj
    | 1, ⟨v', h1, h2⟩ => exact ⟨v', (he 0 6 _ 17 (by decide) rfl rfl rfl).symm.trans h1, h2⟩
    | 2, hj => exact hj
  case reads =>
    intro i o ho hn
    have hrd : ∀ j f W', j < 2 → TNx W2 W1.heap.size next j f W' → W2.grownBy W' none := by
      intro j f W' hj hT'
      match j, hj, hT' with
      | 0, _, hT' => exact hT'
      | 1, _, ⟨_, _, _, hg⟩ => exact hg
    have h9 : i = 0 ∨ i = 1 ∨ i = 2 ∨ i = 3 ∨ i = 4 ∨ i = 5 ∨ i = 7 := by
      have h1 := (Array.getElem?_eq_some_iff.1 ho).1
      simp only [List.size_toArray, List.length_cons, List.length_nil] at h1
      simp only [List.mem_cons, List.not_mem_nil, or_false] at hn
      omega
    rcases h9 with rfl | rfl | rfl | rfl | rfl | rfl | rfl
    · cases ho
      exact ⟨11, _, rfl, rfl, fun j f b W' hj hT' henv => rc_class4 rfl (henv 3 _ (by simp [Op.operands]) rfl)⟩
    · cases ho
      exact ⟨12, _, rfl, rfl, fun j f b W' hj hT' henv => rc_loadLinks rfl (henv 11 _ (by simp [Op.operands]) rfl) ((HBC.out.kept (hrd j f W' hj hT')).cell 5)⟩
    · cases ho
      exact ⟨13, _, rfl, rfl, fun j f b W' hj hT' henv => rv_known4 rfl (henv 1 _ (by simp [Op.operands]) rfl)⟩
    · cases ho
      exact ⟨14, _, rfl, rfl, fun j f b W' hj hT' henv => rv_known3 rfl (henv 1 _ (by simp [Op.operands]) rfl)⟩
    · cases ho
      exact ⟨15, _, rfl, rfl, fun j f b W' hj hT' henv => rc_loadInt rfl (henv 14 _ (by simp [Op.operands]) rfl) ((HBK2.out.kept (hrd j f W' hj hT')).cell 4)⟩
    · cases ho
      exact ⟨16, _, rfl, rfl, fun j f b W' hj hT' henv => rv_sliceA hlen rfl (henv 13 _ (by simp [Op.operands]) rfl) (henv 15 _ (by simp [Op.operands]) rfl)⟩
    · cases ho
      exact ⟨18, _, rfl, rfl, fun j f b W' hj hT' henv => rc_class4 rfl (henv 3 _ (by simp [Op.operands]) rfl)⟩
  case steps =>
    intro j i o hj ho
    have h4 : j = 0 ∨ j = 1 := by
      have := (List.getElem?_eq_some_iff.1 hj).1
      simp only [List.length_cons, List.length_nil] at this
      omega
    rcases h4 with rfl | rfl
    · cases hj
      cases ho
      refine ⟨fun t e => by cases e; rfl, fun b W' hb hT1 henv => ?_⟩
      have hg : W2.grownBy W' none := hT1
      exact wp_appendLs (.tmp 12) (.tmp 16) rfl (henv 12 _ (by simp [Op.operands, Call.operands]) rfl) (henv 16 _ (by simp [Op.operands, Call.operands]) rfl) (HBK2.out.kept hg) hlen hg.size (fun v' W5 ho5 hg5 => ⟨_, rfl, v', act_put_atC _ (by rw [hb]; show _ < 20; decide), ho5, only_trans hg hg5⟩)
    · cases hj
      cases ho
      refine ⟨fun t e => (by cases e), fun b W' hb hT1 henv => ?_⟩
      obtain ⟨v', h1, h2, hg⟩ := hT1
      obtain ⟨A5, c5, rfl⟩ := h2.len
      exact wp_storeLs rfl (henv 18 _ (by simp [Op.operands]) rfl) h1 (HBC.out.kept hg) ⟨undef, rfl, _, W', rfl, h2, hg⟩
  case hQ =>
    intro vs W' hv hT2
    obtain ⟨v', W4, rfl, h2, hg⟩ := hT2
    obtain ⟨A5, c5, rfl⟩ := h2.len
    have hbc := (HBC.out.kept hg).set_ 5 (.slice A5 next.length c5)
    have hbr := (HBR2.out.kept hg).far (p := ⟨W1.heap.size, 5, none⟩) (by show w.heap.size + 1 ≠ W1.heap.size; rw [HZ.out]; omega) (.slice A5 next.length c5)
    have hgr := only_setNew (only_trans HG2.out hg) (p := ⟨W1.heap.size, 5, none⟩) (by show w.heap.size ≤ W1.heap.size; rw [HZ.out]; omega) (.slice A5 next.length c5)
    have hln : LnkO 0 (W4.setCell ⟨W1.heap.size, 5, none⟩ (.slice A5 next.length c5)) (.slice A5 next.length c5) next :=
      ((h2.base_ (Nat.zero_le _)).edges (by omega)).grown (only_setCell (only_refl _ _) (p := ⟨W1.heap.size, 5, none⟩) rfl _) (fun g e => by
        injection e with e
        subst e
        exact ⟨Nat.zero_le _, _, _, HBC.out.kept hg, by decide⟩)
    simp only [List.foldl_cons, List.foldl_nil, List.setIfInBounds_toArray, List.set_cons_zero, List.set_cons_succ]
    have c0 := hbc.cell 0
    have c1 := hbc.cell 1
    have c2 := hbc.cell 2
    have c3 := hbc.cell 3
    have c4 := hbc.cell 4
    have c5' := hbc.cell 5
    have r0 := hbr.cell 0
    have r1 := hbr.cell 1
    have r2 := hbr.cell 2
    have r3 := hbr.cell 3
    have r4 := hbr.cell 4
    have r5 := hbr.cell 5
    have f0 := hbr.frozen 0
    have f1 := hbr.frozen 1
    have f2 := hbr.frozen 2
    have f3 := hbr.frozen 3
    have f4 := hbr.frozen 4
    have f5 := hbr.frozen 5
    have HBR3 := Lib.hid hbr
    have HGR := Lib.hid hgr
    have HLN := Lib.hid hln
    clear hv h2 hg hbc hbr hgr hln
    generalize World.setCell _ _ _ = W9 at *
    go_wp2_with fail
    obtain ⟨hb9, hg9⟩ := six_set HBR3.out (.int .i64 kind) (.int .i64 0) (.bool chan) (.int .i64 pa) (.int .i64 pb) (.slice A5 next.length c5)
    refine bodyPost_ret (told_results (x := ⟨kind, 0, chan, (pa, pb), next⟩) (v := .slice A5 next.length c5) rfl hb9) rfl ?_
    refine ⟨_, rfl, HLN.out.grown hg9 (fun g e => ?_), only_new HGR.out hg9 (Nat.le_succ _)⟩
    injection e with e
    subst e
    exact ⟨Nat.zero_le _, _, _, HBR3.out, by decide⟩
end Go.Proofs.Ytmhbmeckdbdhpaa

namespace Go.Proofs.Ytmhbmeckdbdhpaa
open Go.RowKit Go.Shelf
attribute [local go_sem] Oper.semAt_some

/-- The kinds as they are, and their duals. -/
abbrev row0 : Array Value := #[.int .i64 0, .int .i64 1, .int .i64 2, .int .i64 3, .int .i64 4, .int .i64 5]
abbrev row1 : Array Value := #[.int .i64 0, .int .i64 2, .int .i64 1, .int .i64 4, .int .i64 3, .int .i64 5]
abbrev rows2 : Array Value := #[.int .i64 0, .int .i64 1, .int .i64 2, .int .i64 3, .int .i64 4, .int .i64 5, .int .i64 0, .int .i64 2, .int .i64 1, .int .i64 4, .int .i64 3, .int .i64 5]
theorem halves_any (N : Nat) (w : World) : Calls Try.prog 66 #[.int .i64 (N : Int)] w fun e w' => e = .returned (.func (.func 74) #[] #[.pointer (some ⟨w.heap.size + 1, 0, none⟩), .pointer (some ⟨w.heap.size, 0, none⟩)]) ∧ w' = (w.alloc (.cells #[.int .i64 (N : Int)] 3)).alloc (.cells rows2 140) := by
  have hmf : ∀ (fn : Fn) (first cap : Array Value) (w : World), (Instr.makeFunc fn first cap).run Try.prog w = .ok (.func fn first cap) w := fun _ _ _ _ => rfl
  go_enter Try.func66, Try.ntmps66
  go_wp2
  go_ret
  exact ⟨by simp, rfl⟩

/-- What is handed over: a half's row, how much further. -/
def hEnc (x : Nat × Nat) : Array Value := #[turnV x.1 x.2]
def hT (bk bn N : Nat) (_ : List (Nat × Nat)) (W : World) : Prop := Blk W bk 140 rows2 ∧ Blk W bn 3 #[.int .i64 (N : Int)]
def hTm (bk bn N : Nat) (pre : List (Nat × Nat)) (x : Nat × Nat) (W : World) : Prop := hT bk bn N pre W ∧ ((pre.length = 0 ∧ Blk W x.1 139 row0 ∧ Blk W x.2 3 #[.int .i64 ((0 : Nat) : Int)]) ∨ (pre.length = 1 ∧ Blk W x.1 139 row1 ∧ Blk W x.2 3 #[.int .i64 (N : Int)]))

set_option maxRecDepth 100000 in
set_option maxHeartbeats 2000000 in
theorem halves_hands (bk bn N : Nat) (hN : N ≤ 1000) :
    Hands Fence.wide 2 Try.prog 74 #[.pointer (some ⟨bk, 0, none⟩), .pointer (some ⟨bn, 0, none⟩)] hEnc (fun X Y => X.grownBy Y none) (hT bk bn N) (hTm bk bn N) (fun xs => xs.length = 2) := fun l J Jx W hJ hY h0 ⟨hb, hn⟩ => by
  refine callsIn_of_wp Try.func74 rfl trivial ?_ rfl
  simp only [Try.ntmps74, List.size_toArray, List.length_cons, List.length_nil, Nat.reduceAdd, Nat.reduceSub, Array.replicate_succ, Array.replicate_zero, List.push_toArray, List.append_toArray, List.nil_append, List.cons_append]
  have hi0 : ∀ w, (Instr.index 140 (.agg #[.int .i64 0, .int .i64 1, .int .i64 2, .int .i64 3, .int .i64 4, .int .i64 5, .int .i64 0, .int .i64 2, .int .i64 1, .int .i64 4, .int .i64 3, .int .i64 5]) (.int .i64 0)).run Try.prog w = .ok (.agg #[.int .i64 0, .int .i64 1, .int .i64 2, .int .i64 3, .int .i64 4, .int .i64 5]) w := fun w => by kernel_rfl
  have hi1 : ∀ w, (Instr.index 140 (.agg #[.int .i64 0, .int .i64 1, .int .i64 2, .int .i64 3, .int .i64 4, .int .i64 5, .int .i64 0, .int .i64 2, .int .i64 1, .int .i64 4, .int .i64 3, .int .i64 5]) (.int .i64 1)).run Try.prog w = .ok (.agg #[.int .i64 0, .int .i64 2, .int .i64 1, .int .i64 4, .int .i64 3, .int .i64 5]) w := fun w => by kernel_rfl
  have HB := Lib.hid hb
  have HN := Lib.hid hn
  have HY := Lib.hid hY
  have HJ := Lib.hid hJ
  have H0 := Lib.hid h0
  have c0 := hb.cell 0
  have c1 := hb.cell 1
  have c2 := hb.cell 2
  have c3 := hb.cell 3
  have c4 := hb.cell 4
  have c5 := hb.cell 5
  have c6 := hb.cell 6
  have c7 := hb.cell 7
  have c8 := hb.cell 8
  have c9 := hb.cell 9
  have c10 := hb.cell 10
  have c11 := hb.cell 11
  clear hb hn hY hJ h0
  gi_wp2_with fail
  gi_loopw [7] (fun i wr => ∃ xs : List (Nat × Nat), xs.length ≤ 2 ∧ i = .int .i64 (xs.length : Int) ∧ J xs wr ∧ hT bk bn N xs wr) (fun i _ => 2 - (intOf i).toNat)
  case atStart => exact ⟨[], by decide, rfl, H0.out, HB.out, HN.out⟩
  case round =>
    obtain ⟨xs, hk, rfl, hj, ht⟩ := hrel
    obtain ⟨hb, hn⟩ := ht
    have n0 := hn.cell 0
    have hbk := hb.lt
    have hbn := hn.lt
    have h3 : xs.length = 0 ∨ xs.length = 1 ∨ xs.length = 2 := by omega
    rcases h3 with h3 | h3 | h3
    · rw [h3]
      have hgr : wr.grownBy (((wr.alloc (.cells #[.int .i64 0, .int .i64 1, .int .i64 2, .int .i64 3, .int .i64 4, .int .i64 5] 139)).alloc (.cells #[.int .i64 0, .int .i64 1, .int .i64 2, .int .i64 3, .int .i64 4, .int .i64 5] 139)).alloc (.cells #[.int .i64 0] 3)) none := only_alloc (only_alloc (only_alloc (only_refl _ _) _) _) _
      obtain ⟨fn, tmps, assign, body, hy, hR⟩ := HY.out xs (wr.heap.size + 1, wr.heap.size + 1 + 1) (((wr.alloc (.cells #[.int .i64 0, .int .i64 1, .int .i64 2, .int .i64 3, .int .i64 4, .int .i64 5] 139)).alloc (.cells #[.int .i64 0, .int .i64 1, .int .i64 2, .int .i64 3, .int .i64 4, .int .i64 5] 139)).alloc (.cells #[.int .i64 0] 3)) (HJ.out _ _ _ hj hgr)
        ⟨⟨hb.kept hgr, hn.kept hgr⟩, .inl ⟨h3, (blk_at (by simp) _ _).alloc _, blk_at (by simp) _ _⟩⟩
      simp only [hEnc] at hy
      have H3 := Lib.hid h3
      clear hj h3 hk HB HN H0 hgr
      gi_wp2_with (refine ⟨trivial, ?_⟩; gi_at_call 75; go_must (refine (callsIn_wide.2 (turner_any #[.int .i64 0, .int .i64 1, .int .i64 2, .int .i64 3, .int .i64 4, .int .i64 5] 0 _ ⟨_, _, _, _, _, _, rfl⟩)).mono ?_; rintro e w' ⟨rfl, rfl⟩))
      refine hR.mono ?_
      rintro e W3 (⟨rfl, hJ3, hT3⟩ | ⟨rfl, hJ3⟩)
      · have HJ3 := Lib.hid hJ3
        have HT3 := Lib.hid hT3
        clear hJ3 hT3 hy hR
        gi_wp2_with fail
        go_roundw
        case rel => exact ⟨xs ++ [(wr.heap.size + 1, wr.heap.size + 1 + 1)], by rw [List.length_append, H3.out, List.length_singleton]; decide, by rw [List.length_append, H3.out]; rfl, HJ3.out, HT3.out⟩
        case measure => simp [intOf]
      · have HX := Lib.hid hJ3
        clear hJ3 hy hR
        gi_wp2_with fail
        refine bodyPost_ret (results_none rfl _ _ _) rfl ?_
        exact ⟨⟨_, rfl⟩, .inr ⟨_, HX.out⟩⟩
    · rw [h3]
      have hgr : wr.grownBy (((wr.alloc (.cells #[.int .i64 0, .int .i64 2, .int .i64 1, .int .i64 4, .int .i64 3, .int .i64 5] 139)).alloc (.cells #[.int .i64 0, .int .i64 2, .int .i64 1, .int .i64 4, .int .i64 3, .int .i64 5] 139)).alloc (.cells #[.int .i64 (N : Int)] 3)) none := only_alloc (only_alloc (only_alloc (only_refl _ _) _) _) _
      obtain ⟨fn, tmps, assign, body, hy, hR⟩ := HY.out xs (wr.heap.size + 1, wr.heap.size + 1 + 1) (((wr.alloc (.cells #[.int .i64 0, .int .i64 2, .int .i64 1, .int .i64 4, .int .i64 3, .int .i64 5] 139)).alloc (.cells #[.int .i64 0, .int .i64 2, .int .i64 1, .int .i64 4, .int .i64 3, .int .i64 5] 139)).alloc (.cells #[.int .i64 (N : Int)] 3)) (HJ.out _ _ _ hj hgr)
        ⟨⟨hb.kept hgr, hn.kept hgr⟩, .inr ⟨h3, (blk_at (by simp) _ _).alloc _, blk_at (by simp) _ _⟩⟩
      simp only [hEnc] at hy
      have H3 := Lib.hid h3
      clear hj h3 hk HB HN H0 hgr
      gi_wp2_with (refine ⟨trivial, ?_⟩; gi_at_call 75; go_must (refine (callsIn_wide.2 (turner_any #[.int .i64 0, .int .i64 2, .int .i64 1, .int .i64 4, .int .i64 3, .int .i64 5] (N : Int) _ ⟨_, _, _, _, _, _, rfl⟩)).mono ?_; rintro e w' ⟨rfl, rfl⟩))
      refine hR.mono ?_
      rintro e W3 (⟨rfl, hJ3, hT3⟩ | ⟨rfl, hJ3⟩)
      · have HJ3 := Lib.hid hJ3
        have HT3 := Lib.hid hT3
        clear hJ3 hT3 hy hR
        gi_wp2_with fail
        go_roundw
        case rel => exact ⟨xs ++ [(wr.heap.size + 1, wr.heap.size + 1 + 1)], by rw [List.length_append, H3.out, List.length_singleton]; decide, by rw [List.length_append, H3.out]; rfl, HJ3.out, HT3.out⟩
        case measure => simp [intOf]
      · have HX := Lib.hid hJ3
        clear hJ3 hy hR
        gi_wp2_with fail
        refine bodyPost_ret (results_none rfl _ _ _) rfl ?_
        exact ⟨⟨_, rfl⟩, .inr ⟨_, HX.out⟩⟩
    · rw [h3]
      have HX : Hid (J xs wr) := hj
      have HT : Hid (hT bk bn N xs wr) := Lib.hid ⟨hb, hn⟩
      have H3 := Lib.hid h3
      clear hj hb hn h3 hk HB HN H0
      gi_wp2_with fail
      go_end0
      exact ⟨⟨_, rfl⟩, .inl ⟨xs, H3.out, HX.out, HT.out⟩⟩
end Go.Proofs.Ytmhbmeckdbdhpaa

namespace Go.Proofs.Ytmhbmeckdbdhpaa
open Go.RowKit Go.Shelf
attribute [local go_sem] Oper.semAt_some

/-! ### A half, plainly -/
def kindH (h : Nat) (k : Int) : Int := if h = 0 then k else dualK k
def furH (n h : Nat) : Nat := if h = 0 then 0 else n
def halfN (n h : Nat) (x : Nd) : Nd := ⟨kindH h x.kind, x.prio, x.chan, x.pay, x.next.map (upE (furH n h))⟩
def doneL (xs : List Nd) (h : Nat) : List Nd := if h = 0 then [] else if h = 1 then xs else twoL xs
theorem half_0 (n : Nat) (x : Nd) : halfN n 0 x = x := by
  unfold halfN kindH furH
  have e : upE 0 = id := funext fun ⟨a, b⟩ => by simp [upE]
  simp only [if_true, e, List.map_id]
theorem half_1 (n : Nat) (x : Nd) : halfN n 1 x = dualN n x := by
  unfold halfN kindH furH dualN
  simp
theorem done_next (xs : List Nd) {h : Nat} (h2 : h < 2) : doneL xs h ++ xs.map (halfN xs.length h) = doneL xs (h + 1) := by
  match h, h2 with
  | 0, _ =>
    have e : halfN xs.length 0 = id := funext fun x => half_0 _ x
    rw [e, List.map_id]; rfl
  | 1, _ =>
    have e : halfN xs.length 1 = dualN xs.length := funext fun x => half_1 _ x
    rw [e]; rfl

/-- What stands: the box of the nodes, the box of the table that is made, the table. -/
structure DT (w : World) (nv : Value) (B5 : Nat) (v : Value) (ns : List (Nd × Value)) (W : World) : Prop where
  gr : w.grownBy W none
  b1 : Blk W w.heap.size 22 #[nv]
  b5 : Blk W B5 22 #[v]
  h5 : w.heap.size < B5
  ot : OT w.heap.size W v ns
section
variable {w W W' : World} {nv v v' : Value} {B5 : Nat} {ns ns' : List (Nd × Value)}
theorem DT.kept (h : DT w nv B5 v ns W) (hg : W.grownBy W' none) : DT w nv B5 v ns W' := ⟨only_trans h.gr hg, h.b1.kept hg, h.b5.kept hg, h.h5, h.ot.kept hg⟩
/-- Another block, behind the append and the store. -/
theorem DT.other {k : Nat} {t : TypeId} {cs : Array Value} (h : DT w nv B5 v ns W) (hb : Blk W k t cs) (ht : t ≠ 70) (h5 : k ≠ B5) (hg : W.grownBy W' v.ownBlock) (v' : Value) : Blk (W'.setCell ⟨B5, 0, none⟩ v') k t cs := by
  refine (hb.grown hg (fun e => ?_)).far (p := ⟨B5, 0, none⟩) h5 _
  obtain ⟨_, cs', hb'⟩ := own_row h.ot.row k e.symm
  exact Blk.ne_ hb hb' ht rfl
theorem DT.at5 (h : DT w nv B5 v ns W) (hg : W.grownBy W' v.ownBlock) : Blk W' B5 22 #[v] := h.b5.grown hg fun e => by
  obtain ⟨_, cs', hb'⟩ := own_row h.ot.row _ e.symm
  exact Blk.ne_ h.b5 hb' (by decide) rfl
theorem DT.put (h : DT w nv B5 v ns W) (hg : W.grownBy W' v.ownBlock) (ho : OT w.heap.size W' v' ns') : DT w nv B5 v' ns' (W'.setCell ⟨B5, 0, none⟩ v') := by
  have h5 := h.h5
  have hs : W'.grownBy (W'.setCell ⟨B5, 0, none⟩ v') (some B5) := only_setCell (only_refl _ _) rfl _
  have b5' := h.at5 hg
  have g1 : w.grownBy W' none := grown_own h.gr (fun g e => (World.ownsRow.lt h.ot.row g e).1) hg
  refine ⟨only_setNew g1 (Nat.le_of_lt h5) _, h.other h.b1 (by decide) (by omega) hg v', b5'.set_ 0 v', h5, ?_, fun p hp => ?_⟩
  · refine ho.row.kept hs ?_
    cases e : v'.ownBlock with
    | none => exact .inl rfl
    | some g =>
      refine .inr fun e' => ?_
      injection e' with e'
      subst e'
      obtain ⟨_, cs', hb'⟩ := own_row ho.row _ e
      exact Blk.ne_ b5' hb' (by decide) rfl
  · exact (ho.eds p hp).grown hs fun g e => by
      injection e with e
      subst e
      exact ⟨Nat.le_of_lt h5, _, _, b5', by decide⟩
end

/-- What turns a half's nodes: its row of kinds, how much further. -/
theorem turns_half {bk bn N : Nat} {pre : List (Nat × Nat)} {x : Nat × Nat} {W : World} (h : hTm bk bn N pre x W) : pre.length < 2 ∧ (∃ cs, Blk W x.1 139 cs ∧ ∀ k : Nat, k < 6 → cs[k]? = some (.int .i64 (kindH pre.length (k : Int)))) ∧ Blk W x.2 3 #[.int .i64 ((furH N pre.length : Nat) : Int)] := by
  have six : ∀ k : Nat, k < 6 → k = 0 ∨ k = 1 ∨ k = 2 ∨ k = 3 ∨ k = 4 ∨ k = 5 := fun k h => by omega
  obtain ⟨_, ⟨h0, h1, h2⟩ | ⟨h0, h1, h2⟩⟩ := h
  · rw [h0]
    refine ⟨by omega, ⟨_, h1, fun k hk => ?_⟩, h2⟩
    obtain rfl | rfl | rfl | rfl | rfl | rfl := six k hk <;> rfl
  · rw [h0]
    refine ⟨by omega, ⟨_, h1, fun k hk => ?_⟩, h2⟩
    obtain rfl | rfl | rfl | rfl | rfl | rfl := six k hk <;> rfl
theorem blk_own {W W' : World} {row : Option Nat} {B k : Nat} {t : TypeId} {cs : Array Value} (h : Blk W k t cs) (hg : W.grownBy W' row) (hr : ∀ r, row = some r → B ≤ r ∧ ∃ o : Obj, W.heap[r]? = some o ∧ o.isCells = false) : Blk W' k t cs := by
  refine h.grown hg (fun e => ?_)
  obtain ⟨_, o, ho, hc⟩ := hr k e.symm
  unfold Blk at h
  rw [h] at ho
  cases ho
  cases hc
theorem DT.own {w W W' : World} {nv v : Value} {B5 B : Nat} {ns : List (Nd × Value)} {row : Option Nat} (h : DT w nv B5 v ns W) (hg : W.grownBy W' row) (hr : ∀ r, row = some r → B ≤ r ∧ ∃ o : Obj, W.heap[r]? = some o ∧ o.isCells = false) (hB : w.heap.size ≤ B) : DT w nv B5 v ns W' := by
  refine ⟨?_, blk_own h.b1 hg hr, blk_own h.b5 hg hr, h.h5, h.ot.row.kept hg ?_, fun p hp => ?_⟩
  · exact only_of_below ((below_of_only h.gr).grown hg h.gr.size (fun k e => Nat.le_trans hB (hr k e).1)) none
  · cases e : v.ownBlock with
    | none => exact .inl rfl
    | some g =>
      refine .inr fun e' => ?_
      obtain ⟨_, cs', hb'⟩ := own_row h.ot.row _ e
      obtain ⟨_, o, ho, hc⟩ := hr g e'.symm
      unfold Blk at hb'
      rw [hb'] at ho
      cases ho
      cases hc
  · obtain ⟨A, c, h1, hl, h2⟩ := h.ot.eds p hp
    refine ⟨A, c, h1, hl, fun hn => ?_⟩
    obtain ⟨b, off, h3, h5, h4⟩ := h2 hn
    have hne : some b ≠ row := fun e => by
      obtain ⟨hb, o, ho, hc⟩ := hr b e.symm
      rcases h5 with h5 | ⟨cs', h5⟩
      · omega
      · unfold Blk at h5
        rw [h5] at ho
        cases ho
        cases hc
    refine ⟨b, off, h3, h5.imp id (fun ⟨cs, hb⟩ => ⟨cs, hb.grown hg hne⟩), fun i e he => ?_⟩
    have hlt := cell_lt (h4 i e he).1
    have hc := fun o => World.cell?_of_block (a := ⟨b, o, none⟩) (hg.block b hlt hne)
    exact ⟨(hc _).trans (h4 i e he).1, (hc _).trans (h4 i e he).2⟩

/-- Between two halves. -/
def TI (w : World) (xs : List Nd) (nv : Value) (B5 : Nat) (pre : List (Nat × Nat)) (W : World) : Prop := ∃ v ns, ns.map (·.1) = doneL xs pre.length ∧ DT w nv B5 v ns W
theorem ti_own {w : World} {xs : List Nd} {nv : Value} {B5 B : Nat} (hB : w.heap.size ≤ B) : OwnFrom B (TI w xs nv B5) := fun _ _ _ _ ⟨v, ns, h1, h2⟩ hg hr => ⟨v, ns, h1, h2.own hg hr hB⟩
theorem ht_own {bk bn N B : Nat} : OwnFrom B (hT bk bn N) := fun _ _ _ _ ⟨h1, h2⟩ hg hr => ⟨blk_own h1 hg hr, blk_own h2 hg hr⟩
theorem htm_own {bk bn N B : Nat} (x : Nat × Nat) : OwnFrom B (fun pre W => hTm bk bn N pre x W) := fun _ _ _ _ ⟨hh, h⟩ hg hr => by
  refine ⟨ht_own _ _ _ _ hh hg hr, ?_⟩
  rcases h with ⟨h0, h1, h2⟩ | ⟨h0, h1, h2⟩
  · exact .inl ⟨h0, blk_own h1 hg hr, blk_own h2 hg hr⟩
  · exact .inr ⟨h0, blk_own h1 hg hr, blk_own h2 hg hr⟩

theorem wp_append_node {o : Oper} {a : Act} {W : World} {K : Act → World → Prop} {Q : Exit → Act → World → Prop} (s x : Operand)
    (ho : o.op = .call { callee := .builtin .append, args := #[s, x], argTypes := #[22, 22] })
    {base : Nat} {v : Value} {ns : List (Nd × Value)} {nd : Nd} {e : Value} {g : Nat} (hs : a.eval s = v) (hx : a.eval x = .slice (some ⟨g, 0, none⟩) 1 1)
    (hot : OT base W v ns) (hb : Blk W g 70 (ndCells nd e)) (hE : EdgesO base W e nd.next) (hn : ns.length ≤ 1000) (hbase : base ≤ W.heap.size)
    (h : ∀ v' W', OT base W' v' (ns ++ [(nd, e)]) → W.grownBy W' v.ownBlock → K (a.put o.dst v') W') : o.wp Try.prog a W K Q := by
  obtain ⟨i0, hi, hz0, hz1, hz2⟩ := info_parts node_info
  have hE2 := hE
  obtain ⟨A2, c2, he, _⟩ := hE2
  refine wp_append_own W s x 22 ho base 70 i0 _ 6 64 Try.underlying22 hi hz0 hz1 hz2 rfl (by decide) v ns.length (ndAll ns) hs hot.row
    ⟨g, 0, none⟩ 1 1 (ndCells nd e).toList hx rfl (fun j u hu => ?_) (fun u hu => ?_) (by unfold maxLen; omega) (by omega) hbase (fun v' W' hr hg _ => h v' W' ⟨?_, ?_⟩ hg)
  · rw [addr_plain, Nat.zero_add, hb.cell j, ← hu]; simp
  · rw [he] at hu
    simp only [List.mem_cons, List.not_mem_nil, or_false] at hu
    rcases hu with rfl | rfl | rfl | rfl | rfl | rfl <;> rfl
  · rw [List.length_append, ndAll_snoc]; exact hr
  · intro p hp
    rcases List.mem_append.1 hp with hp | hp
    · refine (hot.eds p hp).grown hg (fun g' e' => ?_)
      obtain ⟨hb', cs, hblk⟩ := own_row hot.row g' e'
      exact ⟨hb', cs, _, hblk, by decide⟩
    · obtain rfl := List.mem_singleton.1 hp
      refine hE.grown hg (fun g' e' => ?_)
      obtain ⟨hb', cs, hblk⟩ := own_row hot.row g' e'
      exact ⟨hb', cs, _, hblk, by decide⟩
/-- The turn's call. -/
theorem wp_turn {o : Oper} {b : Act} {W : World} {K : Act → World → Prop} {Q : Exit → Act → World → Prop} {t27 t28 t30 : Tmp} {bk bf : Nat} {p q : Value} {ts : Array TypeId} {R : Ending → World → Prop} (ho : o.op = .call { callee := .value (.tmp t27), args := #[.tmp t28, .tmp t30], argTypes := ts })
    (h27 : b.eval (.tmp t27) = turnV bk bf) (h28 : b.eval (.tmp t28) = p) (h30 : b.eval (.tmp t30) = q)
    (hc : Calls Try.prog 82 #[p, q, .pointer (some ⟨bk, 0, none⟩), .pointer (some ⟨bf, 0, none⟩)] W R)
    (hR : ∀ e W', R e W' → ∃ x, e = .returned x ∧ K (b.put o.dst x) W') : o.wp Try.prog b W K Q := by
  have h27' : b.tmps[t27]?.getD undef = turnV bk bf := by simpa [Act.eval] using h27
  have h28' : b.tmps[t28]?.getD undef = p := by simpa [Act.eval] using h28
  have h30' : b.tmps[t30]?.getD undef = q := by simpa [Act.eval] using h30
  obtain ⟨dst, op, type, pos, after, guard⟩ := o
  dsimp only at ho
  subst ho
  have hrun : ∀ args W, (callFunc 82 args).run Try.prog W = .ok (.enter 82 args) W := enters_of Try.func82 (by kernel_rfl) rfl
  have hr : (execOp b.eval ⟨dst, .call { callee := .value (.tmp t27), args := #[.tmp t28, .tmp t30], argTypes := ts }, type, pos, after, guard⟩).run Try.prog W = .ok (.enter 82 #[p, q, .pointer (some ⟨bk, 0, none⟩), .pointer (some ⟨bf, 0, none⟩)]) W := by
    simp [execOp, resolve, Deferred.ofValue, invoke, Act.eval, h27', h28', h30', hrun, turnV]
  unfold Oper.wp
  rw [hr, Oper.upon_enter]
  refine hc.mono fun e w'' hh => ?_
  obtain ⟨x, rfl, hk⟩ := hR e w'' hh
  exact hk

theorem wp_build1 {o : Oper} {b : Act} {W : World} {K : Act → World → Prop} {Q : Exit → Act → World → Prop} {t : Tmp} {z : Nd} {A : Option Addr} {n c : Nat} (ho : o.op = .buildSlice 22 1 #[(0, .tmp t)]) (h : b.eval (.tmp t) = ndV z (.slice A n c))
    (hK : K (b.put o.dst (.slice (some ⟨W.heap.size, 0, none⟩) 1 1)) (W.alloc (.cells (ndCells z (.slice A n c)) 70))) : o.wp Try.prog b W K Q := by
  obtain ⟨dst, op, type, pos, after, guard⟩ := o
  dsimp only at ho
  subst ho
  have h' : b.tmps[t]?.getD undef = .agg #[.int .i64 z.kind, .int .i64 z.prio, .bool z.chan, .int .i64 z.pay.1, .int .i64 z.pay.2, .slice A n c] := by simpa [Act.eval] using h
  unfold Oper.wp
  simp only [execOp]
  go_simp
  exact hK
theorem wp_store1 {o : Oper} {b : Act} {W : World} {K : Act → World → Prop} {Q : Exit → Act → World → Prop} {t u : Tmp} {g : Nat} {v : Value} {A : Option Addr} {n c : Nat} (ho : o.op = .store 22 (.tmp t) (.tmp u)) (ht : b.eval (.tmp t) = .pointer (some ⟨g, 0, none⟩)) (h : b.eval (.tmp u) = .slice A n c)
    (hb : Blk W g 22 #[v]) (hK : K (b.put o.dst undef) (W.setCell ⟨g, 0, none⟩ (.slice A n c))) : o.wp Try.prog b W K Q := by
  obtain ⟨dst, op, type, pos, after, guard⟩ := o
  dsimp only at ho
  subst ho
  have c0 := hb.cell 0
  have f0 := hb.frozen 0
  unfold Oper.wp
  simp only [execOp, h, ht]
  go_simp
  exact hK
section
variable {o : Oper} {b : Act} {W : World} {t : Tmp} {p : Addr}
theorem rv_move {v : Value} (ho : o.op = .move (.tmp t)) (he : b.eval (.tmp t) = v) : (execOp b.eval o).run Try.prog W = .ok (.value v) W := by
  obtain ⟨dst, op, type, pos, after, guard⟩ := o
  dsimp only at ho
  subst ho
  simp only [execOp, he, Sem.run_pure]
theorem rv_load_nodes {v : Value} (ho : o.op = .load 22 (.tmp t)) (he : b.eval (.tmp t) = .pointer (some p)) (hc : W.cell? p = some v) : (execOp b.eval o).run Try.prog W = .ok (.value v) W := by
  obtain ⟨dst, op, type, pos, after, guard⟩ := o
  dsimp only at ho
  subst ho
  simp only [execOp, he]
  go_simp
theorem rv_load_edges {v : Value} (ho : o.op = .load 68 (.tmp t)) (he : b.eval (.tmp t) = .pointer (some p)) (hc : W.cell? p = some v) : (execOp b.eval o).run Try.prog W = .ok (.value v) W := by
  obtain ⟨dst, op, type, pos, after, guard⟩ := o
  dsimp only at ho
  subst ho
  simp only [execOp, he]
  go_simp
theorem rv_load_node {g : Nat} {x : Nd} {v : Value} (ho : o.op = .load 70 (.tmp t)) (he : b.eval (.tmp t) = .pointer (some ⟨g, 0, none⟩)) (hb : Blk W g 70 (ndCells x v)) : (execOp b.eval o).run Try.prog W = .ok (.value (ndV x v)) W := by
  obtain ⟨n0, n1, n2, n3, n4, n5⟩ := nd_cells hb
  obtain ⟨dst, op, type, pos, after, guard⟩ := o
  dsimp only at ho
  subst ho
  simp only [execOp, he]
  go_simp
theorem rv_field4 {g : Nat} (ho : o.op = .fieldAddr 70 (.tmp t) 4) (he : b.eval (.tmp t) = .pointer (some ⟨g, 0, none⟩)) : (execOp b.eval o).run Try.prog W = .ok (.value (.pointer (some ⟨g, 5, none⟩))) W := by
  obtain ⟨dst, op, type, pos, after, guard⟩ := o
  dsimp only at ho
  subst ho
  simp only [execOp, he]
  go_simp
end
theorem act_put_at {b : Act} {t : Tmp} (x : Value) (h : t < b.tmps.size) : (b.put (some t) x).tmps.getD t undef = x := by simp [Act.put, h]
theorem done_len (xs : List Nd) (h : Nat) : (doneL xs h).length ≤ 2 * xs.length := by
  unfold doneL
  split
  · simp
  · split
    · omega
    · rw [twoL_len]; omega

/-- All that stands in a half. -/
structure HS6 (w : World) (n : Nat) (nv : Value) (B5 bk bf N : Nat) (cs : Array Value) (v : Value) (ns : List (Nd × Value)) (W : World) : Prop where
  dt : DT w nv B5 v ns W
  t1 : Blk W (B5 + 1 + 1) 140 rows2
  t2 : Blk W (B5 + 1) 3 #[.int .i64 (n : Int)]
  k1 : Blk W bk 139 cs
  k2 : Blk W bf 3 #[.int .i64 (N : Int)]
section
variable {w W W' : World} {n B5 bk bf N : Nat} {nv v v' : Value} {cs : Array Value} {ns ns' : List (Nd × Value)}
theorem HS6.kept (h : HS6 w n nv B5 bk bf N cs v ns W) (hg : W.grownBy W' none) : HS6 w n nv B5 bk bf N cs v ns W' := ⟨h.dt.kept hg, h.t1.kept hg, h.t2.kept hg, h.k1.kept hg, h.k2.kept hg⟩
theorem HS6.put (h : HS6 w n nv B5 bk bf N cs v ns W) (hg : W.grownBy W' v.ownBlock) (ho : OT w.heap.size W' v' ns') : HS6 w n nv B5 bk bf N cs v' ns' (W'.setCell ⟨B5, 0, none⟩ v') := by
  refine ⟨h.dt.put hg ho, h.dt.other h.t1 (by decide) (by omega) hg v', h.dt.other h.t2 (by decide) (by omega) hg v', h.dt.other h.k1 (by decide) (fun e => ?_) hg v', h.dt.other h.k2 (by decide) (fun e => ?_) hg v'⟩
  · exact Blk.ne_ h.k1 h.dt.b5 (by decide) e
  · exact Blk.ne_ h.k2 h.dt.b5 (by decide) e
end

/-- The stages of a round: the node turned, the row that holds it, the append, the store. -/
def Tst (base B5 : Nat) (v : Value) (ns : List (Nd × Value)) (z : Nd) (X : World) : Nat → (Tmp → Value) → World → Prop
  | 0, _, W => X.grownBy W none
  | 1, f, W => ∃ u, f 31 = ndV z u ∧ EOwn base W u z.next ∧ X.grownBy W none
  | 2, f, W => ∃ u g, f 32 = .slice (some ⟨g, 0, none⟩) 1 1 ∧ Blk W g 70 (ndCells z u) ∧ EOwn base W u z.next ∧ X.grownBy W none
  | 3, f, W => ∃ v' u W3, f 33 = v' ∧ X.grownBy W3 none ∧ W3.grownBy W v.ownBlock ∧ OT base W v' (ns ++ [(z, u)])
  | 4, _, W => ∃ v' u W3 W4, W = W4.setCell ⟨B5, 0, none⟩ v' ∧ X.grownBy W3 none ∧ W3.grownBy W4 v.ownBlock ∧ OT base W4 v' (ns ++ [(z, u)])
  | _, _, _ => False
theorem keepsF_own {base B : Nat} {W W' : World} {v : Value} {ns : List (Nd × Value)} (h : OT base W v ns) (hg : W.grownBy W' v.ownBlock) : KeepsFrom B W W' :=
  ⟨hg.size, fun k o _ hk ho => (hg.block k (Array.getElem?_eq_some_iff.1 hk).1 (fun e => by
    obtain ⟨_, cs', hb'⟩ := own_row h.row k e.symm
    unfold Blk at hb'
    rw [hb'] at hk
    cases hk
    cases ho)).trans hk⟩

set_option maxRecDepth 100000 in
set_option maxHeartbeats 4000000 in
theorem dtable_con : ∀ (xs : List Nd) (v : Value) (w : World), Tbl w v xs → xs.length ≤ 1000 → Calls Try.prog 49 #[v] w (MadeT w (tableL xs)) := by
  intro xs v w hT hxs
  have HT := Lib.hid hT
  have HL := Lib.hid hxs
  obtain ⟨A, cap, rfl, hcl⟩ := hT
  clear hcl hxs
  refine (callsIn_wide (n := 3)).1 ?_
  refine callsIn_of_wp_marks Try.func49 rfl trivial ?_ rfl
  simp only [Try.ntmps49, List.size_toArray, List.length_cons, List.length_nil, Nat.reduceAdd, Nat.reduceSub, Array.replicate_succ, Array.replicate_zero, List.push_toArray, List.append_toArray, List.nil_append, List.cons_append]
  by_cases hc : (checkL xs).2 = 0
  · have HC := Lib.hid (okt_check hc)
    have HK := Lib.hid (okt_of hc)
    have HTL := Lib.hid (tableL_ok hc)
    have hn64 : (xs.length : Int) ≤ 64 := by have := HK.out.le; omega
    clear hc
    gi_wp2_with (first | (refine ⟨trivial, ?_⟩; gi_at_call 45; go_must (refine (callsIn_wide.2 (check_any xs _ _ (HT.out.keep (.grown (only_alloc (only_refl _ _) _))) (by have := HL.out; omega))).mono ?_; rw [HC.out]; rintro e w1 ⟨rfl, hg1⟩; have HG1 := Lib.hid hg1; have hb1 : Blk w1 w.heap.size 22 #[.slice A xs.length cap] := (Blk.new w _ _).kept hg1; have HB1 := Lib.hid hb1; have q0 := hb1.cell 0; have hl1 := hb1.lt; clear hb1 hg1)) | (refine ⟨trivial, ?_⟩; gi_at_call 66; go_must (refine (callsIn_wide.2 (halves_any xs.length _)).mono ?_; rintro e w2 ⟨rfl, rfl⟩)))
    have hd0 : DT w (.slice A xs.length cap) w1.heap.size (.slice none 0 0) [] (((w1.alloc (.cells #[.slice none 0 0] 22)).alloc (.cells #[.int .i64 (xs.length : Int)] 3)).alloc (.cells rows2 140)) :=
      ⟨only_alloc (only_alloc (only_alloc (only_trans (only_alloc (only_refl _ _) _) HG1.out) _) _) _, ((HB1.out.alloc _).alloc _).alloc _, ((Blk.new w1 _ _).alloc _).alloc _, hl1, OT.start _ _⟩
    have ht0 : hT (w1.heap.size + 1 + 1) (w1.heap.size + 1) xs.length [] (((w1.alloc (.cells #[.slice none 0 0] 22)).alloc (.cells #[.int .i64 (xs.length : Int)] 3)).alloc (.cells rows2 140)) := ⟨blk_at (by simp) _ _, (blk_at (by simp) _ _).alloc _⟩
    have hz : (((w1.alloc (.cells #[.slice none 0 0] 22)).alloc (.cells #[.int .i64 (xs.length : Int)] 3)).alloc (.cells rows2 140)).heap.size = w1.heap.size + 3 := by simp
    revert hd0 ht0 hz
    generalize World.alloc _ _ = W0
    intro hd0 ht0 hz
    obtain ⟨B5, hB5⟩ : ∃ B5, w1.heap.size = B5 := ⟨_, rfl⟩
    rw [hB5] at hd0 ht0 hz hl1 ⊢
    have HD0 := Lib.hid hd0
    clear q0 hB5 HB1 HG1
    refine wpIn_rangeFunc_hands rfl (by omega) (gf := 74) (lb := #[.pointer (some ⟨B5 + 1 + 1, 0, none⟩), .pointer (some ⟨B5 + 1, 0, none⟩)]) rfl trivial (enters_of Try.func74 (by kernel_rfl) rfl)
      (halves_hands (B5 + 1 + 1) (B5 + 1) xs.length (by have := HK.out.le; omega)) (fun X Y h => only_keepsFrom h _) (fun x => rfl) ht_own htm_own
      (TI w xs (.slice A xs.length cap) B5) (fun _ _ _ => False) (ti_own (by omega)) (fun _ _ _ _ _ h => h.elim) (fun s X Y ⟨v, ns, h1, h2⟩ hg => ⟨v, ns, h1, h2.kept hg⟩) ⟨_, [], rfl, HD0.out⟩ ht0
      (fun x => { tmps := #[.slice A xs.length cap, .pointer (some ⟨w.heap.size, 0, none⟩), .slice none 0 0, .int .i64 (-1), .int .i64 0, .pointer (some ⟨B5, 0, none⟩), turnV x.1 x.2, undef, undef, pairV (-1, 0), .slice A xs.length cap, pairV (-1, 0), .int .i64 (-1), .int .i64 0, .int .i64 0, .bool false, .slice A xs.length cap, .int .i64 (xs.length : Int), .func (.func 74) #[] #[.pointer (some ⟨B5 + 1 + 1, 0, none⟩), .pointer (some ⟨B5 + 1, 0, none⟩)], turnV x.1 x.2, undef, undef, undef, undef, undef, undef, undef, undef, undef, undef, undef, undef, undef, undef, undef, undef], defers := [] }) ?assign ?body ?done ?stop
    case assign =>
      intro l x W K hK
      simp only [hEnc]
      gi_wp2
      exact hK
    case stop =>
      rintro D c ys W hD h hK
      exact h.elim
    case done =>
      rintro D ys W hD hS ⟨v, ns, h1, h2⟩ hT2 hK
      have h5 := h2.b5.cell 0
      rw [hS] at h1
      have HN1 := Lib.hid h1
      have h2' := h2.own (grownBy_putObj' W D (.deferred none)) (fun r e => by injection e with e; subst e; exact ⟨hD, _, hK, rfl⟩) (by omega)
      have HM : Hid (MadeT w (tableL xs) (.returned v) (W.putObj D (.deferred none))) := Lib.hid ⟨⟨v, ns, rfl, h2'.ot, by rw [HTL.out]; exact h1⟩, h2'.gr⟩
      clear h1 h2 h2' hT2 hS
      gi_wp2
      refine ⟨by simp, .inl ⟨_, _, rfl, run_takeDeferred hK, ?_⟩⟩
      exact ⟨_, results_tmp (t := 2) rfl _ _ _, HM.out⟩
    case body =>
      rintro l pre ⟨bk, bf⟩ W hI hm
      obtain ⟨v, ns, hns, hd⟩ := hI
      have htt := hm.1
      obtain ⟨hp2, ⟨cs, hcs, hck⟩, hbf⟩ := turns_half hm
      dsimp only at hcs hbf
      obtain ⟨h, hh⟩ : ∃ h, pre.length = h := ⟨_, rfl⟩
      rw [hh] at hns hp2 hck hbf
      have HH := Lib.hid hh
      have HCK := Lib.hid hck
      have HS : Hid (HS6 w xs.length (.slice A xs.length cap) B5 bk bf (furH xs.length h) cs v ns W) := Lib.hid ⟨hd, htt.1, htt.2, hcs, hbf⟩
      have HNS := Lib.hid hns
      have q0 := hd.b1.cell 0
      have hq1 := hd.b1.lt
      clear hm hns hd htt hcs hbf hh hck HD0 ht0 hz
      gi_wp2_with fail
      gi_loopw [22] (fun i X => ∃ (q : Nat) (v : Value) (ns : List (Nd × Value)), q ≤ xs.length ∧ i = .int .i64 (q : Int) ∧ ns.map (·.1) = doneL xs h ++ (xs.take q).map (halfN xs.length h) ∧ HS6 w xs.length (.slice A xs.length cap) B5 bk bf (furH xs.length h) cs v ns X ∧ KeepsFrom W0.heap.size W X) (fun i _ => 100 - (intOf i).toNat)
      case atStart => exact ⟨0, v, ns, Nat.zero_le _, rfl, by rw [HNS.out]; simp, HS.out, KeepsFrom.refl _ _⟩
      case round =>
        obtain ⟨q, v1, ms, hq, rfl, hms, hs, hkf⟩ := hrel
        have HMS := Lib.hid hms
        have HS1 := Lib.hid hs
        have HKF := Lib.hid hkf
        clear hms hs hkf HS HNS q0 hq1
        by_cases hlt : q < xs.length
        · have hqI : (q : Int) < (xs.length : Int) := by omega
          have hq0 : (0 : Int) ≤ (q : Int) := by omega
          obtain ⟨y, hy⟩ : ∃ y, xs[q]? = some y := ⟨_, List.getElem?_eq_getElem hlt⟩
          have HY := Lib.hid hy
          obtain ⟨A', c', hA, hcl⟩ := HT.out.keep (Keeps.grown HS1.out.dt.gr)
          obtain ⟨b0, o0, hAb, hcl2⟩ := hcl (by intro e0; rw [e0] at hlt; simp at hlt)
          obtain ⟨ve, hE, m0, m1, m2, m3, m4, m5⟩ := hcl2 q y hy
          obtain ⟨rfl, rfl⟩ : A = A' ∧ cap = c' := by simpa using hA
          subst hAb
          have HE := Lib.hid hE
          obtain ⟨A2, c2, rfl, _, _⟩ := hE
          clear hA hcl hcl2 hy
          gi_upto_region 10 with fail
          have hgX : wr.grownBy (wr.alloc (.cells (ndCells y (.slice A2 y.next.length c2)) 70)) none := only_alloc (only_refl _ _) _
          have HX := Lib.hid (HS1.out.kept hgX)
          have HEX := Lib.hid (HE.out.keep (.grown hgX))
          have bx := Blk.new wr 70 (ndCells y (.slice A2 y.next.length c2))
          have hkf2 : KeepsFrom W0.heap.size W (wr.alloc (.cells (ndCells y (.slice A2 y.next.length c2)) 70)) := HKF.out.trans (only_keepsFrom hgX _)
          have hy5 := (HK.out.end_ HY.out).1
          have hy8 := (HK.out.good y (List.mem_of_getElem? HY.out)).2
          have hye : ∀ e ∈ y.next, 0 ≤ e.1 ∧ e.1 ≤ 1000 := fun e he => by
            have := HK.out.edge HY.out (List.mem_append_left _ he)
            exact ⟨this.1, by have := this.2.1; omega⟩
          have hml : ms.length ≤ 1000 := by
            have h1 := congrArg List.length HMS.out
            rw [List.length_map, List.length_append, List.length_map, List.length_take] at h1
            have := done_len xs h
            omega
          clear m0 m1 m2 m3 m4 m5 hgX
          refine region_chain (by kernel_rfl) (by kernel_rfl) (by kernel_rfl) [26, 27, 28, 29, 30, 31, 32, 33] (by kernel_rfl) (by kernel_rfl) (by decide)
            [(5, .pointer (some ⟨B5, 0, none⟩)), (6, turnV bk bf), (8, .pointer (some ⟨wr.heap.size, 0, none⟩)), (26, v1), (27, turnV bk bf), (28, ndV y (.slice A2 y.next.length c2)), (29, .pointer (some ⟨wr.heap.size, 5, none⟩)), (30, .slice A2 y.next.length c2)]
            ?h0 [5, 6, 7, 8] (by kernel_rfl) (by kernel_rfl) (by decide) (by kernel_rfl) (Tst w.heap.size B5 v1 ms (halfN xs.length h y) (wr.alloc (.cells (ndCells y (.slice A2 y.next.length c2)) 70))) ?hT ?reads ?steps (only_drew (only_refl _ _)) ?hQ
          case h0 =>
            intro p hp hn
            simp only [List.mem_cons, List.not_mem_nil, or_false] at hp
            rcases hp with rfl | rfl | rfl | rfl | rfl | rfl | rfl | rfl
            all_goals first | rfl | exact absurd (by dsimp only; decide) hn
          case hT =>
            intro j f g W' hj he
            match j, hj with
            | 0, hj => exact hj
            | 1, ⟨u, h1, h2⟩ => exact ⟨u, (he 0 5 _ 31 (by decide) rfl rfl rfl).symm.trans h1, h2⟩
            | 2, ⟨u, g', h1, h2⟩ => exact ⟨u, g', (he 1 6 _ 32 (by decide) rfl rfl rfl).symm.trans h1, h2⟩
            | 3, ⟨v', u, W3, h1, h2⟩ => exact ⟨v', u, W3, (he 2 7 _ 33 (by decide) rfl rfl rfl).symm.trans h1, h2⟩
            | 4, hj => exact hj
          case reads =>
            intro i o ho hn
            have hrd : ∀ j f W', j < 4 → Tst w.heap.size B5 v1 ms (halfN xs.length h y) (wr.alloc (.cells (ndCells y (.slice A2 y.next.length c2)) 70)) j f W' → Blk W' B5 22 #[v1] ∧ Blk W' wr.heap.size 70 (ndCells y (.slice A2 y.next.length c2)) := by
              intro j f W' hj hT'
              have plain : ∀ {W'}, (wr.alloc (.cells (ndCells y (.slice A2 y.next.length c2)) 70)).grownBy W' none → Blk W' B5 22 #[v1] ∧ Blk W' wr.heap.size 70 (ndCells y (.slice A2 y.next.length c2)) := fun hg => ⟨(HX.out.kept hg).dt.b5, bx.kept hg⟩
              match j, hj, hT' with
              | 0, _, hT' => exact plain hT'
              | 1, _, ⟨_, _, _, hg⟩ => exact plain hg
              | 2, _, ⟨_, _, _, _, _, hg⟩ => exact plain hg
              | 3, _, ⟨_, _, W3, _, hg, hg5, _⟩ =>
                have hx := HX.out.kept hg
                exact ⟨hx.dt.at5 hg5, (plain hg).2.grown hg5 fun e => by have := (World.ownsRow.lt HS1.out.dt.ot.row _ e.symm).2; omega⟩
            have h9 : i = 0 ∨ i = 1 ∨ i = 2 ∨ i = 3 ∨ i = 4 := by
              have h1 := (Array.getElem?_eq_some_iff.1 ho).1
              simp only [List.size_toArray, List.length_cons, List.length_nil] at h1
              simp only [List.mem_cons, List.not_mem_nil, or_false] at hn
              omega
            rcases h9 with rfl | rfl | rfl | rfl | rfl
            · cases ho
              exact ⟨26, v1, rfl, rfl, fun j f b W' hj hT' henv => rv_load_nodes rfl (henv 5 _ (by simp [Op.operands]) rfl) ((hrd j f W' hj hT').1.cell 0)⟩
            · cases ho
              exact ⟨27, turnV bk bf, rfl, rfl, fun j f b W' hj hT' henv => rv_move rfl (henv 6 _ (by simp [Op.operands]) rfl)⟩
            · cases ho
              exact ⟨28, _, rfl, rfl, fun j f b W' hj hT' henv => rv_load_node rfl (henv 8 _ (by simp [Op.operands]) rfl) (hrd j f W' hj hT').2⟩
            · cases ho
              exact ⟨29, _, rfl, rfl, fun j f b W' hj hT' henv => rv_field4 rfl (henv 8 _ (by simp [Op.operands]) rfl)⟩
            · cases ho
              exact ⟨30, _, rfl, rfl, fun j f b W' hj hT' henv => rv_load_edges rfl (henv 29 _ (by simp [Op.operands]) rfl) ((hrd j f W' hj hT').2.cell 5)⟩
          case steps =>
            intro j i o hj ho
            have h4 : j = 0 ∨ j = 1 ∨ j = 2 ∨ j = 3 := by
              have := (List.getElem?_eq_some_iff.1 hj).1
              simp only [List.length_cons, List.length_nil] at this
              omega
            rcases h4 with rfl | rfl | rfl | rfl
            · cases hj
              cases ho
              refine ⟨fun t e => by cases e; rfl, fun b W' hb hT1 henv => ?_⟩
              have hg : (wr.alloc (.cells (ndCells y (.slice A2 y.next.length c2)) 70)).grownBy W' none := hT1
              have hx := HX.out.kept hg
              obtain ⟨k, hk⟩ : ∃ k : Nat, y.kind = (k : Int) := ⟨y.kind.toNat, by omega⟩
              have hck := HCK.out k (by omega)
              rw [← hk] at hck
              refine wp_turn rfl (henv 27 _ (by simp [Op.operands, Call.operands]) rfl) (henv 28 _ (by simp [Op.operands, Call.operands]) rfl) (henv 30 _ (by simp [Op.operands, Call.operands]) rfl)
                (turn_any y (.slice A2 y.next.length c2) (.slice A2 y.next.length c2) y.next k (furH xs.length h) bk bf (kindH h y.kind) W' hk (by omega) ((hx.k1.cell k).trans hck) (hx.k2.cell 0) (by unfold furH; split <;> omega) (HEX.out.keep (.grown hg)) (by omega) hye) ?_
              rintro e W5 ⟨u, rfl, ho5, hg5⟩
              exact ⟨_, rfl, _, rfl, u, act_put_at _ (by rw [hb]; show _ < 36; decide), ho5.base_ hx.dt.gr.size, only_trans hg hg5⟩
            · cases hj
              cases ho
              refine ⟨fun t e => by cases e; rfl, fun b W' hb hT1 henv => ?_⟩
              obtain ⟨u, h1, h2, hg⟩ := hT1
              obtain ⟨A3, c3, rfl⟩ := h2.len
              exact wp_build1 rfl h1 ⟨_, rfl, _, W'.heap.size, act_put_at _ (by rw [hb]; show _ < 36; decide), Blk.new _ _ _, h2.kept0 (only_alloc (only_refl _ _) _), only_alloc hg _⟩
            · cases hj
              cases ho
              refine ⟨fun t e => by cases e; rfl, fun b W' hb hT1 henv => ?_⟩
              obtain ⟨u, g', h1, h2, h3, hg⟩ := hT1
              have hx := HX.out.kept hg
              exact wp_append_node (.tmp 26) (.tmp 32) rfl (henv 26 _ (by simp [Op.operands, Call.operands]) rfl) h1 hx.dt.ot h2 (h3.edges (by show (y.next.map _).length ≤ 1000; rw [List.length_map]; omega)) hml hx.dt.gr.size (fun v' W5 ho5 hg5 => ⟨_, rfl, v', u, W', act_put_at _ (by rw [hb]; show _ < 36; decide), hg, hg5, ho5⟩)
            · cases hj
              cases ho
              refine ⟨fun t e => (by cases e), fun b W' hb hT1 henv => ?_⟩
              obtain ⟨v', u, W3, h1, hg, hg5, ho5⟩ := hT1
              obtain ⟨A5, c5, rfl⟩ := ho5.len
              have hx := HX.out.kept hg
              exact wp_store1 rfl (henv 5 _ (by simp [Op.operands]) rfl) h1 (hx.dt.at5 hg5) ⟨undef, rfl, _, u, W3, W', rfl, hg, hg5, ho5⟩
          case hQ =>
            intro vs W' hv hT4
            obtain ⟨v', u, W3, W4, rfl, hg, hg5, ho5⟩ := hT4
            have hx := HX.out.kept hg
            have HP := Lib.hid (hx.put hg5 ho5)
            have HKF2 : Hid (KeepsFrom W0.heap.size W (W4.setCell ⟨B5, 0, none⟩ v')) := Lib.hid (((hkf2.trans (only_keepsFrom hg _)).trans (keepsF_own hx.dt.ot hg5)).trans ((KeepsOthers.setCell _ _ _).from _))
            simp only [List.foldl_cons, List.foldl_nil, List.setIfInBounds_toArray, List.set_cons_zero, List.set_cons_succ]
            clear hv hg hg5 ho5 hx hkf2 bx HX HEX hye
            gi_wp2_with fail
            go_roundw
            case rel =>
              refine ⟨q + 1, v', _, by omega, by go_num, ?_, HP.out, HKF2.out⟩
              rw [List.map_append, HMS.out, take_len HY.out, List.map_append, List.append_assoc]
              rfl
            case measure => simp [intOf]; omega
        · have hqe : q = xs.length := by omega
          have hqI : (xs.length : Int) ≤ (q : Int) := by omega
          clear hlt hq
          gi_wp2_with fail
          have hms := HMS.out
          rw [hqe, List.take_length, done_next xs hp2] at hms
          exact ⟨HKF.out, trivial, ⟨v1, ms, by rw [List.length_append, HH.out]; exact hms, HS1.out.dt⟩, HS1.out.t1, HS1.out.t2⟩
  · obtain ⟨a, e, hae⟩ : ∃ a e, checkL xs = (a, e) := ⟨_, _, rfl⟩
    rw [hae] at hc
    have HTL : Hid (tableL xs = []) := Lib.hid (tableL_not (by rw [hae]; exact hc))
    have HAE := Lib.hid hae
    have he : ¬ e = 0 := hc
    have he2 : (e == 0) = false := by simp [he]
    have he3 : decide (e = 0) = false := decide_eq_false he
    clear hae hc
    gi_wp2_with (refine ⟨trivial, ?_⟩; gi_at_call 45; go_must (refine (callsIn_wide.2 (check_any xs _ _ (HT.out.keep (.grown (only_alloc (only_refl _ _) _))) (by have := HL.out; omega))).mono ?_; rw [HAE.out]; rintro e w1 ⟨rfl, hg1⟩; have HG1 := Lib.hid hg1; clear hg1))
    exact marks_ret (B := w1.heap.size) [] w1 List.nodup_nil (fun D h => by cases h) fun W' hW' => ⟨_, results_tmp (t := 2) rfl _ _ _, ⟨_, [], rfl, OT.start _ _, by rw [HTL.out]; rfl⟩, hW'.grown (only_trans (only_alloc (only_refl _ _) _) HG1.out) (by have := HG1.out.size; simp at this; omega)⟩
end Go.Proofs.Ytmhbmeckdbdhpaa

/- Texts joined for the claim's sake: COfC, COfS. -/
import Derived.Test.YtmhbmeckdbdhpaaZSAddRow34
namespace Go.Proofs.Ytmhbmeckdbdhpaa
open Go.RowKit

/-- What stands in a round: the box of the node, the class's box, its links. -/
structure N5 (Wk : World) (Bn Bc : Nat) (x : Nd) (vx : Value) (y : Nd) (vn : Value) (W : World) : Prop where
  gr : Wk.grownBy W none
  bn : Blk W Bn 70 (ndCells x vx)
  bc : Blk W Bc 86 (ndCells y vn)
  ln : LOwn Wk.heap.size W vn y.next
  nb : Wk.heap.size ≤ Bn
  cb : Wk.heap.size ≤ Bc
section
variable {Wk W W' : World} {Bn Bc : Nat} {x y : Nd} {vx vn u : Value}
theorem N5.kept (h : N5 Wk Bn Bc x vx y vn W) (hg : W.grownBy W' none) : N5 Wk Bn Bc x vx y vn W' := ⟨only_trans h.gr hg, h.bn.kept hg, h.bc.kept hg, h.ln.kept0 hg, h.nb, h.cb⟩
theorem own_link_ne {base : Nat} {es : List Ed} {g : Nat} {t : TypeId} {cs : Array Value} (h : LOwn base W u es) (hb : Blk W g t cs) (ht : t ≠ 83) : u.ownBlock ≠ some g := fun e => by
  obtain ⟨_, cs', hb'⟩ := own_row h g e
  exact Blk.ne_ hb hb' ht rfl
/-- The link of what a channel carries. -/
theorem N5.pay (h : N5 Wk Bn Bc x vx y vn W) (l : Ed) : N5 Wk Bn Bc x vx { y with pay := l } vn ((W.setCell ⟨Bc, 3, none⟩ (.int .i64 l.1)).setCell ⟨Bc, 4, none⟩ (.int .i64 l.2)) := by
  have hs : W.grownBy ((W.setCell ⟨Bc, 3, none⟩ (.int .i64 l.1)).setCell ⟨Bc, 4, none⟩ (.int .i64 l.2)) (some Bc) := only_setCell (only_setCell (only_refl W (some Bc)) (p := ⟨Bc, 3, none⟩) rfl (.int .i64 l.1)) (p := ⟨Bc, 4, none⟩) rfl (.int .i64 l.2)
  have e5 : ((ndCells y vn).setIfInBounds 3 (.int .i64 l.1)).setIfInBounds 4 (.int .i64 l.2) = ndCells { y with pay := l } vn := rfl
  have hb5 := (h.bc.set_ 3 (.int .i64 l.1)).set_ 4 (.int .i64 l.2)
  rw [e5] at hb5
  refine ⟨only_setNew (only_setNew h.gr (p := ⟨Bc, 3, none⟩) h.cb _) (p := ⟨Bc, 4, none⟩) h.cb _, h.bn.grown hs (fun e => ?_), hb5, h.ln.kept hs (fun g e e' => ?_), h.nb, h.cb⟩
  · injection e with e
    exact Blk.ne_ h.bn h.bc (by decide) e
  · injection e' with e'
    subst e'
    exact own_link_ne h.ln h.bc (by decide) e
/-- A link more. -/
theorem N5.next (h : N5 Wk Bn Bc x vx y vn W) (hg : W.grownBy W' vn.ownBlock) {ls : List Ed} (ho : LOwn Wk.heap.size W' u ls) : N5 Wk Bn Bc x vx { y with next := ls } u (W'.setCell ⟨Bc, 5, none⟩ u) := by
  have g1 : Wk.grownBy W' none := grown_own h.gr (fun g e => (World.ownsRow.lt h.ln g e).1) hg
  have hc : Blk W' Bc 86 (ndCells y vn) := h.bc.grown hg (fun e => own_link_ne h.ln h.bc (by decide) e.symm)
  have hn : Blk W' Bn 70 (ndCells x vx) := h.bn.grown hg (fun e => own_link_ne h.ln h.bn (by decide) e.symm)
  have hs : W'.grownBy (W'.setCell ⟨Bc, 5, none⟩ u) (some Bc) := only_setCell (only_refl _ _) rfl _
  refine ⟨only_setNew g1 (p := ⟨Bc, 5, none⟩) h.cb _, hn.far (p := ⟨Bc, 5, none⟩) (Blk.ne_ hn hc (by decide)) _, hc.set_ 5 u, ho.kept hs (fun g e e' => ?_), h.nb, h.cb⟩
  injection e' with e'
  subst e'
  exact own_link_ne ho hc (by decide) e
/-- Between the append and the store. -/
theorem N5.mid (h : N5 Wk Bn Bc x vx y vn W) (hg : W.grownBy W' vn.ownBlock) : Wk.grownBy W' none ∧ Blk W' Bc 86 (ndCells y vn) ∧ Blk W' Bn 70 (ndCells x vx) :=
  ⟨grown_own h.gr (fun g e => (World.ownsRow.lt h.ln g e).1) hg, h.bc.grown hg (fun e => own_link_ne h.ln h.bc (by decide) e.symm), h.bn.grown hg (fun e => own_link_ne h.ln h.bn (by decide) e.symm)⟩
end

theorem LOwn.base_ {base base' : Nat} {W : World} {v : Value} {es : List Ed} (h : LOwn base W v es) (hb : base' ≤ base) : LOwn base' W v es :=
  ⟨h.1, h.2.imp id (fun ⟨g, cap, cur, h1, h2, h3⟩ => ⟨g, cap, cur, h1, Nat.le_trans hb h2, h3⟩)⟩
theorem row_base {base base' n k : Nat} {W : World} {v : Value} {t : TypeId} {us : List Value} (h : W.ownsRow base t k v n us) (hb : base' ≤ base) : W.ownsRow base' t k v n us :=
  ⟨h.1, h.2.imp id (fun ⟨g, cap, cur, h1, h2, h3⟩ => ⟨g, cap, cur, h1, Nat.le_trans hb h2, h3⟩)⟩
/-- A table of classes whose rows are of their own types. -/
structure TabR (W : World) (vc vo vp : Value) (cs : List (Nd × Value)) (T : ClsT) : Prop where
  cls : cs.map (·.1) = T.cls
  row : CTw 0 W vc cs
  oo : IOwn 0 W vo T.of_
  op : IOwn 0 W vp T.prio
  len : T.of_.length ≤ 1000 ∧ T.prio.length ≤ 1000
def TabO (W : World) (v : Value) (T : ClsT) : Prop := ∃ vc vo vp cs, v = .agg #[vc, vo, vp] ∧ TabR W vc vo vp cs T
theorem TabO.grown {W W' : World} {v : Value} {T : ClsT} {row : Option Nat} (h : TabO W v T) (hg : W.grownBy W' row) (hr : ∀ g, row = some g → ∃ t cells, Blk W g t cells ∧ t ≠ 86 ∧ t ≠ 83 ∧ t ≠ 3) : TabO W' v T := by
  obtain ⟨vc, vo, vp, cs, h1, h⟩ := h
  refine ⟨vc, vo, vp, cs, h1, h.cls, ⟨?_, fun p hp => (h.row.eds p hp).grown hg fun g e => ?_⟩, h.oo.other hg fun g e => ?_, h.op.other hg fun g e => ?_, h.len⟩
  · refine h.row.row.kept hg ?_
    cases e : vc.ownBlock with
    | none => exact .inl rfl
    | some g =>
      refine .inr fun e' => ?_
      obtain ⟨t, cells, hb, ht, _⟩ := hr g e'.symm
      obtain ⟨_, cs2, hb'⟩ := own_row h.row.row _ e
      exact Blk.ne_ hb hb' ht rfl
  · obtain ⟨t, cells, hb, _, ht, _⟩ := hr g e
    exact ⟨Nat.zero_le _, cells, t, hb, ht⟩
  all_goals
    obtain ⟨t, cells, hb, _, _, ht⟩ := hr g e
    exact ⟨t, cells, hb, ht⟩
theorem TabO.kept {W W' : World} {v : Value} {T : ClsT} (h : TabO W v T) (hg : W.grownBy W' none) : TabO W' v T := h.grown hg (fun _ e => by cases e)
/-- Classes, and what is numbered. -/
structure N4 (W3 : World) (vc v13 vo vp : Value) (fs os : List Nat) (ps : List Int) (cs : List (Nd × Value)) (W : World) : Prop where
  n : N3 W3 vc v13 vo vp fs os ps W
  ct : CTw W3.heap.size W vc cs
  lk : ∀ p ∈ cs, LnkO 0 W p.2 p.1.next
section
variable {W3 W W' : World} {vc v13 vo vp u : Value} {fs os : List Nat} {ps : List Int} {cs cs' : List (Nd × Value)}
theorem N4.kept (h : N4 W3 vc v13 vo vp fs os ps cs W) (hg : W.grownBy W' none) : N4 W3 vc v13 vo vp fs os ps cs W' := ⟨h.n.kept hg, h.ct.kept hg, fun p hp => (h.lk p hp).kept hg⟩
theorem N4.put {p : Nd × Value} (h : N4 W3 vc v13 vo vp fs os ps cs W) (hg : W.grownBy W' vc.ownBlock) (hE : LnkO 0 W p.2 p.1.next) (ho : CTw W3.heap.size W' u (cs ++ [p])) : N4 W3 u v13 vo vp fs os ps (cs ++ [p]) (W'.setCell ⟨W3.heap.size, 0, none⟩ u) := by
  have hn := h.n.far hg (fun g e => by
    obtain ⟨hb, cs2, hb'⟩ := own_row h.ct.row g e
    exact ⟨hb, _, cs2, hb', by decide, by decide⟩)
  have hs : W'.grownBy (W'.setCell ⟨W3.heap.size, 0, none⟩ u) (some W3.heap.size) := only_setCell (only_refl _ _) rfl _
  have hr : ∀ g, some W3.heap.size = some g → ∃ cs t, Blk W' g t cs ∧ t ≠ 83 := fun g e => by
    injection e with e
    subst e
    exact ⟨_, _, hn.bt, by decide⟩
  refine ⟨hn.box 0 u u rfl, ⟨?_, fun q hq => (ho.eds q hq).grown hs fun g e => ?_⟩, fun q hq => ?_⟩
  · refine ho.row.kept hs ?_
    cases e : u.ownBlock with
    | none => exact .inl rfl
    | some g =>
      refine .inr fun e' => ?_
      injection e' with e'
      subst e'
      obtain ⟨_, cs2, hb'⟩ := own_row ho.row _ e
      exact Blk.ne_ hn.bt hb' (by decide) rfl
  · obtain ⟨c, t, h1, h2⟩ := hr g e
    injection e with e
    exact ⟨by omega, c, t, h1, h2⟩
  · have hq1 : LnkO 0 W q.2 q.1.next := by
      rcases List.mem_append.1 hq with hq | hq
      · exact h.lk q hq
      · obtain rfl := List.mem_singleton.1 hq; exact hE
    refine (hq1.grown hg fun g e => ?_).grown hs fun g e => ?_
    · obtain ⟨_, cs2, hb'⟩ := own_row h.ct.row g e
      exact ⟨Nat.zero_le _, cs2, _, hb', by decide⟩
    · obtain ⟨c, t, h1, h2⟩ := hr g e
      exact ⟨Nat.zero_le _, c, t, h1, h2⟩
/-- The table is done: it is stored into the answer's box. -/
theorem N4.done {B : Nat} {bs : Array Value} (h : N4 W3 vc v13 vo vp fs os ps cs W) (hg : W.grownBy W' (some B)) (hB : Blk W B 32 bs) : CTw 0 W' vc cs ∧ IOwn 0 W' vo (os.map Int.ofNat) ∧ IOwn 0 W' vp ps := by
  have hne : ∀ g, some B = some g → ∃ t cs, Blk W g t cs ∧ t ≠ 3 := fun g e => by injection e with e; subst e; exact ⟨_, _, hB, by decide⟩
  have hct : CTw 0 W' vc cs := by
    refine ⟨?_, fun q hq => (h.lk q hq).grown hg fun g e => by injection e with e; subst e; exact ⟨Nat.zero_le _, _, _, hB, by decide⟩⟩
    have hr : W'.ownsRow W3.heap.size 86 6 vc cs.length (ndAll cs) := by
      refine h.ct.row.kept hg ?_
      cases e : vc.ownBlock with
      | none => exact .inl rfl
      | some g =>
        refine .inr fun e' => ?_
        injection e' with e'
        subst e'
        obtain ⟨_, cs2, hb'⟩ := own_row h.ct.row _ e
        exact Blk.ne_ hB hb' (by decide) rfl
    exact ⟨hr.1, hr.2.imp id (fun ⟨g, cap, cur, h1, _, h3⟩ => ⟨g, cap, cur, h1, Nat.zero_le _, h3⟩)⟩
  exact ⟨hct, row_base (h.n.oo.other hg hne) (Nat.zero_le _), row_base (h.n.op.other hg hne) (Nat.zero_le _)⟩
theorem N4.mid (h : N4 W3 vc v13 vo vp fs os ps cs W) (hg : W.grownBy W' vc.ownBlock) : Blk W' W3.heap.size 32 #[vc, vo, vp] :=
  (h.n.far hg (fun g e => by
    obtain ⟨hb, cs2, hb'⟩ := own_row h.ct.row g e
    exact ⟨hb, _, cs2, hb', by decide, by decide⟩)).bt
end
end Go.Proofs.Ytmhbmeckdbdhpaa

namespace Go.Proofs.Ytmhbmeckdbdhpaa
open Go.RowKit

section
variable {o : Oper} {b : Act} {W : World} {K : Act → World → Prop} {Q : Exit → Act → World → Prop}
theorem wp_storeLs {t u : Tmp} {g : Nat} {y : Nd} {A0 A : Option Addr} {n0 c0 n c : Nat} (ho : o.op = .store 84 (.tmp t) (.tmp u)) (ht : b.eval (.tmp t) = .pointer (some ⟨g, 5, none⟩)) (h : b.eval (.tmp u) = .slice A n c)
    (hb : Blk W g 86 (ndCells y (.slice A0 n0 c0))) (hK : K (b.put o.dst undef) (W.setCell ⟨g, 5, none⟩ (.slice A n c))) : o.wp Try.prog b W K Q := by
  obtain ⟨dst, op, type, pos, after, guard⟩ := o
  dsimp only at ho
  subst ho
  have c5 : W.cell? ⟨g, 5, none⟩ = some (.slice A0 n0 c0) := hb.cell 5
  have f5 := hb.frozen 5
  unfold Oper.wp
  simp only [execOp, h, ht]
  go_simp
  exact hK
end
theorem act_put_atC {b : Act} {t : Tmp} (x : Value) (h : t < b.tmps.size) : (b.put (some t) x).tmps.getD t undef = x := by simp [Act.put, h]
/-- What the reads want. -/
structure RdL (Wk : World) (Bt Bc : Nat) (x : Nd) (vx : Value) (y : Nd) (vn vc vo vp : Value) (W : World) : Prop where
  gr : Wk.grownBy W none
  bn : Blk W Wk.heap.size 70 (ndCells x vx)
  bc : Blk W Bc 86 (ndCells y vn)
  tb : Blk W Bt 32 #[vc, vo, vp]
end Go.Proofs.Ytmhbmeckdbdhpaa

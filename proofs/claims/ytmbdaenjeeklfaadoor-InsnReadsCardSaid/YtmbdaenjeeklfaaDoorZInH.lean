/- Texts joined for the claim's sake: IRdM, IRed. -/
import Derived.Test.YtmbdaenjeeklfaaDoorZInF
import Derived.Test.YtmbdaenjeeklfaaDoorZInG
/- insn: what Read holds between two operands. -/
namespace Go.Proofs.YtmbdaenjeeklfaaDoor
open Go.RowKit

/-- Read's own boxes, and its reader. -/
structure RdM (w0 : World) (g nb n1 n2 : Nat) (bs : List UInt8) (a : Nat) (W : World) : Prop where
  rd : Rdr W g bs a 0
  bx : Blk W nb 38 #[.pointer (some ⟨g, 0, none⟩)]
  r1 : Blk W n1 24 #[.int .i64 0, .int .i64 0, .int .i64 0, .int .i64 0, .int .i64 0, .slice none 0 0]
  r2 : Blk W n2 44 #[.nilIface]
  st : w0.grownBy W (some g)
section
variable {w0 W W' : World} {g nb n1 n2 a a' : Nat} {bs : List UInt8}
theorem RdM.none_ (h : RdM w0 g nb n1 n2 bs a W) (hg : W.grownBy W' none) : RdM w0 g nb n1 n2 bs a W' := ⟨h.rd.kept hg, h.bx.kept hg, h.r1.kept hg, h.r2.kept hg, only_trans h.st (only_weak hg _)⟩
theorem RdM.at_ {k : Nat} {t : TypeId} {cs : Array Value} (h : RdM w0 g nb n1 n2 bs a W) (hg : W.grownBy W' (some k)) (hb : Blk W k t cs) (ht : (t = 24 ∧ k ≠ n1) ∨ t = 3) (hk : w0.heap.size ≤ k) : RdM w0 g nb n1 n2 bs a W' := by
  have h1 : t ≠ 5 ∧ t ≠ 87 ∧ t ≠ 38 ∧ t ≠ 44 := by rcases ht with ⟨rfl, _⟩ | rfl <;> exact ⟨by decide, by decide, by decide, by decide⟩
  obtain ⟨cg, hbg⟩ := h.rd.blk
  refine ⟨h.rd.grown hg (fun e => Blk.ne_ hbg hb (Ne.symm h1.2.1) (by injection e)) (fun j e => by injection e with e; subst e; exact ⟨_, _, hb, h1.1⟩), h.bx.grown hg (fun e => Blk.ne_ h.bx hb (Ne.symm h1.2.2.1) (by injection e)), h.r1.grown hg (fun e => ?_), h.r2.grown hg (fun e => Blk.ne_ h.r2 hb (Ne.symm h1.2.2.2) (by injection e)), only_new' h.st hg hk⟩
  injection e with e
  rcases ht with ⟨_, h2⟩ | rfl
  · exact h2 e.symm
  · exact Blk.ne_ h.r1 hb (by decide) e
theorem RdM.move (h : RdM w0 g nb n1 n2 bs a W) (hg : W.grownBy W' (some g)) (hr : Rdr W' g bs a' 0) : RdM w0 g nb n1 n2 bs a' W' := by
  obtain ⟨cg, hbg⟩ := h.rd.blk
  exact ⟨hr, h.bx.grown hg (fun e => Blk.ne_ h.bx hbg (by decide) (by injection e)), h.r1.grown hg (fun e => Blk.ne_ h.r1 hbg (by decide) (by injection e)), h.r2.grown hg (fun e => Blk.ne_ h.r2 hbg (by decide) (by injection e)), only_trans h.st hg⟩
theorem RdM.own {row : Option Nat} (h : RdM w0 g nb n1 n2 bs a W) (hg : W.grownBy W' row) (hr : ∀ r, row = some r → w0.heap.size ≤ r ∧ ∃ o : Obj, W.heap[r]? = some o ∧ o.isCells = false) : RdM w0 g nb n1 n2 bs a W' := by
  have hr2 := fun r e => (hr r e).2
  refine ⟨h.rd.own hg hr2, h.bx.own hg hr2, h.r1.own hg hr2, h.r2.own hg hr2, ?_⟩
  cases row with
  | none => exact only_trans h.st (only_weak hg _)
  | some k => exact only_new' h.st hg (hr k rfl).1
end
/-- Read's parts of a range. -/
def rdRH (w0 : World) (g nb n1 n2 : Nat) (bs : List UInt8) (f : Fm) (op : Int) (res : Rs Ins) (td : List Fld) (n : Nat) (s : Sg) (W : World) : Prop :=
  s.l = [] ∧ ∃ a, res = run f bs td n (s.ins op) a ∧ RdM w0 g nb n1 n2 bs a W
def rdRE (w0 : World) (g nb n1 n2 : Nat) (bs : List UInt8) (f : Fm) (op : Int) (res : Rs Ins) (i : Nat) (s : Sg) (W : World) : Prop :=
  ∃ (dn : List Int) (a m : Nat), s.l = dn ++ List.replicate m 0 ∧ dn.length = i ∧ res = ((rdE f.each.most bs m a).bind fun l b => .ok ⟨op, s.a, s.b, s.c, s.d, dn ++ l⟩ b) ∧ RdM w0 g nb n1 n2 bs a W ∧
    (s.l ≠ [] → ∃ lb, s.lv = .slice (some ⟨lb, 0, none⟩) s.l.length s.l.length ∧ Blk W lb 3 (s.l.map zV).toArray ∧ w0.heap.size ≤ lb)
def rdI (w0 : World) (g nb n1 n2 : Nat) (bs : List UInt8) (b0 xb : Nat) (op : Int) (lv0 : Value) (res : Rs Ins) : Its :=
  ⟨b0, xb, op, fmOf (clI op), hdF (clI op), lv0, fun b => w0.heap.size ≤ b ∧ b ≠ xb, rdRH w0 g nb n1 n2 bs (fmOf (clI op)) op res, rdRE w0 g nb n1 n2 bs (fmOf (clI op)) op res⟩
theorem zeros_is (n : Nat) : Array.replicate n (Value.int .i64 0) = ((List.replicate n (0 : Int)).map zV).toArray := by
  rw [List.map_replicate, List.toArray_replicate]; rfl
theorem rd_ok {w0 : World} {g nb n1 n2 : Nat} {bs : List UInt8} {b0 xb : Nat} {op : Int} {lv0 : Value} {res : Rs Ins} {B : Nat} (hx : w0.heap.size ≤ xb) (hx1 : xb ≠ n1) (hB : w0.heap.size ≤ B) : (rdI w0 g nb n1 n2 bs b0 xb op lv0 res).Ok B where
  f_ := rfl
  td_ := rfl
  ne := fun b hb => hb.2
  spH := fun td n s X Y hs h => by
    obtain ⟨h1, a, h2, h3⟩ := h
    obtain ⟨hg, cs, hb⟩ := hs
    exact ⟨h1, a, h2, h3.at_ hg hb (.inl ⟨rfl, hx1⟩) hx⟩
  spE := fun i s X Y hs h => by
    obtain ⟨dn, a, m, h1, h2, h3, h4, h5⟩ := h
    obtain ⟨hg, cs, hb⟩ := hs
    refine ⟨dn, a, m, h1, h2, h3, h4.at_ hg hb (.inl ⟨rfl, hx1⟩) hx, fun hn => ?_⟩
    obtain ⟨lb, k1, k2, k3⟩ := h5 hn
    exact ⟨lb, k1, k2.grown hg (fun e => Blk.ne_ k2 hb (by decide) (by injection e)), k3⟩
  ownH := fun t W W' row h hg hr => by
    obtain ⟨h1, a, h2, h3⟩ := h
    exact ⟨h1, a, h2, h3.own hg (fun r e => ⟨Nat.le_trans hB (hr r e).1, (hr r e).2⟩)⟩
  ownE := fun t W W' row h hg hr => by
    obtain ⟨dn, a, m, h1, h2, h3, h4, h5⟩ := h
    refine ⟨dn, a, m, h1, h2, h3, h4.own hg (fun r e => ⟨Nat.le_trans hB (hr r e).1, (hr r e).2⟩), fun hn => ?_⟩
    obtain ⟨lb, k1, k2, k3⟩ := h5 hn
    exact ⟨lb, k1, k2.own hg (fun r e => (hr r e).2), k3⟩
  same := fun s X _ h => by
    obtain ⟨h1, a, h2, h3⟩ := h
    refine ⟨[], a, 0, by rw [h1]; rfl, rfl, ?_, h3, fun hn => absurd h1 hn⟩
    rw [h1] at h2
    exact h2
  made := fun n s X Y lb hM hn8 hne h hs hlb hbl => by
    obtain ⟨h1, a, h2, h3⟩ := h
    obtain ⟨hg, cs, hb⟩ := hs
    have hxl := hM.x.lt
    have hwx := h3.st.size
    refine ⟨⟨Nat.le_trans hwx hlb, fun e => by have h5 : xb < X.heap.size := hxl; omega⟩, [], a, n, rfl, rfl, h2, h3.at_ hg hb (.inl ⟨rfl, hx1⟩) hx, fun _ => ⟨lb, by simp, ?_, Nat.le_trans hwx hlb⟩⟩
    rw [zeros_is] at hbl
    exact hbl

/-- Of an operand: where it stands, what is read, what is left. -/
structure RdN (w0 : World) (g nb n1 n2 : Nat) (bs : List UInt8) (I : Its) (res : Rs Ins) (x : Ev) (W : World) (q i : Nat) (t : TypeId) (cs : Array Value) (a : Nat) (r : Rs Int) : Prop where
  fm : (x.w = some ⟨q, i, none⟩ ∧ x.p = none ∧ r = sR bs a) ∨ (x.w = none ∧ x.p = some ⟨q, i, none⟩ ∧ r = smR bs a x.kd.most ∧ Whole x.kd.most)
  b : Blk W q t cs
  ht : (t = 24 ∧ q ≠ n1) ∨ t = 3
  hi : i < cs.size
  hq : w0.heap.size ≤ q
  h : RdM w0 g nb n1 n2 bs a W
  flt : ∀ c y b, r = .flt c y b → res = .flt c y b
  next : ∀ v b W1, r = .ok v b → W.grownBy W1 (some g) → Rdr W1 g bs b 0 → I.after x (W1.setCell ⟨q, i, none⟩ (.int .i64 v))
theorem list_set_next (dn : List Int) (m : Nat) (v : Int) : (dn ++ List.replicate (m + 1) 0).set dn.length v = (dn ++ [v]) ++ List.replicate m 0 := by
  rw [List.set_append_right _ _ (Nat.le_refl _), Nat.sub_self, List.replicate_succ, List.set_cons_zero, List.append_assoc]
  rfl
theorem rdE_succ (most : Int) (bs : List UInt8) (m a : Nat) (op x y z u : Int) (dn : List Int) : ((rdE most bs (m + 1) a).bind fun l b => (.ok ⟨op, x, y, z, u, dn ++ l⟩ b : Rs Ins)) = (smR bs a most).bind fun v b => (rdE most bs m b).bind fun l c => .ok ⟨op, x, y, z, u, (dn ++ [v]) ++ l⟩ c := by
  rw [rdE]
  cases smR bs a most with
  | flt c y b => rfl
  | ok v b =>
    rw [Rs.bind_ok, Rs.bind_ok]
    cases rdE most bs m b with
    | flt c y b => rfl
    | ok l c =>
      rw [Rs.bind_ok, Rs.bind_ok, Rs.bind_ok, List.append_assoc]
      rfl
theorem whole_k (c : Kl) (k : Fld) : Whole (kOf (fmOf c) k).most := by
  cases c <;> cases k <;> constructor <;> simp [kOf, fmOf, k0, kR]
theorem rd_num {w0 : World} {g nb n1 n2 : Nat} {bs : List UInt8} {b0 xb : Nat} {op : Int} {lv0 : Value} {res : Rs Ins} {pre : List Ev} {x : Ev} {W : World} (hx : w0.heap.size ≤ xb) (hx1 : xb ≠ n1) (hb0 : w0.heap.size ≤ b0) (h : (rdI w0 g nb n1 n2 bs b0 xb op lv0 res).Tm pre x W) :
    ∃ q i t cs a r, RdN w0 g nb n1 n2 bs (rdI w0 g nb n1 n2 bs b0 xb op lv0 res) res x W q i t cs a r := by
  obtain ⟨k, w, p, kd, td, lv, cb, fb⟩ := x
  obtain ⟨hb, s, hM, hlv, h⟩ := h
  dsimp only at *
  -- an operand of the instruction itself
  have H : ∀ (i : Nat) (s' : Int → Sg) (td' : List Fld) (a : Nat) (r : Rs Int), (w = some ⟨xb, i, none⟩ ∧ p = none ∧ r = sR bs a ∨ w = none ∧ p = some ⟨xb, i, none⟩ ∧ r = smR bs a kd.most ∧ Whole kd.most) → i < 6 → s.l = [] → RdM w0 g nb n1 n2 bs a W →
      res = (r.bind fun v b => run (fmOf (clI op)) bs td' (fmOf (clI op)).most ((s' v).ins op) b) → (∀ v, (s.cells op).setIfInBounds i (.int .i64 v) = (s' v).cells op) → (∀ v, (s' v).lv = s.lv) → (∀ v, (s' v).l = s.l) →
      (∀ W' s1, Blk W' fb 82 (fmC (fmOf (clI op))) → (rdI w0 g nb n1 n2 bs b0 xb op lv0 res).M s1 W' → s1.lv = lv → rdRH w0 g nb n1 n2 bs (fmOf (clI op)) op res td' (fmOf (clI op)).most s1 W' → (rdI w0 g nb n1 n2 bs b0 xb op lv0 res).after ⟨k, w, p, kd, td, lv, cb, fb⟩ W') →
      ∃ q i t cs a r, RdN w0 g nb n1 n2 bs (rdI w0 g nb n1 n2 bs b0 xb op lv0 res) res ⟨k, w, p, kd, td, lv, cb, fb⟩ W q i t cs a r := by
    intro i s' td' a r hfm hi hl hm hres hcs hlv' hl' hnext
    refine ⟨xb, i, 24, s.cells op, a, r, hfm, hM.x, .inl ⟨rfl, hx1⟩, hi, hx, hm, fun c y b e => by rw [hres, e]; rfl, fun v b W1 e hg hr => ?_⟩
    obtain ⟨cg, hbg⟩ := hm.rd.blk
    have hp1 := hM.p.grown hg (fun e => Blk.ne_ hM.p hbg (by decide) (by injection e))
    have hx2 := hM.x.grown hg (fun e => Blk.ne_ hM.x hbg (by decide) (by injection e))
    have hf1 := hb.grown hg (fun e => Blk.ne_ hb hbg (by decide) (by injection e))
    have hg2 : W1.grownBy (W1.setCell ⟨xb, i, none⟩ (.int .i64 v)) (some xb) := only_setCell (only_refl _ _) rfl _
    refine hnext _ (s' v) (hf1.grown hg2 (fun e => Blk.ne_ hf1 hx2 (by decide) (by injection e))) ⟨hp1.grown hg2 (fun e => Blk.ne_ hp1 hx2 (by decide) (by injection e)), (show Blk _ xb _ ((s' v).cells op) from by rw [← hcs]; exact hx2.set_ i _), ?_, by rw [hl']; exact hM.le⟩ (by rw [hlv']; exact hlv) ⟨by rw [hl', hl], b, by rw [hres, e]; rfl, (hm.move hg hr).at_ hg2 hx2 (.inl ⟨rfl, hx1⟩) hx⟩
    obtain ⟨A, c, e1, _⟩ := hM.l
    rw [hl', hlv']
    exact ⟨A, c, e1, fun hn => absurd hl hn⟩
  cases k with
  | A =>
    obtain ⟨hw, hp, hkd, hl, a, hres, hm⟩ := h
    exact H 1 (fun v => { s with a := v }) td a _ (.inl ⟨hw, hp, rfl⟩) (by decide) hl hm hres (fun _ => rfl) (fun _ => rfl) (fun _ => rfl) (fun W' s1 k1 k2 k3 k4 => ⟨k1, s1, k2, k3, k4⟩)
  | B =>
    obtain ⟨hw, hp, hkd, hl, a, hres, hm⟩ := h
    have hwk := whole_k (clI op) .B
    exact H 2 (fun v => { s with b := v }) td a _ (.inr ⟨hw, hp, rfl, by rw [hkd]; exact hwk⟩) (by decide) hl hm (by rw [hkd]; exact hres) (fun _ => rfl) (fun _ => rfl) (fun _ => rfl) (fun W' s1 k1 k2 k3 k4 => ⟨k1, s1, k2, k3, k4⟩)
  | C =>
    obtain ⟨hw, hp, hkd, hl, a, hres, hm⟩ := h
    have hwk := whole_k (clI op) .C
    exact H 3 (fun v => { s with c := v }) td a _ (.inr ⟨hw, hp, rfl, by rw [hkd]; exact hwk⟩) (by decide) hl hm (by rw [hkd]; exact hres) (fun _ => rfl) (fun _ => rfl) (fun _ => rfl) (fun W' s1 k1 k2 k3 k4 => ⟨k1, s1, k2, k3, k4⟩)
  | D =>
    obtain ⟨hw, hp, hkd, hl, a, hres, hm⟩ := h
    have hwk := whole_k (clI op) .D
    exact H 4 (fun v => { s with d := v }) td a _ (.inr ⟨hw, hp, rfl, by rw [hkd]; exact hwk⟩) (by decide) hl hm (by rw [hkd]; exact hres) (fun _ => rfl) (fun _ => rfl) (fun _ => rfl) (fun W' s1 k1 k2 k3 k4 => ⟨k1, s1, k2, k3, k4⟩)
  | N =>
    obtain ⟨hw, hp, hkd, hlt, hc, hl, a, hres, hm⟩ := h
    have hcb : w0.heap.size ≤ cb := by
      have hlt' : b0 < cb := hlt
      omega
    have hwk := whole_k (clI op) .N
    refine ⟨cb, 0, 3, _, a, smR bs a kd.most, .inr ⟨hw, hp, rfl, by rw [hkd]; exact hwk⟩, hc, .inr rfl, by simp, hcb, hm, fun c y b e => by
      rw [hkd] at e
      have e' : smR bs a ((fmOf (clI op)).most : Int) = .flt c y b := e
      rw [hres, run, e']; rfl, fun v b W1 e hg hr => ?_⟩
    rw [hkd] at e
    have e' : smR bs a ((fmOf (clI op)).most : Int) = .ok v b := e
    obtain ⟨cg, hbg⟩ := hm.rd.blk
    have hp1 := hM.p.grown hg (fun e => Blk.ne_ hM.p hbg (by decide) (by injection e))
    have hx2 := hM.x.grown hg (fun e => Blk.ne_ hM.x hbg (by decide) (by injection e))
    have hf1 := hb.grown hg (fun e => Blk.ne_ hb hbg (by decide) (by injection e))
    have hc1 := hc.grown hg (fun e => Blk.ne_ hc hbg (by decide) (by injection e))
    have hg2 : W1.grownBy (W1.setCell ⟨cb, 0, none⟩ (.int .i64 v)) (some cb) := only_setCell (only_refl _ _) rfl _
    obtain ⟨z0, z1, _⟩ := smR_is e
    have h8 : (fmOf (clI op)).most ≤ 8 := by cases clI op <;> simp [fmOf]
    have hvn : ((v.toNat : Nat) : Int) = v := by omega
    have hv8 : v.toNat ≤ 8 := by
      have z1' : v ≤ ((fmOf (clI op)).most : Int) := z1
      omega
    refine ⟨hf1.grown hg2 (fun e => Blk.ne_ hf1 hc1 (by decide) (by injection e)), s, ⟨hp1.grown hg2 (fun e => Blk.ne_ hp1 hc1 (by decide) (by injection e)), hx2.grown hg2 (fun e => Blk.ne_ hx2 hc1 (by decide) (by injection e)), ?_, hM.le⟩, hlv, v.toNat, hv8, by rw [hvn]; exact hc1.set_ 0 _, hl, b, by
      rw [hres]
      show (smR bs a ((fmOf (clI op)).most : Int)).bind _ = _
      rw [e']; rfl, (hm.move hg hr).at_ hg2 hc1 (.inr rfl) hcb⟩
    obtain ⟨A, c, e1, _⟩ := hM.l
    exact ⟨A, c, e1, fun hn => absurd hl hn⟩
  | E i =>
    obtain ⟨hi, hw, ⟨b, off, c, hl0, hp⟩, hkd, dn, a, m, hl, hdn, hres, hm, hlb⟩ := h
    have hne : s.l ≠ [] := by intro e; rw [e] at hi; simp at hi
    obtain ⟨lb, k1, k2, k3⟩ := hlb hne
    rw [hl0] at k1
    injection k1 with k1 _ k1c
    injection k1 with k1
    injection k1 with e5 e6 _
    subst e5 e6 k1c
    obtain ⟨m, rfl⟩ : ∃ m', m = m' + 1 := by
      cases m with
      | zero => rw [hl] at hi; simp at hi; omega
      | succ m' => exact ⟨m', rfl⟩
    have hwk := whole_k (clI op) (.E i)
    rw [Nat.zero_add] at hp
    rw [rdE_succ] at hres
    subst hdn
    have hsize : (s.l.map zV).toArray.size = s.l.length := by simp
    refine ⟨b, dn.length, 3, _, a, smR bs a kd.most, .inr ⟨hw, hp, rfl, by rw [hkd]; exact hwk⟩, k2, .inr rfl, by rw [hsize]; exact hi, k3, hm, fun c y b e => by rw [hkd] at e; rw [hres]; exact (by rw [show (fmOf (clI op)).each.most = (rdI w0 g nb n1 n2 bs b0 xb op lv0 res).f.each.most from rfl, e]; rfl), fun v b' W1 e hg hr => ?_⟩
    rw [hkd] at e
    obtain ⟨cg, hbg⟩ := hm.rd.blk
    have hp1 := hM.p.grown hg (fun e => Blk.ne_ hM.p hbg (by decide) (by injection e))
    have hx2 := hM.x.grown hg (fun e => Blk.ne_ hM.x hbg (by decide) (by injection e))
    have hf1 := hb.grown hg (fun e => Blk.ne_ hb hbg (by decide) (by injection e))
    have hc1 := k2.grown hg (fun e => Blk.ne_ k2 hbg (by decide) (by injection e))
    have hg2 : W1.grownBy (W1.setCell ⟨b, dn.length, none⟩ (.int .i64 v)) (some b) := only_setCell (only_refl _ _) rfl _
    have hset : s.l.set dn.length v = (dn ++ [v]) ++ List.replicate m 0 := by rw [hl]; exact list_set_next _ _ _
    have hbl : Blk (W1.setCell ⟨b, dn.length, none⟩ (.int .i64 v)) b 3 ((s.l.set dn.length v).map zV).toArray := by
      have := hc1.set_ dn.length (.int .i64 v)
      rw [List.map_set]
      simpa [zV] using this
    refine ⟨hf1.grown hg2 (fun e => Blk.ne_ hf1 hc1 (by decide) (by injection e)), { s with l := s.l.set dn.length v }, ⟨hp1.grown hg2 (fun e => Blk.ne_ hp1 hc1 (by decide) (by injection e)), hx2.grown hg2 (fun e => Blk.ne_ hx2 hc1 (by decide) (by injection e)), ?_, by simpa using hM.le⟩, hlv, dn ++ [v], b', m, hset, by simp, by
      have e' : smR bs a (fmOf (clI op)).each.most = .ok v b' := e
      rw [hres, e']; rfl, (hm.move hg hr).at_ hg2 hc1 (.inr rfl) k3, fun _ => ⟨b, by simpa using hl0, hbl, k3⟩⟩
    refine ⟨_, s.l.length, by simpa using hl0, fun _ => ⟨b, 0, rfl, ?_, fun j z hz => ?_⟩⟩
    · obtain ⟨A', c', e1, e2⟩ := hM.l
      obtain ⟨b', off', e3, eS, _⟩ := e2 hne
      rw [hl0, e3] at e1
      injection e1 with e1 _ _
      injection e1 with e1
      injection e1 with e1 _ _
      subst e1
      exact eS
    · have := hbl.cell j
      rw [Nat.zero_add, this]
      simp only [List.getElem?_toArray, List.getElem?_map, hz]
      rfl
end Go.Proofs.YtmbdaenjeeklfaaDoor

/- insn: Read: an instruction is taken from a reader's bytes. -/
namespace Go.Proofs.YtmbdaenjeeklfaaDoor
open Go.RowKit Go.Shelf
attribute [local go_sem] Oper.semAt_some

def zI : Array Value := #[.int .i64 0, .int .i64 0, .int .i64 0, .int .i64 0, .int .i64 0, .slice none 0 0]
/-- What Read answers. -/
def SaysI (g : Nat) (bs : List UInt8) (w : World) (r : Rs Ins) (e : Ending) (w' : World) : Prop := match r with
  | .ok x b => ∃ s : Sg, s.ins x.op = x ∧ e = .returned (.tuple #[.agg (s.cells x.op), .nilIface]) ∧ IntsA (fun k => w.heap.size ≤ k ∧ k < w'.heap.size ∧ k ≠ g) w' s.lv s.l ∧ w.grownBy w' (some g) ∧ Rdr w' g bs b 0
  | .flt c y b => ∃ fb, e = .returned (.tuple #[.agg zI, .iface 91 (.pointer (some ⟨fb, 0, none⟩))]) ∧ Flt w' fb c (y : Int) ∧ w.heap.size ≤ fb ∧ w.grownBy w' (some g) ∧ Rdr w' g bs b 0
theorem read_res {tmps : Array Value} {W : World} {n1 n2 : Nat} {c0 c1 c2 c3 c4 c5 v : Value} (h2 : tmps.getD 2 undef = .pointer (some ⟨n1, 0, none⟩)) (h3 : tmps.getD 3 undef = .pointer (some ⟨n2, 0, none⟩)) (hb : Blk W n1 24 #[c0, c1, c2, c3, c4, c5]) (hc : Blk W n2 44 #[v]) :
    (results Tryd.f21 tmps).run Tryd.prog W = .ok (.tuple #[.agg #[c0, c1, c2, c3, c4, c5], v]) W := by
  have h2' : tmps[2]?.getD undef = .pointer (some ⟨n1, 0, none⟩) := by simpa using h2
  have h3' : tmps[3]?.getD undef = .pointer (some ⟨n2, 0, none⟩) := by simpa using h3
  have k0 := hb.cell 0
  have k1 := hb.cell 1
  have k2 := hb.cell 2
  have k3 := hb.cell 3
  have k4 := hb.cell 4
  have k5 := hb.cell 5
  have kv := hc.cell 0
  simp [results, Tryd.results21, h2', h3', go_sem, k0, k1, k2, k3, k4, k5, kv]

/-- Read's results are stored. -/
abbrev putR (W : World) (n1 n2 : Nat) (c0 c1 c2 c3 c4 c5 v : Value) : World :=
  ((((((W.setCell ⟨n1, 0, none⟩ c0).setCell ⟨n1, 1, none⟩ c1).setCell ⟨n1, 2, none⟩ c2).setCell ⟨n1, 3, none⟩ c3).setCell ⟨n1, 4, none⟩ c4).setCell ⟨n1, 5, none⟩ c5).setCell ⟨n2, 0, none⟩ v
/-- What stands as Read leaves. -/
structure RdE (w : World) (g n1 n2 : Nat) (bs : List UInt8) (a : Nat) (cs : Array Value) (v : Value) (W : World) : Prop where
  r1 : Blk W n1 24 cs
  r2 : Blk W n2 44 #[v]
  st : w.grownBy W (some g)
  rd : Rdr W g bs a 0
theorem RdE.own {w W W' : World} {g n1 n2 a : Nat} {bs : List UInt8} {cs : Array Value} {v : Value} {row : Option Nat} (h : RdE w g n1 n2 bs a cs v W) (hg : W.grownBy W' row) (hr : ∀ r, row = some r → w.heap.size ≤ r ∧ ∃ o : Obj, W.heap[r]? = some o ∧ o.isCells = false) : RdE w g n1 n2 bs a cs v W' := by
  have hr2 := fun r e => (hr r e).2
  refine ⟨h.r1.own hg hr2, h.r2.own hg hr2, ?_, h.rd.own hg hr2⟩
  cases row with
  | none => exact only_trans h.st (only_weak hg _)
  | some k => exact only_new' h.st hg (hr k rfl).1
theorem set_row {X W : World} {n : Nat} (h : X.grownBy W (some n)) (i : Nat) (v : Value) : X.grownBy (W.setCell ⟨n, i, none⟩ v) (some n) := only_setCell (p := ⟨n, i, none⟩) h rfl v
theorem putR_end {w W : World} {g nb n1 n2 a : Nat} {bs : List UInt8} (h : RdM w g nb n1 n2 bs a W) (g1 : w.heap.size ≤ n1) (g2 : w.heap.size ≤ n2) (c0 c1 c2 c3 c4 c5 v : Value) :
    RdE w g n1 n2 bs a #[c0, c1, c2, c3, c4, c5] v (putR W n1 n2 c0 c1 c2 c3 c4 c5 v) ∧
    (∀ p u, W.cell? p = some u → p.block ≠ n1 → p.block ≠ n2 → (putR W n1 n2 c0 c1 c2 c3 c4 c5 v).cell? p = some u) ∧
    (∀ k t cs, Blk W k t cs → k ≠ n1 → k ≠ n2 → Blk (putR W n1 n2 c0 c1 c2 c3 c4 c5 v) k t cs) ∧ W.heap.size ≤ (putR W n1 n2 c0 c1 c2 c3 c4 c5 v).heap.size := by
  have hne : n2 ≠ n1 := Blk.ne_ h.r2 h.r1 (by decide)
  have ha : W.grownBy (((((((W.setCell ⟨n1, 0, none⟩ c0).setCell ⟨n1, 1, none⟩ c1).setCell ⟨n1, 2, none⟩ c2).setCell ⟨n1, 3, none⟩ c3).setCell ⟨n1, 4, none⟩ c4).setCell ⟨n1, 5, none⟩ c5)) (some n1) :=
    set_row (set_row (set_row (set_row (set_row (set_row (only_refl W (some n1)) 0 c0) 1 c1) 2 c2) 3 c3) 4 c4) 5 c5
  have b1 := (((((h.r1.set_ 0 c0).set_ 1 c1).set_ 2 c2).set_ 3 c3).set_ 4 c4).set_ 5 c5
  unfold putR
  generalize ((((((W.setCell ⟨n1, 0, none⟩ c0).setCell ⟨n1, 1, none⟩ c1).setCell ⟨n1, 2, none⟩ c2).setCell ⟨n1, 3, none⟩ c3).setCell ⟨n1, 4, none⟩ c4).setCell ⟨n1, 5, none⟩ c5) = Wa at ha b1 ⊢
  have b1' : Blk Wa n1 24 #[c0, c1, c2, c3, c4, c5] := b1
  obtain ⟨cg, hbg⟩ := h.rd.blk
  have hgn1 : g ≠ n1 := Blk.ne_ hbg h.r1 (by decide)
  have hgn2 : g ≠ n2 := Blk.ne_ hbg h.r2 (by decide)
  have b2 := h.r2.grown ha (fun e => hne (by injection e))
  have hb : Wa.grownBy (Wa.setCell ⟨n2, 0, none⟩ v) (some n2) := only_setCell (only_refl _ _) rfl _
  refine ⟨⟨b1'.grown hb (fun e => hne (by injection e with e; exact e.symm)), b2.set_ 0 v, only_new' (only_new' h.st ha g1) hb g2, ?_⟩, fun p u hp k1 k2 => cell_row (cell_row hp ha (fun e => k1 (by injection e))) hb (fun e => k2 (by injection e)), fun k t cs hk k1 k2 => (hk.grown ha (fun e => k1 (by injection e))).grown hb (fun e => k2 (by injection e)), Nat.le_trans ha.size hb.size⟩
  refine (h.rd.grown ha (fun e => hgn1 (by injection e)) (fun k e => by injection e with e; subst e; exact ⟨_, _, h.r1, by decide⟩)).grown hb (fun e => hgn2 (by injection e)) (fun k e => by injection e with e; subst e; exact ⟨_, _, b2, by decide⟩)

def rdX (w : World) (g n1 n2 : Nat) (bs : List UInt8) (res : Rs Ins) (c : Code) (_ : List Ev) (W : World) : Prop := c = .ret ∧ ∃ (cd : Int) (y b fb : Nat), res = .flt cd y b ∧ Flt W fb cd (y : Int) ∧ w.heap.size ≤ fb ∧ RdE w g n1 n2 bs b zI (.iface 91 (.pointer (some ⟨fb, 0, none⟩))) W
theorem rdX_own {w : World} {g n1 n2 B : Nat} {bs : List UInt8} {res : Rs Ins} (hB : w.heap.size ≤ B) (c : Code) : OwnFrom B (rdX w g n1 n2 bs res c) := fun _ _ _ row h hg hr => by
  obtain ⟨h1, cd, y, b, fb, h2, h3, h4, h5⟩ := h
  exact ⟨h1, cd, y, b, fb, h2, Blk.own h3 hg (fun r e => (hr r e).2), h4, h5.own hg (fun r e => ⟨Nat.le_trans hB (hr r e).1, (hr r e).2⟩)⟩
theorem IntsA.below {S : Nat → Prop} {W : World} {v : Value} {zs : List Int} (h : IntsA S W v zs) : IntsA (fun b => b < W.heap.size) W v zs := by
  obtain ⟨A, c, h1, h2⟩ := h
  refine ⟨A, c, h1, fun hn => ?_⟩
  obtain ⟨b, off, h3, _, h5⟩ := h2 hn
  refine ⟨b, off, h3, ?_, h5⟩
  obtain ⟨z, hz⟩ : ∃ z, zs[0]? = some z := by
    cases zs with
    | nil => exact absurd rfl hn
    | cons z _ => exact ⟨z, rfl⟩
  have h6 := h5 0 z hz
  show b < W.heap.size
  rcases Nat.lt_or_ge b W.heap.size with hl | hl
  · exact hl
  · unfold World.cell? at h6
    rw [Array.getElem?_eq_none hl] at h6
    simp at h6
theorem keeps_put (W : World) (n1 n2 : Nat) (c0 c1 c2 c3 c4 c5 v : Value) : KeepsOthers W (putR W n1 n2 c0 c1 c2 c3 c4 c5 v) :=
  (((((((KeepsOthers.setCell _ _ _).trans (KeepsOthers.setCell _ _ _)).trans (KeepsOthers.setCell _ _ _)).trans (KeepsOthers.setCell _ _ _)).trans (KeepsOthers.setCell _ _ _)).trans (KeepsOthers.setCell _ _ _)).trans (KeepsOthers.setCell _ _ _))
theorem keeps_g {W W1 : World} {g a : Nat} {bs : List UInt8} (h : Rdr W g bs a 0) (hg : W.grownBy W1 (some g)) (p : Addr) (v : Value) : KeepsOthers W (W1.setCell p v) := by
  obtain ⟨cs, hb⟩ := h.blk
  refine (KeepsOthers.of_grownBy hg (fun j o e ho => ?_)).trans (KeepsOthers.setCell _ _ _)
  injection e with e
  subst e
  unfold Blk at hb
  rw [hb] at ho
  cases ho
  rfl

set_option maxRecDepth 100000 in
set_option maxHeartbeats 4000000 in
theorem read_any {w : World} {g a : Nat} {bs : List UInt8} (h : Rdr w g bs a 0) :
    Calls Tryd.prog 21 #[.pointer (some ⟨g, 0, none⟩)] w (SaysI g bs w (readI bs a)) := by
  refine (callsIn_wide (n := 3)).1 ?_
  refine callsIn_of_wp_marks Tryd.func21 rfl trivial ?_ rfl
  simp only [Tryd.ntmps21, List.size_toArray, List.length_cons, List.length_nil, Nat.reduceAdd, Nat.reduceSub, Array.replicate_succ, Array.replicate_zero, List.push_toArray, List.append_toArray, List.nil_append, List.cons_append]
  have h0 : w.grownBy (((w.alloc (.cells #[.pointer (some ⟨g, 0, none⟩)] 38)).alloc (.cells zI 24)).alloc (.cells #[.nilIface] 44)) none := only_alloc (only_alloc (only_alloc (only_refl _ _) _) _) _
  have hM0 : RdM w g w.heap.size (w.heap.size + 1) (w.heap.size + 1 + 1) bs a (((w.alloc (.cells #[.pointer (some ⟨g, 0, none⟩)] 38)).alloc (.cells zI 24)).alloc (.cells #[.nilIface] 44)) :=
    ⟨h.kept h0, ((Blk.new w _ _).alloc _).alloc _, (blk_new_at (by simp) _ _).alloc _, blk_new_at (by simp) _ _, only_weak h0 _⟩
  have hgl := h.lt
  have hpl := place_step hM0.rd
  rw [cast0] at hpl
  have c0 := hM0.bx.cell 0
  have HM0 := Lib.hid hM0
  clear h h0 hM0
  unfold zI at *
  gi_upto_region 2 with (refine ⟨trivial, ?_⟩; gi_at_call 25; refine (callsIn_wide.2 hpl).mono ?_; rintro e w1 ⟨rfl, hg1⟩; have c1 := (HM0.out.none_ hg1).bx.cell 0)
  have HM1 := Lib.hid (HM0.out.none_ hg1)
  clear hg1 hpl c0
  have hle := HM1.out.rd.le
  cases hu : bs[a]? with
  | none =>
    have hal : a = bs.length := by
      have := List.getElem?_eq_none_iff.1 hu
      omega
    have hri : Hid (readI bs a = .flt 3 a a) := by
      show readI bs a = _
      unfold readI; rw [hu]
    have HB := byte_short HM1.out.rd hal
    rw [cast0] at HB
    gi_upto_region 4 with (refine ⟨trivial, ?_⟩; gi_at_call 43; refine (callsIn_wide.2 HB).mono ?_; rintro e w2 ⟨fb, rfl, hf, hge, hg2⟩)
    have hM2 := HM1.out.none_ hg2
    have hPE := Lib.hid (putR_end hM2 (by omega) (by omega) (.int .i64 0) (.int .i64 0) (.int .i64 0) (.int .i64 0) (.int .i64 0) (.slice none 0 0) (.iface 91 (.pointer (some ⟨fb, 0, none⟩))))
    have x0 := hM2.r1.cell 0
    have x1 := hM2.r1.cell 1
    have x2 := hM2.r1.cell 2
    have x3 := hM2.r1.cell 3
    have x4 := hM2.r1.cell 4
    have x5 := hM2.r1.cell 5
    have y0 := hM2.r1.frozen 0
    have y1 := hM2.r1.frozen 1
    have y2 := hM2.r1.frozen 2
    have y3 := hM2.r1.frozen 3
    have y4 := hM2.r1.frozen 4
    have y5 := hM2.r1.frozen 5
    have e0 := hM2.r2.cell 0
    have e1 := hM2.r2.frozen 0
    have HF := Lib.hid (hPE.out.2.2.1 _ _ _ hf (Blk.ne_ hf hM2.r1 (by decide)) (Blk.ne_ hf hM2.r2 (by decide)))
    have hge' : w.heap.size ≤ fb := Nat.le_trans HM1.out.st.size hge
    clear hf hge hg2 hM2 HB
    gi_wp2_with fail
    refine ret_unmarked (read_res rfl rfl hPE.out.1.r1 hPE.out.1.r2) ?_
    rw [hri.out]
    exact ⟨fb, rfl, HF.out, hge', hPE.out.1.st, hPE.out.1.rd⟩
  | some u =>
    have HB := byte_ok HM1.out.rd u hu
    obtain ⟨op, hop⟩ : ∃ op : Int, (u.toNat : Int) = op := ⟨_, rfl⟩
    have hri : Hid (readI bs a = fin a (opsR (clI op) op bs (a + 1))) := by
      show readI bs a = _
      unfold readI
      rw [hu, ← hop]
      have : clI (u.toNat : Int) = clN u.toNat := by
        unfold clI
        rw [if_neg (by omega)]
        rfl
      rw [this]
    have hu8 := u.toNat_lt
    have hop0 : 0 ≤ op := by omega
    have hop1 : op < 256 := by omega
    rw [hop] at HB
    clear hop hu8 hu
    gi_upto_region 6 with (refine ⟨trivial, ?_⟩; gi_at_call 43; refine (callsIn_wide.2 HB).mono ?_; rintro e w2 ⟨rfl, hg2, hr2⟩)
    have hM2 := HM1.out.move hg2 hr2
    clear HB hg2 hr2
    have hg3 : w2.grownBy (w2.alloc (.cells #[.int .i64 op, .int .i64 0, .int .i64 0, .int .i64 0, .int .i64 0, .slice none 0 0] 24)) none := only_alloc (only_refl _ _) _
    have hM3 := hM2.none_ hg3
    have hx3 := Blk.new w2 24 #[.int .i64 op, .int .i64 0, .int .i64 0, .int .i64 0, .int .i64 0, .slice none 0 0]
    have hxge : w.heap.size ≤ w2.heap.size := hM2.st.size
    have hxn : w2.heap.size ≠ w.heap.size + 1 := by have := hM2.r1.lt; omega
    clear hM2 hg3
    generalize w2.alloc (.cells #[.int .i64 op, .int .i64 0, .int .i64 0, .int .i64 0, .int .i64 0, .slice none 0 0] 24) = W3 at *
    generalize w2.heap.size = xb at *
    gi_wp2_with (refine ⟨trivial, ?_⟩; gi_at_call 35; refine (callsIn_wide.2 (operands_any _ _)).mono ?_; rintro e w' ⟨rfl, rfl⟩)
    have hg4 : W3.grownBy (W3.alloc (.cells #[.pointer (some ⟨xb, 0, none⟩)] 70)) none := only_alloc (only_refl _ _) _
    have hM4 := hM3.none_ hg4
    have hM : Mem (fun b => w.heap.size ≤ b ∧ b ≠ xb) W3.heap.size xb op ⟨0, 0, 0, 0, .slice none 0 0, []⟩ (W3.alloc (.cells #[.pointer (some ⟨xb, 0, none⟩)] 70)) :=
      ⟨Blk.new _ _ _, hx3.alloc _, ⟨none, 0, rfl, fun h => absurd rfl h⟩, by simp⟩
    have hsz : w.heap.size ≤ (W3.alloc (.cells #[.pointer (some ⟨xb, 0, none⟩)] 70)).heap.size := hM4.st.size
    have hb0g : w.heap.size ≤ W3.heap.size := hM3.st.size
    have hxl := hx3.lt
    clear hM3 hx3 hg4
    generalize W3.alloc (.cells #[.pointer (some ⟨xb, 0, none⟩)] 70) = W0 at *
    generalize W3.heap.size = b0 at *
    obtain ⟨res, hres⟩ : ∃ res, opsR (clI op) op bs (a + 1) = res := ⟨_, rfl⟩
    have ok := rd_ok (w0 := w) (g := g) (nb := w.heap.size) (n1 := w.heap.size + 1) (n2 := w.heap.size + 1 + 1) (bs := bs) (b0 := b0) (xb := xb) (op := op) (lv0 := .slice none 0 0) (res := res) (B := W0.heap.size) hxge hxn hsz
    have hT0 : (rdI w g w.heap.size (w.heap.size + 1) (w.heap.size + 1 + 1) bs b0 xb op (.slice none 0 0) res).T [] W0 := ⟨_, hM, rfl, rfl, a + 1, hres.symm, hM4⟩
    have HRI : Hid (readI bs a = fin a res) := by
      have := hri.out
      rw [hres] at this
      exact this
    clear hM hM4 hres hri
    refine wpIn_rangeFunc_handsB rfl (by omega) (gf := 52) (lb := #[.pointer (some ⟨b0, 0, none⟩)]) rfl trivial (enters_of Tryd.func52 (by kernel_rfl) rfl)
      (operands_in (rdI w g w.heap.size (w.heap.size + 1) (w.heap.size + 1 + 1) bs b0 xb op (.slice none 0 0) res) W0.heap.size ok) sp_keeps (fun _ => rfl) ok.ownT ok.ownEE ok.ownTm
      (fun _ _ => True) (rdX w g (w.heap.size + 1) (w.heap.size + 1 + 1) bs res) (fun _ _ _ _ _ _ _ => trivial) (rdX_own hsz) (fun _ _ _ _ _ => trivial) trivial hT0 76 (fun x => #[.pointer x.w, .pointer x.p, .int .i64 x.kd.most, .bool x.kd.reg])
      (fun x b => { tmps := #[.pointer (some ⟨g, 0, none⟩), .pointer (some ⟨w.heap.size, 0, none⟩), .pointer (some ⟨w.heap.size + 1, 0, none⟩), .pointer (some ⟨w.heap.size + 1 + 1, 0, none⟩), .int .i64 (a : Int), .int .u8 op, .nilIface, .pointer (some ⟨xb, 0, none⟩), .pointer (some ⟨b, 0, none⟩), undef, undef, .pointer (some ⟨g, 0, none⟩), .int .i64 (a : Int), .tuple #[.int .u8 op, .nilIface], .pointer (some ⟨g, 0, none⟩), .tuple #[.int .u8 op, .nilIface], .int .u8 op, .nilIface, .nilIface, .bool false, undef, undef, .int .u8 op, .int .i64 op, .agg #[.int .i64 op, .int .i64 0, .int .i64 0, .int .i64 0, .int .i64 0, .slice none 0 0], .func (.func 52) #[] #[.pointer (some ⟨b0, 0, none⟩)], .agg #[.pointer x.w, .pointer x.p, .int .i64 x.kd.most, .bool x.kd.reg], undef, undef, undef, undef, undef, undef, undef, undef, undef, undef, undef, undef, undef, undef, undef, undef, undef, undef], defers := [] }) ?assign ?body ?done ?stop
    case assign =>
      intro l x W K hK
      dsimp only
      gi_wp2
      exact hK
    case stop =>
      rintro D c pre W hD ⟨rfl, cd, y, b, fb, hr, hf, hge, hE⟩ hK
      have HR : Hid (readI bs a = .flt cd y b) := by
        have := HRI.out
        rw [hr] at this
        exact this
      have hgo := grownBy_putObj' W D (.deferred none)
      have hro : ∀ r, some D = some r → w.heap.size ≤ r ∧ ∃ o : Obj, W.heap[r]? = some o ∧ o.isCells = false := fun r e => by injection e with e; subst e; exact ⟨by omega, _, hK, rfl⟩
      have HE := Lib.hid (hE.own hgo hro)
      have HF := Lib.hid (Blk.own hf hgo (fun r e => (hro r e).2))
      clear hE hf hgo hro hr
      gi_wp2_with fail
      refine ⟨by simp, .inl ⟨_, _, rfl, run_takeDeferred hK, ?_⟩⟩
      refine ⟨_, read_res rfl rfl HE.out.r1 HE.out.r2, ?_⟩
      rw [HR.out]
      exact ⟨fb, rfl, HF.out, hge, HE.out.st, HE.out.rd⟩
    case done =>
      rintro D xs W hD ⟨s, hM', hE⟩ _ hK
      obtain ⟨dn, a', m, hl, hdn, hr, hm, hlb⟩ := hE
      have hm0 : m = 0 := by
        have := congrArg List.length hl
        rw [List.length_append, List.length_replicate, hdn] at this
        omega
      subst hm0
      have hr' : res = .ok (s.ins op) a' := by
        rw [hr]
        show (Rs.ok ([] : List Int) a').bind _ = _
        rw [Rs.bind_ok, List.append_nil]
        have : dn = s.l := by rw [hl]; simp
        rw [this]; rfl
      have HR : Hid (readI bs a = if chkI (s.ins op) = 0 then .ok (s.ins op) a' else .flt (chkI (s.ins op)) a a') := by
        have := HRI.out
        rw [hr'] at this
        exact this
      have HC := check_any s op W hM'.l.below
      obtain ⟨A, cp, hlv, _⟩ := id hM'.l
      have hMx : Blk W xb 24 (s.cells op) := hM'.x
      have x0 := hMx.cell 0
      have x1 := hMx.cell 1
      have x2 := hMx.cell 2
      have x3 := hMx.cell 3
      have x4 := hMx.cell 4
      have x5 := hMx.cell 5
      have HX := Lib.hid hMx
      have HLl : Hid (IntsA (fun k => w.heap.size ≤ k ∧ k < W.heap.size ∧ ∃ cs, Blk W k 3 cs) W s.lv s.l) := by
        obtain ⟨A, c, e1, e2⟩ := hM'.l.below
        refine ⟨A, c, e1, fun hn => ?_⟩
        obtain ⟨b, off, e3, e4, e5⟩ := e2 hn
        obtain ⟨lb, k1, k2, k3⟩ := hlb hn
        rw [k1, e3] at e1
        injection e1 with e1 _ _
        injection e1 with e1
        injection e1 with e1 _ _
        subst e1
        exact ⟨_, off, e3, ⟨k3, e4, _, k2⟩, e5⟩
      have HM := Lib.hid hm
      have HLV := Lib.hid hlv
      simp only [Sg.cells] at x0 x1 x2 x3 x4 x5 HC
      rw [hlv] at x5 HC
      obtain ⟨ck, hck⟩ : ∃ ck, chkI (s.ins op) = ck := ⟨_, rfl⟩
      rw [hck] at HC HR
      clear hM' hMx hl hdn hr hm hlb hr' hlv hck
      gi_upto_region 12 with (refine ⟨trivial, ?_⟩; gi_at_call 13; refine (callsIn_wide.2 HC).mono ?_; rintro e w3 ⟨rfl, hg3⟩)
      have hm3 := HM.out.none_ hg3
      have hx3 := HX.out.kept hg3
      by_cases hc0 : ck = 0
      · subst hc0
        have HR0 : Hid (readI bs a = .ok (s.ins op) a') := HR.out
        have q0 := hx3.cell 0
        have q1 := hx3.cell 1
        have q2 := hx3.cell 2
        have q3 := hx3.cell 3
        have q4 := hx3.cell 4
        have q5 := hx3.cell 5
        have q5b := HLV.out
        simp only [Sg.cells] at q0 q1 q2 q3 q4 q5
        rw [q5b] at q5
        have z0 := hm3.r1.cell 0
        have zf0 := hm3.r1.frozen 0
        have z1 := hm3.r1.cell 1
        have zf1 := hm3.r1.frozen 1
        have z2 := hm3.r1.cell 2
        have zf2 := hm3.r1.frozen 2
        have z3 := hm3.r1.cell 3
        have zf3 := hm3.r1.frozen 3
        have z4 := hm3.r1.cell 4
        have zf4 := hm3.r1.frozen 4
        have z5 := hm3.r1.cell 5
        have zf5 := hm3.r1.frozen 5
        have ze := hm3.r2.cell 0
        have zef := hm3.r2.frozen 0
        have PE := Lib.hid (putR_end hm3 (by omega) (by omega) (.int .i64 op) (.int .i64 s.a) (.int .i64 s.b) (.int .i64 s.c) (.int .i64 s.d) (.slice A s.l.length cp) .nilIface)
        have hK2 := ((KeepsOthers.of_grownBy hg3 (fun j o e _ => by cases e)).trans (keeps_put w3 (w.heap.size + 1) (w.heap.size + 1 + 1) (.int .i64 op) (.int .i64 s.a) (.int .i64 s.b) (.int .i64 s.c) (.int .i64 s.d) (.slice A s.l.length cp) .nilIface)).same D _ hK rfl
        have hgo := grownBy_putObj' (putR w3 (w.heap.size + 1) (w.heap.size + 1 + 1) (.int .i64 op) (.int .i64 s.a) (.int .i64 s.b) (.int .i64 s.c) (.int .i64 s.d) (.slice A s.l.length cp) .nilIface) D (.deferred none)
        have hro : ∀ r, some D = some r → w.heap.size ≤ r ∧ ∃ o : Obj, (putR w3 (w.heap.size + 1) (w.heap.size + 1 + 1) (.int .i64 op) (.int .i64 s.a) (.int .i64 s.b) (.int .i64 s.c) (.int .i64 s.d) (.slice A s.l.length cp) .nilIface).heap[r]? = some o ∧ o.isCells = false := fun r e => by injection e with e; subst e; exact ⟨by omega, _, hK2, rfl⟩
        have HE := Lib.hid (PE.out.1.own hgo hro)
        have HI : Hid (IntsA (fun k => w.heap.size ≤ k ∧ k < ((putR w3 (w.heap.size + 1) (w.heap.size + 1 + 1) (.int .i64 op) (.int .i64 s.a) (.int .i64 s.b) (.int .i64 s.c) (.int .i64 s.d) (.slice A s.l.length cp) .nilIface).putObj D (.deferred none)).heap.size ∧ k ≠ g) ((putR w3 (w.heap.size + 1) (w.heap.size + 1 + 1) (.int .i64 op) (.int .i64 s.a) (.int .i64 s.b) (.int .i64 s.c) (.int .i64 s.d) (.slice A s.l.length cp) .nilIface).putObj D (.deferred none)) s.lv s.l) := by
          obtain ⟨A', c', e1, e2⟩ := HLl.out
          refine ⟨A', c', e1, fun hn => ?_⟩
          obtain ⟨k, off, e3, ⟨e4, e5, cs, e6⟩, e7⟩ := e2 hn
          have e6' := e6.kept hg3
          have hk1 := Blk.ne_ e6' hm3.r1 (by decide)
          have hk2 := Blk.ne_ e6' hm3.r2 (by decide)
          obtain ⟨cg, hbg⟩ := HM.out.rd.blk
          refine ⟨k, off, e3, ⟨e4, Nat.lt_of_lt_of_le (Nat.lt_of_lt_of_le e6'.lt PE.out.2.2.2) hgo.size, Blk.ne_ e6 hbg (by decide)⟩, fun i z hz => cell_own (PE.out.2.1 _ _ (cell_row (e7 i z hz) hg3 (fun e => by cases e)) hk1 hk2) hgo (fun r e => (hro r e).2)⟩
        have HK2 := Lib.hid hK2
        clear hm3 hx3 hg3 hgo hro q5b HC hK2
        gi_wp2_with fail
        refine ⟨by simp, .inl ⟨_, _, rfl, run_takeDeferred HK2.out, ?_⟩⟩
        refine ⟨_, read_res rfl rfl HE.out.r1 HE.out.r2, ?_⟩
        rw [HR0.out]
        refine ⟨s, rfl, ?_, HI.out, HE.out.st, HE.out.rd⟩
        show _ = Ending.returned (.tuple #[.agg (s.cells op), .nilIface])
        unfold Sg.cells
        rw [HLV.out]
      · have HR0 : Hid (readI bs a = .flt ck a a') := by
          have := HR.out
          rw [if_neg hc0] at this
          exact this
        clear HC
        gi_upto_region 13 with fail
        have hg4 : w3.grownBy (w3.alloc (.cells #[.int .i64 ck, .int .i64 (a : Int)] 48)) none := only_alloc (only_refl _ _) _
        have hf4 := Blk.new w3 48 #[.int .i64 ck, .int .i64 (a : Int)]
        have hm4 := hm3.none_ hg4
        obtain ⟨W4, hW4⟩ : ∃ W4, w3.alloc (.cells #[.int .i64 ck, .int .i64 (a : Int)] 48) = W4 := ⟨_, rfl⟩
        rw [hW4] at hg4 hf4 hm4
        have hge : w.heap.size ≤ w3.heap.size := hm3.st.size
        have z0 := hm4.r1.cell 0
        have zf0 := hm4.r1.frozen 0
        have z1 := hm4.r1.cell 1
        have zf1 := hm4.r1.frozen 1
        have z2 := hm4.r1.cell 2
        have zf2 := hm4.r1.frozen 2
        have z3 := hm4.r1.cell 3
        have zf3 := hm4.r1.frozen 3
        have z4 := hm4.r1.cell 4
        have zf4 := hm4.r1.frozen 4
        have z5 := hm4.r1.cell 5
        have zf5 := hm4.r1.frozen 5
        have ze := hm4.r2.cell 0
        have zef := hm4.r2.frozen 0
        have PE := Lib.hid (putR_end hm4 (by omega) (by omega) (.int .i64 0) (.int .i64 0) (.int .i64 0) (.int .i64 0) (.int .i64 0) (.slice none 0 0) (.iface 91 (.pointer (some ⟨w3.heap.size, 0, none⟩))))
        have hK2 := ((KeepsOthers.of_grownBy (only_trans hg3 hg4) (fun j o e _ => by cases e)).trans (keeps_put W4 (w.heap.size + 1) (w.heap.size + 1 + 1) (.int .i64 0) (.int .i64 0) (.int .i64 0) (.int .i64 0) (.int .i64 0) (.slice none 0 0) (.iface 91 (.pointer (some ⟨w3.heap.size, 0, none⟩))))).same D _ hK rfl
        have hgo := grownBy_putObj' (putR W4 (w.heap.size + 1) (w.heap.size + 1 + 1) (.int .i64 0) (.int .i64 0) (.int .i64 0) (.int .i64 0) (.int .i64 0) (.slice none 0 0) (.iface 91 (.pointer (some ⟨w3.heap.size, 0, none⟩)))) D (.deferred none)
        have hro : ∀ r, some D = some r → w.heap.size ≤ r ∧ ∃ o : Obj, (putR W4 (w.heap.size + 1) (w.heap.size + 1 + 1) (.int .i64 0) (.int .i64 0) (.int .i64 0) (.int .i64 0) (.int .i64 0) (.slice none 0 0) (.iface 91 (.pointer (some ⟨w3.heap.size, 0, none⟩)))).heap[r]? = some o ∧ o.isCells = false := fun r e => by injection e with e; subst e; exact ⟨by omega, _, hK2, rfl⟩
        have HE := Lib.hid (PE.out.1.own hgo hro)
        have HF := Lib.hid (Blk.own (PE.out.2.2.1 _ _ _ hf4 (Blk.ne_ hf4 hm4.r1 (by decide)) (Blk.ne_ hf4 hm4.r2 (by decide))) hgo (fun r e => (hro r e).2))
        have HK2 := Lib.hid hK2
        rw [← hW4] at z0 z1 z2 z3 z4 z5 ze zf0 zf1 zf2 zf3 zf4 zf5 zef
        have HW4 := Lib.hid hW4
        clear hm3 hm4 hf4 hx3 hg3 hg4 hgo hro hK2 hW4
        gi_wp2_with fail
        rw [HW4.out]
        clear z0 z1 z2 z3 z4 z5 ze zf0 zf1 zf2 zf3 zf4 zf5 zef
        refine ⟨by simp, .inl ⟨_, _, rfl, run_takeDeferred HK2.out, ?_⟩⟩
        refine ⟨_, read_res rfl rfl HE.out.r1 HE.out.r2, ?_⟩
        rw [HR0.out]
        exact ⟨w3.heap.size, rfl, HF.out, hge, HE.out.st, HE.out.rd⟩
    case body =>
      rintro l pre x W b - hTm hbb hbk
      obtain ⟨q, i, t, cs, a', r, hN⟩ := rd_num hxge hxn hb0g hTm
      have htr : t ≠ 87 := by rcases hN.ht with ⟨rfl, _⟩ | rfl <;> decide
      have o0 := hbk.cell 0
      have o1 := hbk.cell 1
      have o2 := hbk.cell 2
      have o3 := hbk.cell 3
      have cn := hN.h.bx.cell 0
      have hgl2 : b ≠ w.heap.size + 1 := by have := hsz; have hb1 := hN.h.r1.lt; have := Blk.ne_ hbk hN.h.r1 (by decide); exact this
      have HCall : Hid (Calls Tryd.prog 44 #[opV x.w x.p x.kd, .pointer (some ⟨g, 0, none⟩)] W (SaysAt g bs ⟨q, i, none⟩ r W)) := by
        obtain ⟨k, ew, ep, kd, td, lv, cb, fb⟩ := x
        rcases hN.fm with ⟨hw, hp, hr⟩ | ⟨hw, hp, hr, hwk⟩
        · dsimp only at hw hp hr ⊢
          rw [hw, hp, hr]
          exact oread_whole hN.h.rd hN.b htr hN.hi kd
        · dsimp only at hw hp hr hwk ⊢
          rw [hw, hp, hr]
          exact oread_num hN.h.rd hN.b htr hN.hi kd hwk
      have HN := Lib.hid hN
      clear hN hTm hbk
      cases r with
      | ok v b' =>
        gi_wp2_with (refine ⟨trivial, ?_⟩; gi_at_call 44; refine (CallsIn.inRound l (callsIn_wide.2 HCall.out)).mono ?_; rintro e w3 ⟨rfl, W1, hg1, hr1, rfl⟩)
        refine ⟨(keeps_g HN.out.h.rd hg1 _ _).from _, trivial, trivial, ?_⟩
        rw [Its.T_snoc]
        exact HN.out.next v b' W1 rfl hg1 hr1
      | flt cd y b' =>
        have HR : Hid (res = .flt cd y b') := HN.out.flt _ _ _ rfl
        gi_upto_region 10 with (refine ⟨trivial, ?_⟩; gi_at_call 44; refine (CallsIn.inRound l (callsIn_wide.2 HCall.out)).mono ?_; rintro e w3 ⟨fb, rfl, W1, hg1, hr1, hf, hge, rfl⟩)
        obtain ⟨cg, hbg⟩ := HN.out.h.rd.blk
        have hq1 := HN.out.b.grown hg1 (fun e => Blk.ne_ HN.out.b hbg htr (by injection e))
        have hg2 : W1.grownBy (W1.setCell ⟨q, i, none⟩ (.int .i64 0)) (some q) := only_setCell (p := ⟨q, i, none⟩) (only_refl _ _) rfl _
        have hM2 := (HN.out.h.move hg1 hr1).at_ hg2 hq1 HN.out.ht HN.out.hq
        have hf2 : Flt (W1.setCell ⟨q, i, none⟩ (.int .i64 0)) fb cd (y : Int) := Blk.grown hf hg2 (fun e => Blk.ne_ hf hq1 (by rcases HN.out.ht with ⟨rfl, _⟩ | rfl <;> decide) (by injection e))
        have hk := keeps_g HN.out.h.rd hg1 ⟨q, i, none⟩ (.int .i64 0)
        have hge' : w.heap.size ≤ fb := Nat.le_trans HN.out.h.st.size hge
        clear hg1 hr1 hf hge hq1 hg2
        generalize W1.setCell ⟨q, i, none⟩ (.int .i64 0) = W2 at *
        have hPE := Lib.hid (putR_end hM2 (by omega) (by omega) (.int .i64 0) (.int .i64 0) (.int .i64 0) (.int .i64 0) (.int .i64 0) (.slice none 0 0) (.iface 91 (.pointer (some ⟨fb, 0, none⟩))))
        have x0 := hM2.r1.cell 0
        have x1 := hM2.r1.cell 1
        have x2 := hM2.r1.cell 2
        have x3 := hM2.r1.cell 3
        have x4 := hM2.r1.cell 4
        have x5 := hM2.r1.cell 5
        have y0 := hM2.r1.frozen 0
        have y1 := hM2.r1.frozen 1
        have y2 := hM2.r1.frozen 2
        have y3 := hM2.r1.frozen 3
        have y4 := hM2.r1.frozen 4
        have y5 := hM2.r1.frozen 5
        have e0 := hM2.r2.cell 0
        have e1 := hM2.r2.frozen 0
        have HF := Lib.hid (hPE.out.2.2.1 _ _ _ hf2 (Blk.ne_ hf2 hM2.r1 (by decide)) (Blk.ne_ hf2 hM2.r2 (by decide)))
        have HK := Lib.hid (hk.trans (keeps_put W2 (w.heap.size + 1) (w.heap.size + 1 + 1) (.int .i64 0) (.int .i64 0) (.int .i64 0) (.int .i64 0) (.int .i64 0) (.slice none 0 0) (.iface 91 (.pointer (some ⟨fb, 0, none⟩)))))
        clear hM2 hf2 hk
        gi_wp2_with fail
        exact ⟨HK.out.from _, rfl, cd, y, b', fb, HR.out, HF.out, hge', hPE.out.1⟩
end Go.Proofs.YtmbdaenjeeklfaaDoor

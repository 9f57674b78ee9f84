/- Texts joined for the claim's sake: IChk, JRdM, IPtM, IPut, MLay. -/
import Derived.Test.YtohhojbeclbedaaGreatDoorZMKnwRow22
import Derived.Test.YtohhojbeclbedaaGreatDoorZMKnwRow23
import Derived.Test.YtohhojbeclbedaaGreatDoorZMKnwRow5
import Derived.Test.YtohhojbeclbedaaGreatDoorZMKnwRow21
namespace Go.Proofs.YtohhojbeclbedaaGreatDoor
open Go.RowKit

theorem chk_eq (c : Kl) (x : Ins) : chkC c x = if isOp c = true then (if coversA (fmOf c) x = true then (if wrongF (fmOf c) x [] (hdF c ++ els x.l.length) = true then 2 else 0) else 2) else 11 := by
  have H : ∀ (p q : Bool), (if (p && !q) = true then (0 : Int) else 2) = if p = true then (if q = true then 2 else 0) else 2 := by
    intro p q; cases p <;> cases q <;> rfl
  cases c
  case no => rfl
  all_goals exact H _ _
theorem cov_parts {c : Kl} {x : Ins} (h : coversA (fmOf c) x = true) : ((fmOf c).most = x.l.length ∨ Fld.N ∈ hdF c) ∧ x.l.length ≤ 8 := by
  obtain ⟨_, _, _, _, h1, h2⟩ := (covers_iff _ _).1 h
  refine ⟨?_, ?_⟩
  · cases c <;> simp [fmOf, hdF] at h1 h2 ⊢ <;> first | omega | (rw [h2]; rfl)
  · cases c <;> simp [fmOf] at h2 <;> first | omega | (rw [h2]; simp)
theorem hd_le (c : Kl) : (hdF c).length ≤ 10 := by cases c <;> simp [hdF]

set_option maxRecDepth 100000 in
set_option maxHeartbeats 4000000 in
theorem check_any (s : Sg) (op : Int) (w : World) (hl : IntsA (fun b => b < w.heap.size) w s.lv s.l) :
    Calls Tryz.prog 132 #[.agg (s.cells op)] w fun e w' => e = .returned (.int .i64 (chkI (s.ins op))) ∧ w.grownBy w' none := by
  have hchk : chkI (s.ins op) = _ := chk_eq (clI op) (s.ins op)
  rw [hchk]
  have HF := formOf_any op
  obtain ⟨A, cp, hlv, _⟩ := id hl
  have HCv := covers_any (clI op) s op A s.l.length cp hlv rfl
  have HWr : coversA (fmOf (clI op)) (s.ins op) = true → ∀ W, w.grownBy W none → Calls Tryz.prog 175 #[.agg (s.cells op)] W fun e w' => e = .returned (.bool (wrongF (fmOf (clI op)) (s.ins op) [] (hdF (clI op) ++ els s.l.length))) ∧ W.grownBy w' none := fun hc W hg => by
    obtain ⟨h1, h2⟩ := cov_parts hc
    refine hasWrong_any s op W ?_ h1 h2 (hd_le _)
    obtain ⟨A, c, k1, k2⟩ := hl.row hg (fun _ _ e => by cases e)
    refine ⟨A, c, k1, fun hn => ?_⟩
    obtain ⟨b, off, k3, k4, k5⟩ := k2 hn
    exact ⟨b, off, k3, Nat.lt_of_lt_of_le k4 hg.size, k5⟩
  have hls : (s.ins op).l.length = s.l.length := rfl
  rw [hls]
  unfold FormIs at HF
  have h0 : w.grownBy (w.alloc (.cells (s.cells op) 52)) none := only_alloc (only_refl _ _) _
  have hb0 := Blk.new w 52 (s.cells op)
  obtain ⟨ha, bm, br, cm, cr, dm, dr, le, mo, em, er, hp⟩ := fm_parts (fmOf (clI op))
  have hfc : fmC (fmOf (clI op)) = #[.bool ha, .int .i64 bm, .bool br, .int .i64 cm, .bool cr, .int .i64 dm, .bool dr, .int .i64 (le : Int), .int .i64 (mo : Int), .int .i64 em, .bool er] := by rw [hp]; rfl
  rw [hfc] at HF HCv
  unfold Sg.cells at *
  rw [hlv] at *
  generalize isOp (clI op) = q at *
  generalize hcv : coversA (fmOf (clI op)) (s.ins op) = cv at *
  generalize wrongF (fmOf (clI op)) (s.ins op) [] (hdF (clI op) ++ els s.l.length) = wr at *
  clear hfc hl hchk hlv hls hcv hp
  go_enter Tryz.func132, Tryz.ntmps132
  go_wp2_with fail
  refine (HF _).mono ?_
  rintro e w1 ⟨rfl, hg1⟩
  have hx1 := (hb0.kept hg1).alloc (.cells #[.bool ha, .int .i64 bm, .bool br, .int .i64 cm, .bool cr, .int .i64 dm, .bool dr, .int .i64 (le : Int), .int .i64 (mo : Int), .int .i64 em, .bool er] 253)
  have hf1 := Blk.new w1 253 #[.bool ha, .int .i64 bm, .bool br, .int .i64 cm, .bool cr, .int .i64 dm, .bool dr, .int .i64 (le : Int), .int .i64 (mo : Int), .int .i64 em, .bool er]
  have hg2 : w.grownBy (w1.alloc (.cells #[.bool ha, .int .i64 bm, .bool br, .int .i64 cm, .bool cr, .int .i64 dm, .bool dr, .int .i64 (le : Int), .int .i64 (mo : Int), .int .i64 em, .bool er] 253)) none := only_alloc (only_trans h0 hg1) _
  cases q with
  | false =>
    clear HCv HWr hx1 hf1
    go_wp2_with fail
    go_ret
    exact ⟨rfl, hg2⟩
  | true =>
    go_upto_region 5 with fail
    generalize w1.alloc (.cells #[.bool ha, .int .i64 bm, .bool br, .int .i64 cm, .bool cr, .int .i64 dm, .bool dr, .int .i64 (le : Int), .int .i64 (mo : Int), .int .i64 em, .bool er] 253) = W2 at *
    generalize w1.heap.size = fb at *
    have x0 := hx1.cell 0
    have x1 := hx1.cell 1
    have x2 := hx1.cell 2
    have x3 := hx1.cell 3
    have x4 := hx1.cell 4
    have x5 := hx1.cell 5
    have k0' := hf1.cell 0
    have k1' := hf1.cell 1
    have k2' := hf1.cell 2
    have k3' := hf1.cell 3
    have k4' := hf1.cell 4
    have k5' := hf1.cell 5
    have k6' := hf1.cell 6
    have k7' := hf1.cell 7
    have k8' := hf1.cell 8
    have k9' := hf1.cell 9
    have ka' := hf1.cell 10
    clear HF hf1 hb0 h0 hg1
    cases cv with
    | false =>
      clear HWr hx1
      go_wp2_with fail
      refine (HCv _).mono ?_
      rintro e w3 ⟨rfl, hg3⟩
      go_wp2_with fail
      go_ret
      exact ⟨rfl, only_trans hg2 hg3⟩
    | true =>
      have HW2 := HWr rfl
      clear HWr
      go_wp2_with fail
      refine (HCv _).mono ?_
      rintro e w3 ⟨rfl, hg3⟩
      have hx3 := hx1.kept hg3
      have y0 := hx3.cell 0
      have y1 := hx3.cell 1
      have y2 := hx3.cell 2
      have y3 := hx3.cell 3
      have y4 := hx3.cell 4
      have y5 := hx3.cell 5
      have HW3 := HW2 w3 (only_trans hg2 hg3)
      clear HW2 hx1 hx3
      go_wp2_with fail
      refine HW3.mono ?_
      rintro e w4 ⟨rfl, hg4⟩
      cases wr
      all_goals
        go_wp2_with fail
        go_ret
        exact ⟨rfl, only_trans (only_trans hg2 hg3) hg4⟩
end Go.Proofs.YtohhojbeclbedaaGreatDoor

namespace Go.Proofs.YtohhojbeclbedaaGreatDoor.J
open Go.RowKit

/-- Read's own boxes, and its reader. -/
structure RdM (w0 : World) (g nb n1 n2 : Nat) (bs : List UInt8) (bg : Nat) (a : Nat) (W : World) : Prop where
  rd : Rdr W g bs a bg
  bx : Blk W nb 54 #[.pointer (some ⟨g, 0, none⟩)]
  r1 : Blk W n1 52 #[.int .i64 0, .int .i64 0, .int .i64 0, .int .i64 0, .int .i64 0, .slice none 0 0]
  r2 : Blk W n2 43 #[.nilIface]
  st : w0.grownBy W (some g)
section
variable {w0 W W' : World} {g nb n1 n2 a a' : Nat} {bs : List UInt8} {bg : Nat}
theorem RdM.none_ (h : RdM w0 g nb n1 n2 bs bg a W) (hg : W.grownBy W' none) : RdM w0 g nb n1 n2 bs bg a W' := ⟨h.rd.kept hg, h.bx.kept hg, h.r1.kept hg, h.r2.kept hg, only_trans h.st (only_weak hg _)⟩
theorem RdM.at_ {k : Nat} {t : TypeId} {cs : Array Value} (h : RdM w0 g nb n1 n2 bs bg a W) (hg : W.grownBy W' (some k)) (hb : Blk W k t cs) (ht : (t = 52 ∧ k ≠ n1) ∨ t = 3) (hk : w0.heap.size ≤ k) : RdM w0 g nb n1 n2 bs bg a W' := by
  have h1 : t ≠ 5 ∧ t ≠ 111 ∧ t ≠ 54 ∧ t ≠ 43 := by rcases ht with ⟨rfl, _⟩ | rfl <;> exact ⟨by decide, by decide, by decide, by decide⟩
  obtain ⟨cg, hbg⟩ := h.rd.blk
  refine ⟨h.rd.grown hg (fun e => Blk.ne_ hbg hb (Ne.symm h1.2.1) (by injection e)) (fun j e => by injection e with e; subst e; exact ⟨_, _, hb, h1.1⟩), h.bx.grown hg (fun e => Blk.ne_ h.bx hb (Ne.symm h1.2.2.1) (by injection e)), h.r1.grown hg (fun e => ?_), h.r2.grown hg (fun e => Blk.ne_ h.r2 hb (Ne.symm h1.2.2.2) (by injection e)), only_new' h.st hg hk⟩
  injection e with e
  rcases ht with ⟨_, h2⟩ | rfl
  · exact h2 e.symm
  · exact Blk.ne_ h.r1 hb (by decide) e
theorem RdM.move (h : RdM w0 g nb n1 n2 bs bg a W) (hg : W.grownBy W' (some g)) (hr : Rdr W' g bs a' bg) : RdM w0 g nb n1 n2 bs bg a' W' := by
  obtain ⟨cg, hbg⟩ := h.rd.blk
  exact ⟨hr, h.bx.grown hg (fun e => Blk.ne_ h.bx hbg (by decide) (by injection e)), h.r1.grown hg (fun e => Blk.ne_ h.r1 hbg (by decide) (by injection e)), h.r2.grown hg (fun e => Blk.ne_ h.r2 hbg (by decide) (by injection e)), only_trans h.st hg⟩
theorem RdM.own {row : Option Nat} (h : RdM w0 g nb n1 n2 bs bg a W) (hg : W.grownBy W' row) (hr : ∀ r, row = some r → w0.heap.size ≤ r ∧ ∃ o : Obj, W.heap[r]? = some o ∧ o.isCells = false) : RdM w0 g nb n1 n2 bs bg a W' := by
  have hr2 := fun r e => (hr r e).2
  refine ⟨h.rd.own hg hr2, h.bx.own hg hr2, h.r1.own hg hr2, h.r2.own hg hr2, ?_⟩
  cases row with
  | none => exact only_trans h.st (only_weak hg _)
  | some k => exact only_new' h.st hg (hr k rfl).1
end
/-- Read's parts of a range. -/
def rdRH (w0 : World) (g nb n1 n2 : Nat) (bs : List UInt8) (bg : Nat) (f : Fm) (op : Int) (res : Rs Ins) (td : List Fld) (n : Nat) (s : Sg) (W : World) : Prop :=
  s.l = [] ∧ ∃ a, res = run f bs td n (s.ins op) a ∧ RdM w0 g nb n1 n2 bs bg a W
def rdRE (w0 : World) (g nb n1 n2 : Nat) (bs : List UInt8) (bg : Nat) (f : Fm) (op : Int) (res : Rs Ins) (i : Nat) (s : Sg) (W : World) : Prop :=
  ∃ (dn : List Int) (a m : Nat), s.l = dn ++ List.replicate m 0 ∧ dn.length = i ∧ res = ((rdE f.each.most bs m a).bind fun l b => .ok ⟨op, s.a, s.b, s.c, s.d, dn ++ l⟩ b) ∧ RdM w0 g nb n1 n2 bs bg a W ∧
    (s.l ≠ [] → ∃ lb, s.lv = .slice (some ⟨lb, 0, none⟩) s.l.length s.l.length ∧ Blk W lb 3 (s.l.map zV).toArray ∧ w0.heap.size ≤ lb)
def rdI (w0 : World) (g nb n1 n2 : Nat) (bs : List UInt8) (bg : Nat) (b0 xb : Nat) (op : Int) (lv0 : Value) (res : Rs Ins) : Its :=
  ⟨b0, xb, op, fmOf (clI op), hdF (clI op), lv0, fun b => w0.heap.size ≤ b ∧ b ≠ xb, rdRH w0 g nb n1 n2 bs bg (fmOf (clI op)) op res, rdRE w0 g nb n1 n2 bs bg (fmOf (clI op)) op res⟩
theorem zeros_is (n : Nat) : Array.replicate n (Value.int .i64 0) = ((List.replicate n (0 : Int)).map zV).toArray := by
  rw [List.map_replicate, List.toArray_replicate]; rfl
theorem rd_ok {w0 : World} {g nb n1 n2 : Nat} {bs : List UInt8} {bg : Nat} {b0 xb : Nat} {op : Int} {lv0 : Value} {res : Rs Ins} {B : Nat} (hx : w0.heap.size ≤ xb) (hx1 : xb ≠ n1) (hB : w0.heap.size ≤ B) : (rdI w0 g nb n1 n2 bs bg b0 xb op lv0 res).Ok B where
  f_ := rfl
  td_ := rfl
  ne := fun b hb => hb.2
  spH := fun td n s X Y hs h => by
    obtain ⟨h1, a, h2, h3⟩ := h
    obtain ⟨hg, cs, hb⟩ := hs
    exact ⟨h1, a, h2, h3.at_ hg hb (.inl ⟨rfl, hx1⟩) hx⟩
  spE := fun i s X Y hs h => by
    obtain ⟨dn, a, m, h1, h2, h3, h4, h5⟩ := h
    obtain ⟨hg, cs, hb⟩ := hs
    refine ⟨dn, a, m, h1, h2, h3, h4.at_ hg hb (.inl ⟨rfl, hx1⟩) hx, fun hn => ?_⟩
    obtain ⟨lb, k1, k2, k3⟩ := h5 hn
    exact ⟨lb, k1, k2.grown hg (fun e => Blk.ne_ k2 hb (by decide) (by injection e)), k3⟩
  ownH := fun t W W' row h hg hr => by
    obtain ⟨h1, a, h2, h3⟩ := h
    exact ⟨h1, a, h2, h3.own hg (fun r e => ⟨Nat.le_trans hB (hr r e).1, (hr r e).2⟩)⟩
  ownE := fun t W W' row h hg hr => by
    obtain ⟨dn, a, m, h1, h2, h3, h4, h5⟩ := h
    refine ⟨dn, a, m, h1, h2, h3, h4.own hg (fun r e => ⟨Nat.le_trans hB (hr r e).1, (hr r e).2⟩), fun hn => ?_⟩
    obtain ⟨lb, k1, k2, k3⟩ := h5 hn
    exact ⟨lb, k1, k2.own hg (fun r e => (hr r e).2), k3⟩
  same := fun s X _ h => by
    obtain ⟨h1, a, h2, h3⟩ := h
    refine ⟨[], a, 0, by rw [h1]; rfl, rfl, ?_, h3, fun hn => absurd h1 hn⟩
    rw [h1] at h2
    exact h2
  made := fun n s X Y lb hM hn8 hne h hs hlb hbl => by
    obtain ⟨h1, a, h2, h3⟩ := h
    obtain ⟨hg, cs, hb⟩ := hs
    have hxl := hM.x.lt
    have hwx := h3.st.size
    refine ⟨⟨Nat.le_trans hwx hlb, fun e => by have h5 : xb < X.heap.size := hxl; omega⟩, [], a, n, rfl, rfl, h2, h3.at_ hg hb (.inl ⟨rfl, hx1⟩) hx, fun _ => ⟨lb, by simp, ?_, Nat.le_trans hwx hlb⟩⟩
    rw [zeros_is] at hbl
    exact hbl

/-- Of an operand: where it stands, what is read, what is left. -/
structure RdN (w0 : World) (g nb n1 n2 : Nat) (bs : List UInt8) (bg : Nat) (I : Its) (res : Rs Ins) (x : Ev) (W : World) (q i : Nat) (t : TypeId) (cs : Array Value) (a : Nat) (r : Rs Int) : Prop where
  fm : (x.w = some ⟨q, i, none⟩ ∧ x.p = none ∧ r = sR bs a) ∨ (x.w = none ∧ x.p = some ⟨q, i, none⟩ ∧ r = smR bs a x.kd.most ∧ Whole x.kd.most)
  b : Blk W q t cs
  ht : (t = 52 ∧ q ≠ n1) ∨ t = 3
  hi : i < cs.size
  hq : w0.heap.size ≤ q
  h : RdM w0 g nb n1 n2 bs bg a W
  flt : ∀ c y b, r = .flt c y b → res = .flt c y b
  next : ∀ v b W1, r = .ok v b → W.grownBy W1 (some g) → Rdr W1 g bs b bg → I.after x (W1.setCell ⟨q, i, none⟩ (.int .i64 v))
theorem list_set_next (dn : List Int) (m : Nat) (v : Int) : (dn ++ List.replicate (m + 1) 0).set dn.length v = (dn ++ [v]) ++ List.replicate m 0 := by
  rw [List.set_append_right _ _ (Nat.le_refl _), Nat.sub_self, List.replicate_succ, List.set_cons_zero, List.append_assoc]
  rfl
theorem rdE_succ (most : Int) (bs : List UInt8) (m a : Nat) (op x y z u : Int) (dn : List Int) : ((rdE most bs (m + 1) a).bind fun l b => (.ok ⟨op, x, y, z, u, dn ++ l⟩ b : Rs Ins)) = (smR bs a most).bind fun v b => (rdE most bs m b).bind fun l c => .ok ⟨op, x, y, z, u, (dn ++ [v]) ++ l⟩ c := by
  rw [rdE]
  cases smR bs a most with
  | flt c y b => rfl
  | ok v b =>
    rw [Rs.bind_ok, Rs.bind_ok]
    cases rdE most bs m b with
    | flt c y b => rfl
    | ok l c =>
      rw [Rs.bind_ok, Rs.bind_ok, Rs.bind_ok, List.append_assoc]
      rfl
theorem whole_k (c : Kl) (k : Fld) : Whole (kOf (fmOf c) k).most := by
  cases c <;> cases k <;> constructor <;> simp [kOf, fmOf, k0, kR]
theorem rd_num {w0 : World} {g nb n1 n2 : Nat} {bs : List UInt8} {bg : Nat} {b0 xb : Nat} {op : Int} {lv0 : Value} {res : Rs Ins} {pre : List Ev} {x : Ev} {W : World} (hx : w0.heap.size ≤ xb) (hx1 : xb ≠ n1) (hb0 : w0.heap.size ≤ b0) (h : (rdI w0 g nb n1 n2 bs bg b0 xb op lv0 res).Tm pre x W) :
    ∃ q i t cs a r, RdN w0 g nb n1 n2 bs bg (rdI w0 g nb n1 n2 bs bg b0 xb op lv0 res) res x W q i t cs a r := by
  obtain ⟨k, w, p, kd, td, lv, cb, fb⟩ := x
  obtain ⟨hb, s, hM, hlv, h⟩ := h
  dsimp only at *
  -- an operand of the instruction itself
  have H : ∀ (i : Nat) (s' : Int → Sg) (td' : List Fld) (a : Nat) (r : Rs Int), (w = some ⟨xb, i, none⟩ ∧ p = none ∧ r = sR bs a ∨ w = none ∧ p = some ⟨xb, i, none⟩ ∧ r = smR bs a kd.most ∧ Whole kd.most) → i < 6 → s.l = [] → RdM w0 g nb n1 n2 bs bg a W →
      res = (r.bind fun v b => run (fmOf (clI op)) bs td' (fmOf (clI op)).most ((s' v).ins op) b) → (∀ v, (s.cells op).setIfInBounds i (.int .i64 v) = (s' v).cells op) → (∀ v, (s' v).lv = s.lv) → (∀ v, (s' v).l = s.l) →
      (∀ W' s1, Blk W' fb 253 (fmC (fmOf (clI op))) → (rdI w0 g nb n1 n2 bs bg b0 xb op lv0 res).M s1 W' → s1.lv = lv → rdRH w0 g nb n1 n2 bs bg (fmOf (clI op)) op res td' (fmOf (clI op)).most s1 W' → (rdI w0 g nb n1 n2 bs bg b0 xb op lv0 res).after ⟨k, w, p, kd, td, lv, cb, fb⟩ W') →
      ∃ q i t cs a r, RdN w0 g nb n1 n2 bs bg (rdI w0 g nb n1 n2 bs bg b0 xb op lv0 res) res ⟨k, w, p, kd, td, lv, cb, fb⟩ W q i t cs a r := by
    intro i s' td' a r hfm hi hl hm hres hcs hlv' hl' hnext
    refine ⟨xb, i, 52, s.cells op, a, r, hfm, hM.x, .inl ⟨rfl, hx1⟩, hi, hx, hm, fun c y b e => by rw [hres, e]; rfl, fun v b W1 e hg hr => ?_⟩
    obtain ⟨cg, hbg⟩ := hm.rd.blk
    have hp1 := hM.p.grown hg (fun e => Blk.ne_ hM.p hbg (by decide) (by injection e))
    have hx2 := hM.x.grown hg (fun e => Blk.ne_ hM.x hbg (by decide) (by injection e))
    have hf1 := hb.grown hg (fun e => Blk.ne_ hb hbg (by decide) (by injection e))
    have hg2 : W1.grownBy (W1.setCell ⟨xb, i, none⟩ (.int .i64 v)) (some xb) := only_setCell (only_refl _ _) rfl _
    refine hnext _ (s' v) (hf1.grown hg2 (fun e => Blk.ne_ hf1 hx2 (by decide) (by injection e))) ⟨hp1.grown hg2 (fun e => Blk.ne_ hp1 hx2 (by decide) (by injection e)), (show Blk _ xb _ ((s' v).cells op) from by rw [← hcs]; exact hx2.set_ i _), ?_, by rw [hl']; exact hM.le⟩ (by rw [hlv']; exact hlv) ⟨by rw [hl', hl], b, by rw [hres, e]; rfl, (hm.move hg hr).at_ hg2 hx2 (.inl ⟨rfl, hx1⟩) hx⟩
    obtain ⟨A, c, e1, _⟩ := hM.l
    rw [hl', hlv']
    exact ⟨A, c, e1, fun hn => absurd hl hn⟩
  cases k with
  | A =>
    obtain ⟨hw, hp, hkd, hl, a, hres, hm⟩ := h
    exact H 1 (fun v => { s with a := v }) td a _ (.inl ⟨hw, hp, rfl⟩) (by decide) hl hm hres (fun _ => rfl) (fun _ => rfl) (fun _ => rfl) (fun W' s1 k1 k2 k3 k4 => ⟨k1, s1, k2, k3, k4⟩)
  | B =>
    obtain ⟨hw, hp, hkd, hl, a, hres, hm⟩ := h
    have hwk := whole_k (clI op) .B
    exact H 2 (fun v => { s with b := v }) td a _ (.inr ⟨hw, hp, rfl, by rw [hkd]; exact hwk⟩) (by decide) hl hm (by rw [hkd]; exact hres) (fun _ => rfl) (fun _ => rfl) (fun _ => rfl) (fun W' s1 k1 k2 k3 k4 => ⟨k1, s1, k2, k3, k4⟩)
  | C =>
    obtain ⟨hw, hp, hkd, hl, a, hres, hm⟩ := h
    have hwk := whole_k (clI op) .C
    exact H 3 (fun v => { s with c := v }) td a _ (.inr ⟨hw, hp, rfl, by rw [hkd]; exact hwk⟩) (by decide) hl hm (by rw [hkd]; exact hres) (fun _ => rfl) (fun _ => rfl) (fun _ => rfl) (fun W' s1 k1 k2 k3 k4 => ⟨k1, s1, k2, k3, k4⟩)
  | D =>
    obtain ⟨hw, hp, hkd, hl, a, hres, hm⟩ := h
    have hwk := whole_k (clI op) .D
    exact H 4 (fun v => { s with d := v }) td a _ (.inr ⟨hw, hp, rfl, by rw [hkd]; exact hwk⟩) (by decide) hl hm (by rw [hkd]; exact hres) (fun _ => rfl) (fun _ => rfl) (fun _ => rfl) (fun W' s1 k1 k2 k3 k4 => ⟨k1, s1, k2, k3, k4⟩)
  | N =>
    obtain ⟨hw, hp, hkd, hlt, hc, hl, a, hres, hm⟩ := h
    have hcb : w0.heap.size ≤ cb := by
      have hlt' : b0 < cb := hlt
      omega
    have hwk := whole_k (clI op) .N
    refine ⟨cb, 0, 3, _, a, smR bs a kd.most, .inr ⟨hw, hp, rfl, by rw [hkd]; exact hwk⟩, hc, .inr rfl, by simp, hcb, hm, fun c y b e => by
      rw [hkd] at e
      have e' : smR bs a ((fmOf (clI op)).most : Int) = .flt c y b := e
      rw [hres, run, e']; rfl, fun v b W1 e hg hr => ?_⟩
    rw [hkd] at e
    have e' : smR bs a ((fmOf (clI op)).most : Int) = .ok v b := e
    obtain ⟨cg, hbg⟩ := hm.rd.blk
    have hp1 := hM.p.grown hg (fun e => Blk.ne_ hM.p hbg (by decide) (by injection e))
    have hx2 := hM.x.grown hg (fun e => Blk.ne_ hM.x hbg (by decide) (by injection e))
    have hf1 := hb.grown hg (fun e => Blk.ne_ hb hbg (by decide) (by injection e))
    have hc1 := hc.grown hg (fun e => Blk.ne_ hc hbg (by decide) (by injection e))
    have hg2 : W1.grownBy (W1.setCell ⟨cb, 0, none⟩ (.int .i64 v)) (some cb) := only_setCell (only_refl _ _) rfl _
    obtain ⟨z0, z1, _⟩ := smR_is e
    have h8 : (fmOf (clI op)).most ≤ 8 := by cases clI op <;> simp [fmOf]
    have hvn : ((v.toNat : Nat) : Int) = v := by omega
    have hv8 : v.toNat ≤ 8 := by
      have z1' : v ≤ ((fmOf (clI op)).most : Int) := z1
      omega
    refine ⟨hf1.grown hg2 (fun e => Blk.ne_ hf1 hc1 (by decide) (by injection e)), s, ⟨hp1.grown hg2 (fun e => Blk.ne_ hp1 hc1 (by decide) (by injection e)), hx2.grown hg2 (fun e => Blk.ne_ hx2 hc1 (by decide) (by injection e)), ?_, hM.le⟩, hlv, v.toNat, hv8, by rw [hvn]; exact hc1.set_ 0 _, hl, b, by
      rw [hres]
      show (smR bs a ((fmOf (clI op)).most : Int)).bind _ = _
      rw [e']; rfl, (hm.move hg hr).at_ hg2 hc1 (.inr rfl) hcb⟩
    obtain ⟨A, c, e1, _⟩ := hM.l
    exact ⟨A, c, e1, fun hn => absurd hl hn⟩
  | E i =>
    obtain ⟨hi, hw, ⟨b, off, c, hl0, hp⟩, hkd, dn, a, m, hl, hdn, hres, hm, hlb⟩ := h
    have hne : s.l ≠ [] := by intro e; rw [e] at hi; simp at hi
    obtain ⟨lb, k1, k2, k3⟩ := hlb hne
    rw [hl0] at k1
    injection k1 with k1 _ k1c
    injection k1 with k1
    injection k1 with e5 e6 _
    subst e5 e6 k1c
    obtain ⟨m, rfl⟩ : ∃ m', m = m' + 1 := by
      cases m with
      | zero => rw [hl] at hi; simp at hi; omega
      | succ m' => exact ⟨m', rfl⟩
    have hwk := whole_k (clI op) (.E i)
    rw [Nat.zero_add] at hp
    rw [rdE_succ] at hres
    subst hdn
    have hsize : (s.l.map zV).toArray.size = s.l.length := by simp
    refine ⟨b, dn.length, 3, _, a, smR bs a kd.most, .inr ⟨hw, hp, rfl, by rw [hkd]; exact hwk⟩, k2, .inr rfl, by rw [hsize]; exact hi, k3, hm, fun c y b e => by rw [hkd] at e; rw [hres]; exact (by rw [show (fmOf (clI op)).each.most = (rdI w0 g nb n1 n2 bs bg b0 xb op lv0 res).f.each.most from rfl, e]; rfl), fun v b' W1 e hg hr => ?_⟩
    rw [hkd] at e
    obtain ⟨cg, hbg⟩ := hm.rd.blk
    have hp1 := hM.p.grown hg (fun e => Blk.ne_ hM.p hbg (by decide) (by injection e))
    have hx2 := hM.x.grown hg (fun e => Blk.ne_ hM.x hbg (by decide) (by injection e))
    have hf1 := hb.grown hg (fun e => Blk.ne_ hb hbg (by decide) (by injection e))
    have hc1 := k2.grown hg (fun e => Blk.ne_ k2 hbg (by decide) (by injection e))
    have hg2 : W1.grownBy (W1.setCell ⟨b, dn.length, none⟩ (.int .i64 v)) (some b) := only_setCell (only_refl _ _) rfl _
    have hset : s.l.set dn.length v = (dn ++ [v]) ++ List.replicate m 0 := by rw [hl]; exact list_set_next _ _ _
    have hbl : Blk (W1.setCell ⟨b, dn.length, none⟩ (.int .i64 v)) b 3 ((s.l.set dn.length v).map zV).toArray := by
      have := hc1.set_ dn.length (.int .i64 v)
      rw [List.map_set]
      simpa [zV] using this
    refine ⟨hf1.grown hg2 (fun e => Blk.ne_ hf1 hc1 (by decide) (by injection e)), { s with l := s.l.set dn.length v }, ⟨hp1.grown hg2 (fun e => Blk.ne_ hp1 hc1 (by decide) (by injection e)), hx2.grown hg2 (fun e => Blk.ne_ hx2 hc1 (by decide) (by injection e)), ?_, by simpa using hM.le⟩, hlv, dn ++ [v], b', m, hset, by simp, by
      have e' : smR bs a (fmOf (clI op)).each.most = .ok v b' := e
      rw [hres, e']; rfl, (hm.move hg hr).at_ hg2 hc1 (.inr rfl) k3, fun _ => ⟨b, by simpa using hl0, hbl, k3⟩⟩
    refine ⟨_, s.l.length, by simpa using hl0, fun _ => ⟨b, 0, rfl, ?_, fun j z hz => ?_⟩⟩
    · obtain ⟨A', c', e1, e2⟩ := hM.l
      obtain ⟨b', off', e3, eS, _⟩ := e2 hne
      rw [hl0, e3] at e1
      injection e1 with e1 _ _
      injection e1 with e1
      injection e1 with e1 _ _
      subst e1
      exact eS
    · have := hbl.cell j
      rw [Nat.zero_add, this]
      simp only [List.getElem?_toArray, List.getElem?_map, hz]
      rfl
end Go.Proofs.YtohhojbeclbedaaGreatDoor.J

namespace Go.Proofs.YtohhojbeclbedaaGreatDoor
open Go.RowKit

section
variable {B g : Nat} {W W' : World}
theorem cell_turn {p : Addr} {v : Value} (h : W.cell? p = some v) (ht : Turn (WS B W g) W W') (hn : ¬ WS B W g p.block) : W'.cell? p = some v := by
  have hlt : p.block < W.heap.size := by
    rcases Nat.lt_or_ge p.block W.heap.size with hl | hl
    · exact hl
    · unfold World.cell? at h
      rw [Array.getElem?_eq_none hl] at h
      simp at h
  rw [World.cell?_of_block (ht.block _ hlt hn)]
  exact h
theorem not_ws {bs : List UInt8} {k : Nat} {t : TypeId} {cs : Array Value} (hw : Wtr B W g bs) (h : Blk W k t cs) (h1 : t ≠ 182) (h2 : t ≠ 5) : ¬ WS B W g k := by
  rintro (rfl | ⟨_, h8⟩)
  · obtain ⟨_, v, hb, _⟩ := hw
    exact Blk.ne_ hb h (Ne.symm h1) rfl
  · exact h.not_u8 h2 h8
theorem IntsA.turn {S : Nat → Prop} {bs : List UInt8} {v : Value} {zs : List Int} (h : IntsA S W v zs) (hw : Wtr B W g bs) (ht : Turn (WS B W g) W W') (hS : ∀ b, S b → b < B) : IntsA S W' v zs := by
  obtain ⟨A, c, h1, h2⟩ := h
  refine ⟨A, c, h1, fun hn => ?_⟩
  obtain ⟨b, off, h3, h4, h5⟩ := h2 hn
  refine ⟨b, off, h3, h4, fun i z hz => cell_turn (h5 i z hz) ht ?_⟩
  have hb := hS b h4
  rintro (e | ⟨e, _⟩)
  · have e' : b = g := e
    have := hw.1
    omega
  · have e' : B ≤ b := e
    omega
theorem Mem.turn {S : Nat → Prop} {b0 xb : Nat} {op : Int} {s : Sg} {bs : List UInt8} (h : Mem S b0 xb op s W) (hw : Wtr B W g bs) (ht : Turn (WS B W g) W W') (hS : ∀ b, S b → b < B) : Mem S b0 xb op s W' :=
  ⟨h.p.turn ht (not_ws hw h.p (by decide) (by decide)), h.x.turn ht (not_ws hw h.x (by decide) (by decide)), h.l.turn hw ht hS, h.le⟩
end

/-- A writer, beside an instruction, as operands are laid. -/
structure PtM (B g : Nat) (w0 : World) (nb : Nat) (bs : List UInt8) (W : World) : Prop where
  wt : Wtr B W g bs
  bx : Blk W nb 79 #[.pointer (some ⟨g, 0, none⟩)]
  tu : Turn (WS B w0 g) w0 W
section
variable {B g nb : Nat} {w0 W W' : World} {bs bs' : List UInt8}
theorem PtM.none_ (h : PtM B g w0 nb bs W) (hg : W.grownBy W' none) : PtM B g w0 nb bs W' := ⟨h.wt.kept hg, h.bx.kept hg, h.tu.grown hg (fun _ e => by cases e)⟩
theorem PtM.sp {k : Nat} {t : TypeId} {cs : Array Value} (h : PtM B g w0 nb bs W) (hg : W.grownBy W' (some k)) (hb : Blk W k t cs) (h1 : t ≠ 182) (h2 : t ≠ 5) (h3 : t ≠ 79) (hk : w0.heap.size ≤ k) : PtM B g w0 nb bs W' := by
  refine ⟨h.wt.grown hg (fun e => ?_) (fun j e => by injection e with e; subst e; exact hb.not_u8 h2), h.bx.grown hg (fun e => Blk.ne_ h.bx hb (Ne.symm h3) (by injection e)), h.tu.grown hg (fun r e => by injection e with e; omega)⟩
  obtain ⟨_, v, hw, _⟩ := h.wt
  exact Blk.ne_ hw hb (Ne.symm h1) (by injection e)
theorem PtM.own {row : Option Nat} (h : PtM B g w0 nb bs W) (hg : W.grownBy W' row) (hr : ∀ r, row = some r → w0.heap.size ≤ r ∧ ∃ o : Obj, W.heap[r]? = some o ∧ o.isCells = false) : PtM B g w0 nb bs W' := by
  have hr2 := fun r e => (hr r e).2
  refine ⟨h.wt.grown hg (fun e => ?_) (fun k e hu => ?_), h.bx.own hg hr2, h.tu.grown hg (fun r e => (hr r e).1)⟩
  · obtain ⟨_, v, hw, _⟩ := h.wt
    obtain ⟨o, ho, hc⟩ := hr2 g e.symm
    unfold Blk at hw
    rw [hw] at ho
    cases ho
    cases hc
  · obtain ⟨cs, fr, hk⟩ := hu
    obtain ⟨o, ho, hc⟩ := hr2 k e
    rw [hk] at ho
    cases ho
    cases hc
theorem PtM.put (h : PtM B g w0 nb bs W) (hw : Wtr B W' g bs') (ht : Turn (WS B W g) W W') : PtM B g w0 nb bs' W' :=
  ⟨hw, h.bx.turn ht (not_ws h.wt h.bx (by decide) (by decide)), h.tu.trans ht⟩
end
def inR (f : Fm) (x : Ins) (l : List Fld) : Prop := ∀ k ∈ l, isA k = true ∨ (0 ≤ val x k ∧ val x k ≤ (kOf f k).most)
/-- Put's parts of a range. -/
def ptRH (B g : Nat) (w0 : World) (nb : Nat) (f : Fm) (op : Int) (s0 : Sg) (tot : List UInt8) (td : List Fld) (n : Nat) (s : Sg) (W : World) : Prop :=
  s = s0 ∧ (Fld.N ∉ td → n = s0.l.length) ∧ inR f (s0.ins op) (td ++ els s0.l.length) ∧ ∃ bs, tot = bs ++ (td ++ els s0.l.length).flatMap (fB (s0.ins op)) ∧ PtM B g w0 nb bs W ∧ bs.length + 10 * (td ++ els s0.l.length).length ≤ 1099511627776
def ptRE (B g : Nat) (w0 : World) (nb : Nat) (f : Fm) (op : Int) (s0 : Sg) (tot : List UInt8) (i : Nat) (s : Sg) (W : World) : Prop :=
  s = s0 ∧ inR f (s0.ins op) ((els s0.l.length).drop i) ∧ ∃ bs, tot = bs ++ ((els s0.l.length).drop i).flatMap (fB (s0.ins op)) ∧ PtM B g w0 nb bs W ∧ bs.length + 10 * ((els s0.l.length).drop i).length ≤ 1099511627776
def ptI (B g : Nat) (w0 : World) (nb b0 xb : Nat) (op : Int) (s0 : Sg) (tot : List UInt8) : Its :=
  ⟨b0, xb, op, fmOf (clI op), hdF (clI op), s0.lv, fun b => b < B, ptRH B g w0 nb (fmOf (clI op)) op s0 tot, ptRE B g w0 nb (fmOf (clI op)) op s0 tot⟩
theorem pt_ok {B g : Nat} {w0 : World} {nb b0 xb : Nat} {op : Int} {s0 : Sg} {tot : List UInt8} {B1 : Nat} (hx : w0.heap.size ≤ xb) (hB : B ≤ w0.heap.size) (hB1 : w0.heap.size ≤ B1) : (ptI B g w0 nb b0 xb op s0 tot).Ok B1 where
  f_ := rfl
  td_ := rfl
  ne := fun b hb e => by have h1 : b < B := hb; have h2 : b = xb := e; omega
  spH := fun td n s X Y hs h => by
    obtain ⟨h1, h2, h3, bs, h4, h5, h6⟩ := h
    obtain ⟨hg, cs, hb⟩ := hs
    exact ⟨h1, h2, h3, bs, h4, h5.sp hg hb (by decide) (by decide) (by decide) hx, h6⟩
  spE := fun i s X Y hs h => by
    obtain ⟨h1, h3, bs, h4, h5, h6⟩ := h
    obtain ⟨hg, cs, hb⟩ := hs
    exact ⟨h1, h3, bs, h4, h5.sp hg hb (by decide) (by decide) (by decide) hx, h6⟩
  ownH := fun t W W' row h hg hr => by
    obtain ⟨h1, h2, h3, bs, h4, h5, h6⟩ := h
    exact ⟨h1, h2, h3, bs, h4, h5.own hg (fun r e => ⟨Nat.le_trans hB1 (hr r e).1, (hr r e).2⟩), h6⟩
  ownE := fun t W W' row h hg hr => by
    obtain ⟨h1, h3, bs, h4, h5, h6⟩ := h
    exact ⟨h1, h3, bs, h4, h5.own hg (fun r e => ⟨Nat.le_trans hB1 (hr r e).1, (hr r e).2⟩), h6⟩
  same := fun s X _ h => by
    obtain ⟨h1, _, h3, bs, h4, h5, h6⟩ := h
    exact ⟨h1, h3, bs, h4, h5, h6⟩
  made := fun n s X Y lb _ _ hne h _ _ _ => by
    obtain ⟨h1, h2, _⟩ := h
    subst h1
    exact absurd (h2 (by simp)) hne
theorem fB_len {x : Ins} {k : Fld} (ha : Whole x.a) (h : isA k = true ∨ (0 ≤ val x k ∧ val x k ≤ 1000)) : (fB x k).length ≤ 10 := by
  unfold fB
  split
  · exact sev_len10 (foldN_lt ha)
  · rename_i hn
    have := h.resolve_left (by simpa using hn)
    exact sev_len10 (by omega)
/-- Of an operand: where it stands, what is laid for it, what is left. -/
structure PtN (B g : Nat) (w0 : World) (nb : Nat) (I : Its) (s0 : Sg) (tot : List UInt8) (x : Ev) (W : World) (y : List UInt8) (bs : List UInt8) : Prop where
  m : I.M s0 W
  f_ : Blk W x.fb 253 (fmC I.f)
  h : PtM B g w0 nb bs W
  le : bs.length + 10 ≤ 1099511627776
  a : (∃ p, x.w = some p ∧ x.p = none ∧ W.cell? p = some (.int .i64 s0.a) ∧ ¬ WS B W g p.block ∧ y = sev (foldN s0.a)) ∨ (∃ p z, x.w = none ∧ x.p = some p ∧ W.cell? p = some (.int .i64 z) ∧ 0 ≤ z ∧ z ≤ 1000 ∧ y = sev z.toNat)
  n : x.k = .N → Blk W x.cb 3 #[.int .i64 (s0.l.length : Int)]
  next : ∀ W', PtM B g w0 nb (bs ++ y) W' → I.M s0 W' → Blk W' x.fb 253 (fmC I.f) → (x.k = .N → Blk W' x.cb 3 #[.int .i64 (s0.l.length : Int)]) → I.after x W'
theorem pt_num {B g : Nat} {w0 : World} {nb b0 xb : Nat} {op : Int} {s0 : Sg} {tot : List UInt8} {pre : List Ev} {x : Ev} {W : World} (h8 : s0.l.length ≤ 8) (ha : Whole s0.a) (h : (ptI B g w0 nb b0 xb op s0 tot).Tm pre x W) :
    ∃ (y bs : List UInt8), PtN B g w0 nb (ptI B g w0 nb b0 xb op s0 tot) s0 tot x W y bs := by
  obtain ⟨k, w, p, kd, td, lv, cb, fb⟩ := x
  obtain ⟨hb, s, hM, hlv, h⟩ := h
  dsimp only at *
  have hle : ∀ (k : Fld), (kOf (fmOf (clI op)) k).most ≤ 1000 := kOf_le _
  have hlen : ∀ (k : Fld) (l : List Fld), inR (fmOf (clI op)) (s0.ins op) (k :: l) → (fB (s0.ins op) k).length ≤ 10 ∧ inR (fmOf (clI op)) (s0.ins op) l := fun k l hr =>
    ⟨fB_len ha ((hr k (List.mem_cons_self)).imp id (fun h => ⟨h.1, Int.le_trans h.2 (hle k)⟩)), fun j hj => hr j (List.mem_cons_of_mem _ hj)⟩
  cases k with
  | A =>
    obtain ⟨hw, hp, hkd, rfl, hN, hr, bs, ht, hm, hl⟩ := h
    rw [List.cons_append] at hr ht hl
    obtain ⟨h10, hr'⟩ := hlen _ _ hr
    rw [List.flatMap_cons, ← List.append_assoc] at ht
    rw [List.length_cons] at hl
    refine ⟨fB (s.ins op) .A, bs, hM, hb, hm, by omega, .inl ⟨⟨xb, 1, none⟩, hw, hp, hM.x.cell 1, not_ws hm.wt hM.x (by decide) (by decide), rfl⟩, fun e => (by cases e), fun W' m' M' f' _ => ⟨f', s, M', hlv, rfl, fun h => hN (by simpa using h), hr', _, ht, m', ?_⟩⟩
    rw [List.length_append]; dsimp only; omega
  | B =>
    obtain ⟨hw, hp, hkd, rfl, hN, hr, bs, ht, hm, hl⟩ := h
    rw [List.cons_append] at hr ht hl
    obtain ⟨h10, hr'⟩ := hlen _ _ hr
    have hv := (hr _ (List.mem_cons_self)).resolve_left (by simp [isA])
    rw [List.flatMap_cons, ← List.append_assoc] at ht
    rw [List.length_cons] at hl
    refine ⟨fB (s.ins op) .B, bs, hM, hb, hm, by omega, .inr ⟨⟨xb, 2, none⟩, s.b, hw, hp, hM.x.cell 2, hv.1, Int.le_trans hv.2 (hle _), rfl⟩, fun e => (by cases e), fun W' m' M' f' _ => ⟨f', s, M', hlv, rfl, fun h => hN (by simpa using h), hr', _, ht, m', ?_⟩⟩
    rw [List.length_append]; dsimp only; omega
  | C =>
    obtain ⟨hw, hp, hkd, rfl, hN, hr, bs, ht, hm, hl⟩ := h
    rw [List.cons_append] at hr ht hl
    obtain ⟨h10, hr'⟩ := hlen _ _ hr
    have hv := (hr _ (List.mem_cons_self)).resolve_left (by simp [isA])
    rw [List.flatMap_cons, ← List.append_assoc] at ht
    rw [List.length_cons] at hl
    refine ⟨fB (s.ins op) .C, bs, hM, hb, hm, by omega, .inr ⟨⟨xb, 3, none⟩, s.c, hw, hp, hM.x.cell 3, hv.1, Int.le_trans hv.2 (hle _), rfl⟩, fun e => (by cases e), fun W' m' M' f' _ => ⟨f', s, M', hlv, rfl, fun h => hN (by simpa using h), hr', _, ht, m', ?_⟩⟩
    rw [List.length_append]; dsimp only; omega
  | D =>
    obtain ⟨hw, hp, hkd, rfl, hN, hr, bs, ht, hm, hl⟩ := h
    rw [List.cons_append] at hr ht hl
    obtain ⟨h10, hr'⟩ := hlen _ _ hr
    have hv := (hr _ (List.mem_cons_self)).resolve_left (by simp [isA])
    rw [List.flatMap_cons, ← List.append_assoc] at ht
    rw [List.length_cons] at hl
    refine ⟨fB (s.ins op) .D, bs, hM, hb, hm, by omega, .inr ⟨⟨xb, 4, none⟩, s.d, hw, hp, hM.x.cell 4, hv.1, Int.le_trans hv.2 (hle _), rfl⟩, fun e => (by cases e), fun W' m' M' f' _ => ⟨f', s, M', hlv, rfl, fun h => hN (by simpa using h), hr', _, ht, m', ?_⟩⟩
    rw [List.length_append]; dsimp only; omega
  | N =>
    obtain ⟨hw, hp, hkd, _, hc, rfl, hN, hr, bs, ht, hm, hl⟩ := h
    rw [List.cons_append, List.nil_append] at hr ht hl
    obtain ⟨h10, hr'⟩ := hlen _ _ hr
    rw [List.flatMap_cons, ← List.append_assoc] at ht
    rw [List.length_cons] at hl
    refine ⟨fB (s.ins op) .N, bs, hM, hb, hm, by omega, .inr ⟨⟨cb, 0, none⟩, s.l.length, hw, hp, hc.cell 0, by omega, by omega, rfl⟩, fun _ => hc, fun W' m' M' f' c' => ⟨f', s, M', hlv, s.l.length, h8, c' rfl, rfl, fun _ => rfl, by rw [List.nil_append]; exact hr', _, by rw [List.nil_append]; exact ht, m', ?_⟩⟩
    rw [List.length_append, List.nil_append]; omega
  | E i =>
    obtain ⟨hi, hw, ⟨b, off, c, hl0, hp⟩, hkd, rfl, hr, bs, ht, hm, hl⟩ := h
    obtain ⟨A, c', e1, e2⟩ := hM.l
    obtain ⟨b', off', e3, eS, e4⟩ := e2 (by intro e; rw [e] at hi; simp at hi)
    rw [hl0] at e1
    injection e1 with e1 _ _
    rw [e3] at e1
    injection e1 with e1
    injection e1 with e5 e6 _
    subst e5 e6
    have hz := e4 i _ (List.getElem?_eq_getElem hi)
    rw [els_drop hi] at hr ht hl
    obtain ⟨h10, hr'⟩ := hlen _ _ hr
    have hv := (hr _ (List.mem_cons_self)).resolve_left (by simp [isA])
    have hv' : val (s.ins op) (.E i) = s.l[i] := by simp [val, Sg.ins, List.getD_eq_getElem?_getD, hi]
    rw [hv'] at hv
    rw [List.flatMap_cons, ← List.append_assoc] at ht
    rw [List.length_cons] at hl
    have hfb : fB (s.ins op) (.E i) = sev (s.l[i]).toNat := by rw [← hv']; rfl
    refine ⟨fB (s.ins op) (.E i), bs, hM, hb, hm, by omega, .inr ⟨⟨b, off + i, none⟩, s.l[i], hw, hp, hz, hv.1, Int.le_trans hv.2 (hle _), hfb⟩, fun e => (by cases e), fun W' m' M' f' _ => ⟨f', s, M', hlv, rfl, hr', _, ht, m', ?_⟩⟩
    rw [List.length_append]; omega
end Go.Proofs.YtohhojbeclbedaaGreatDoor

namespace Go.Proofs.YtohhojbeclbedaaGreatDoor
open Go.RowKit Go.Shelf
attribute [local go_sem] Oper.semAt_some

theorem byte_of {op : Int} (h0 : 0 ≤ op) (h1 : op ≤ 24) : op = ((UInt8.ofNat op.toNat).toNat : Int) := by
  rw [u8_ofNat (by omega)]; omega

set_option maxRecDepth 100000 in
set_option maxHeartbeats 4000000 in
theorem put_bad {pp : Option Addr} (s : Sg) (op : Int) (w : World) (hl : IntsA (fun b => b < w.heap.size) w s.lv s.l) (hc : chkI (s.ins op) ≠ 0) :
    Calls Tryz.prog 75 #[.pointer pp, .agg (s.cells op)] w fun e w' => e = .returned (.int .i64 (chkI (s.ins op))) ∧ w.grownBy w' none := by
  have h0 : w.grownBy ((w.alloc (.cells #[.pointer pp] 79)).alloc (.cells (s.cells op) 52)) none := only_alloc (only_alloc (only_refl _ _) _) _
  obtain ⟨A, cp, hlv, _⟩ := id hl
  have HC := check_any s op _ (IntsA.row (W' := ((w.alloc (.cells #[.pointer pp] 79)).alloc (.cells (s.cells op) 52))) hl h0 (fun _ _ e => by cases e) |> fun h => by
    obtain ⟨A, c, k1, k2⟩ := h
    refine ⟨A, c, k1, fun hn => ?_⟩
    obtain ⟨b, off, k3, k4, k5⟩ := k2 hn
    exact ⟨b, off, k3, Nat.lt_of_lt_of_le k4 h0.size, k5⟩)
  generalize chkI (s.ins op) = e0 at *
  have hcl : s.cells op = #[.int .i64 op, .int .i64 s.a, .int .i64 s.b, .int .i64 s.c, .int .i64 s.d, .slice A s.l.length cp] := by unfold Sg.cells; rw [hlv]
  rw [hcl] at h0 HC ⊢
  clear hl hlv hcl
  go_enter Tryz.func75, Tryz.ntmps75
  go_wp2_with fail
  refine HC.mono ?_
  rintro e w1 ⟨rfl, hg1⟩
  go_wp2_with fail
  go_ret
  exact ⟨rfl, only_trans h0 hg1⟩

set_option maxRecDepth 100000 in
set_option maxHeartbeats 4000000 in
theorem put_any {B g : Nat} {w : World} {bs : List UInt8} (hw : Wtr B w g bs) (hB : B ≤ w.heap.size) (s : Sg) (op : Int) (hl : IntsA (fun b => b < B) w s.lv s.l) (ha : Whole s.a) (hc : chkI (s.ins op) = 0) (hb : bs.length + 500 ≤ 1099511627776) :
    Calls Tryz.prog 75 #[.pointer (some ⟨g, 0, none⟩), .agg (s.cells op)] w fun e w' => e = .returned (.int .i64 0) ∧ Wtr B w' g (bs ++ bytesI (s.ins op)) ∧ Turn (WS B w g) w w' := by
  have hmay : May (clI op) (s.ins op) := may_of hc
  obtain ⟨o0, o1, _, _⟩ := chkI_op hc
  have o0 : 0 ≤ op := o0
  have o1 : op ≤ 24 := o1
  obtain ⟨hcnt, h8⟩ := cov_parts hmay.cov
  have h8 : s.l.length ≤ 8 := h8
  have hcnt : (fmOf (clI op)).most = s.l.length ∨ Fld.N ∈ hdF (clI op) := hcnt
  obtain ⟨u, HU, HU2⟩ : ∃ u : UInt8, Hid (op = (u.toNat : Int)) ∧ Hid (UInt8.ofNat op.toNat = u) := ⟨_, Lib.hid (byte_of o0 o1), Lib.hid rfl⟩
  obtain ⟨A, cp, hlv, _⟩ := id hl
  refine (callsIn_wide (n := 3)).1 ?_
  refine callsIn_of_wp_marks Tryz.func75 rfl trivial ?_ rfl
  simp only [Tryz.ntmps75, List.size_toArray, List.length_cons, List.length_nil, Nat.reduceAdd, Nat.reduceSub, Array.replicate_succ, Array.replicate_zero, List.push_toArray, List.append_toArray, List.nil_append, List.cons_append]
  have h0 : w.grownBy ((w.alloc (.cells #[.pointer (some ⟨g, 0, none⟩)] 79)).alloc (.cells (s.cells op) 52)) none := only_alloc (only_alloc (only_refl _ _) _) _
  have hbn : Blk ((w.alloc (.cells #[.pointer (some ⟨g, 0, none⟩)] 79)).alloc (.cells (s.cells op) 52)) w.heap.size 79 #[.pointer (some ⟨g, 0, none⟩)] := (Blk.new w _ _).alloc _
  have hbx : Blk ((w.alloc (.cells #[.pointer (some ⟨g, 0, none⟩)] 79)).alloc (.cells (s.cells op) 52)) (w.heap.size + 1) 52 (s.cells op) := blk_new_at (by simp) _ _
  have hl0 := hl.row h0 (fun _ _ e => by cases e)
  have HC := check_any s op _ (hl0 |> fun h => by
    obtain ⟨A, c, k1, k2⟩ := h
    refine ⟨A, c, k1, fun hn => ?_⟩
    obtain ⟨b, off, k3, k4, k5⟩ := k2 hn
    exact ⟨b, off, k3, Nat.lt_of_lt_of_le k4 (Nat.le_trans hB h0.size), k5⟩)
  rw [hc] at HC
  have HL0 := Lib.hid hl0
  have HX := Lib.hid hbx
  have HWt := Lib.hid (hw.kept h0)
  have H0 := Lib.hid h0
  have HMay := Lib.hid hmay
  have HB := Lib.hid hb
  have c0 := hbn.cell 0
  have HN := Lib.hid hbn
  clear hl0 hbx hw h0 hmay hl hb hbn
  have HLV := Lib.hid hlv
  have hcl : s.cells op = #[.int .i64 op, .int .i64 s.a, .int .i64 s.b, .int .i64 s.c, .int .i64 s.d, .slice A s.l.length cp] := by unfold Sg.cells; rw [hlv]
  rw [hcl] at HC HL0 HX HWt H0 HN c0 ⊢
  have HCL := Lib.hid hcl
  clear hlv hcl
  have hwr : IntKind.u8.wrap op = op := by simp only [IntKind.wrap_u8]; omega
  gi_upto_region 4 with (refine ⟨trivial, ?_⟩; gi_at_call 132; refine (callsIn_wide.2 HC).mono ?_; rintro e w1 ⟨rfl, hg1⟩)
  have HG1 := Lib.hid (only_trans H0.out hg1)
  have c0' := (HN.out.kept hg1).cell 0
  have xo := (HX.out.kept hg1).cell 0
  have hB1 : B ≤ w1.heap.size := Nat.le_trans hB HG1.out.size
  have HBy := wbyte_eq (HWt.out.kept hg1) hB1 u op HU.out (by have := HB.out; omega)
  gi_wp2_with fail
  refine ⟨trivial, ?_⟩
  refine (callsIn_wide.2 HBy).mono ?_
  rintro e w2 ⟨rfl, hw2, ht2⟩
  have c0'' := ((HN.out.kept hg1).turn ht2 (not_ws (HWt.out.kept hg1) (HN.out.kept hg1) (by decide) (by decide))).cell 0
  clear HBy HC
  gi_wp2_with (refine ⟨trivial, ?_⟩; gi_at_call 133; refine (callsIn_wide.2 (operands_any _ _)).mono ?_; rintro e w' ⟨rfl, rfl⟩)
  have ht0 : Turn (WS B w g) w w2 := Turn.trans (Turn.none_ HG1.out) ht2
  have hW0 : w2.grownBy (w2.alloc (.cells #[.pointer (some ⟨w.heap.size + 1, 0, none⟩)] 195)) none := only_alloc (only_refl _ _) _
  have hM : Mem (fun b => b < B) w2.heap.size (w.heap.size + 1) op s (w2.alloc (.cells #[.pointer (some ⟨w.heap.size + 1, 0, none⟩)] 195)) := by
    refine ⟨Blk.new _ _ _, ?_, ((HL0.out.row hg1 (fun _ _ e => by cases e)).turn (HWt.out.kept hg1) ht2 (fun b hb => hb)).row hW0 (fun _ _ e => by cases e), by omega⟩
    rw [HCL.out]
    exact ((HX.out.kept hg1).turn ht2 (not_ws (HWt.out.kept hg1) (HX.out.kept hg1) (by decide) (by decide))).alloc _
  have hP : PtM B g w w.heap.size (bs ++ [u]) (w2.alloc (.cells #[.pointer (some ⟨w.heap.size + 1, 0, none⟩)] 195)) :=
    (PtM.mk hw2 ((HN.out.kept hg1).turn ht2 (not_ws (HWt.out.kept hg1) (HN.out.kept hg1) (by decide) (by decide))) ht0 : PtM B g w w.heap.size (bs ++ [u]) w2).none_ hW0
  have htot : Hid (bs ++ bytesI (s.ins op) = (bs ++ [u]) ++ (hdF (clI op) ++ els s.l.length).flatMap (fB (s.ins op))) := by
    have h1 : bytesI (s.ins op) = UInt8.ofNat op.toNat :: (hdF (clI op) ++ els s.l.length).flatMap (fB (s.ins op)) := rfl
    rw [h1, HU2.out, List.append_assoc]; rfl
  have hsz : w.heap.size ≤ (w2.alloc (.cells #[.pointer (some ⟨w.heap.size + 1, 0, none⟩)] 195)).heap.size := Nat.le_trans ht0.size hW0.size
  have hsz2 : w2.heap.size + 1 = (w2.alloc (.cells #[.pointer (some ⟨w.heap.size + 1, 0, none⟩)] 195)).heap.size := by simp
  generalize w2.alloc (.cells #[.pointer (some ⟨w.heap.size + 1, 0, none⟩)] 195) = W0 at *
  obtain ⟨tot, hte⟩ : ∃ tot, bs ++ bytesI (s.ins op) = tot := ⟨_, rfl⟩
  have HTE := Lib.hid hte
  have ok := pt_ok (B := B) (g := g) (w0 := w) (nb := w.heap.size) (b0 := w2.heap.size) (xb := w.heap.size + 1) (op := op) (s0 := s) (tot := tot) (B1 := W0.heap.size) (by omega) hB hsz
  have hT0 : (ptI B g w w.heap.size w2.heap.size (w.heap.size + 1) op s tot).T [] W0 :=
    ⟨s, hM, rfl, rfl, fun h => hcnt.resolve_right h, HMay.out.in_, bs ++ [u], by rw [← HTE.out]; exact htot.out, hP, by
      show (bs ++ [u]).length + 10 * (hdF (clI op) ++ els s.l.length).length ≤ 1099511627776
      have h1 := hd_le (clI op)
      have h2 : (els s.l.length).length = s.l.length := by simp [els]
      rw [List.length_append, List.length_append, h2]
      have := HB.out
      simp only [List.length_cons, List.length_nil]
      omega⟩
  have HW2 := Lib.hid hsz2
  generalize w2.heap.size = b0 at *
  clear hte hM hP htot hw2 ht2 ht0 c0 c0' c0'' xo hg1 hW0 hB1 hsz2 hwr
  refine wpIn_rangeFunc_handsB rfl (by omega) (gf := 176) (lb := #[.pointer (some ⟨b0, 0, none⟩)]) rfl trivial (enters_of Tryz.func176 (by kernel_rfl) rfl)
    (operands_in (ptI B g w w.heap.size b0 (w.heap.size + 1) op s tot) W0.heap.size ok) sp_keeps (fun _ => rfl) ok.ownT ok.ownEE ok.ownTm
    (fun _ _ => True) (fun _ _ _ => False) (fun _ _ _ _ _ _ _ => trivial) (fun _ _ _ _ _ h _ _ => h) (fun _ _ _ _ _ => trivial) trivial hT0 201 (fun x => #[.pointer x.w, .pointer x.p, .int .i64 x.kd.most, .bool x.kd.reg])
    (fun x b => { tmps := #[.pointer (some ⟨g, 0, none⟩), .agg #[.int .i64 op, .int .i64 s.a, .int .i64 s.b, .int .i64 s.c, .int .i64 s.d, .slice A s.l.length cp], .pointer (some ⟨w.heap.size, 0, none⟩), .pointer (some ⟨w.heap.size + 1, 0, none⟩), .int .i64 0, .int .i64 0, .pointer (some ⟨b, 0, none⟩), .agg #[.int .i64 op, .int .i64 s.a, .int .i64 s.b, .int .i64 s.c, .int .i64 s.d, .slice A s.l.length cp], .int .i64 0, .int .i64 0, .bool false, undef, .pointer (some ⟨g, 0, none⟩), .pointer (some ⟨w.heap.size + 1, 0, none⟩), .int .i64 op, .int .u8 op, .tuple #[], .func (.func 176) #[] #[.pointer (some ⟨b0, 0, none⟩)], .agg #[.pointer x.w, .pointer x.p, .int .i64 x.kd.most, .bool x.kd.reg], undef, undef, undef], defers := [] }) ?assign ?body ?done ?stop
  case assign =>
    intro l x W K hK
    gi_wp2
    exact hK
  case stop =>
    rintro D c pre W _ h _
    exact h.elim
  case done =>
    rintro D xs W hD ⟨s', hM', hE⟩ _ hK
    obtain ⟨rfl, _, bs', ht, hm, _⟩ := hE
    rw [List.drop_of_length_le (by simp [els]), List.flatMap_nil, List.append_nil] at ht
    subst ht
    have hm2 := Lib.hid (hm.own (grownBy_putObj' W D (.deferred none)) (fun r e => by injection e with e; subst e; exact ⟨by omega, _, hK, rfl⟩))
    clear hM' hm
    gi_wp2_with fail
    refine ⟨by simp, .inl ⟨_, _, rfl, run_takeDeferred hK, ?_⟩⟩
    exact ⟨_, results_tmp rfl _ _ _, rfl, by rw [HTE.out]; exact hm2.out.wt, hm2.out.tu⟩
  case body =>
    rintro l pre x W b - hTm hb0 hbk
    obtain ⟨y, bs', hN⟩ := pt_num h8 ha hTm
    have hBW : B ≤ W.heap.size := Nat.le_trans hB hN.h.tu.size
    have o0 := hbk.cell 0
    have o1 := hbk.cell 1
    have o2 := hbk.cell 2
    have o3 := hbk.cell 3
    have cn := hN.h.bx.cell 0
    have HN' := Lib.hid hN
    have HE : Hid (∀ w3, Wtr B w3 g (bs' ++ y) → Turn (WS B W g) W w3 → KeepsFrom W0.heap.size W w3 ∧ (ptI B g w w.heap.size b0 (w.heap.size + 1) op s tot).T (pre ++ [x]) w3) := fun w3 hw3 ht3 => by
      refine ⟨(ht3.keeps hN.h.wt).from _, ?_⟩
      rw [Its.T_snoc]
      exact hN.next w3 (hN.h.put hw3 ht3) (hN.m.turn hN.h.wt ht3 (fun b hb => hb)) (hN.f_.turn ht3 (not_ws hN.h.wt hN.f_ (by decide) (by decide))) (fun e => (hN.n e).turn ht3 (not_ws hN.h.wt (hN.n e) (by decide) (by decide)))
    obtain ⟨k, ew, ep, ⟨km, kr⟩, td, lv, cb, fb⟩ := x
    rcases hN.a with ⟨p, hw, hp, hc, _, hy⟩ | ⟨p, z, hw, hp, hc, hz0, hz1, hy⟩
    · dsimp only at hw hp
      subst hw hp hy
      have HP := oput_whole hN.h.wt hBW p ⟨km, kr⟩ s.a ha hc hN.le
      clear hN hTm hbk hc
      dsimp only at o0 o1 o2 o3 ⊢
      gi_wp2_with fail
      refine ⟨trivial, ?_⟩
      refine (CallsIn.inRound l (callsIn_wide.2 HP)).mono ?_
      rintro e w3 ⟨rfl, hw3, ht3⟩
      obtain ⟨q1, q2⟩ := HE.out w3 hw3 ht3
      have Q1 := Lib.hid q1
      have Q2 := Lib.hid q2
      clear q1 q2 hw3 ht3 HP
      gi_wp2_with fail
      exact ⟨Q1.out, trivial, trivial, Q2.out⟩
    · dsimp only at hw hp
      subst hw hp hy
      have HP := oput_num hN.h.wt hBW p ⟨km, kr⟩ z hz0 (by omega) hc hN.le
      clear hN hTm hbk hc
      dsimp only at o0 o1 o2 o3 ⊢
      gi_wp2_with fail
      refine ⟨trivial, ?_⟩
      refine (CallsIn.inRound l (callsIn_wide.2 HP)).mono ?_
      rintro e w3 ⟨rfl, hw3, ht3⟩
      obtain ⟨q1, q2⟩ := HE.out w3 hw3 ht3
      have Q1 := Lib.hid q1
      have Q2 := Lib.hid q2
      clear q1 q2 hw3 ht3 HP
      gi_wp2_with fail
      exact ⟨Q1.out, trivial, trivial, Q2.out⟩
end Go.Proofs.YtohhojbeclbedaaGreatDoor

namespace Go.Proofs.YtohhojbeclbedaaGreatDoor
open Go.RowKit

/-- How a call ends that gives up: with ErrArg. -/
abbrev gaveArg : Ending := .panicked [{ v := .iface 30 (.int .i64 2), recovered := false }]
/-- What a call leaves that lays something: it is laid, or the call gave up. -/
def LaidR (B g : Nat) (W : World) (bs : List UInt8) (o : Lay) (e : Ending) (W' : World) : Prop :=
  Turn (WS B W g) W W' ∧ (match o with
    | some t => e = .returned (.tuple #[]) ∧ Wtr B W' g (bs ++ t)
    | none => e = gaveArg)
section
variable {B g : Nat} {W W1 W2 : World} {bs t : List UInt8} {o : Lay} {e : Ending}
theorem LaidR.cases (h : LaidR B g W bs o e W1) : (∃ t, o = some t ∧ e = .returned (.tuple #[]) ∧ Wtr B W1 g (bs ++ t) ∧ Turn (WS B W g) W W1) ∨ (o = none ∧ e = gaveArg ∧ Turn (WS B W g) W W1) := by
  obtain ⟨h1, h2⟩ := h
  cases o with
  | none => exact .inr ⟨rfl, h2, h1⟩
  | some t => exact .inl ⟨t, rfl, h2.1, h2.2, h1⟩
theorem LaidR.ret (ht : Turn (WS B W g) W W1) (hw : Wtr B W1 g (bs ++ t)) : LaidR B g W bs (some t) (.returned (.tuple #[])) W1 := ⟨ht, rfl, hw⟩
theorem LaidR.out (ht : Turn (WS B W g) W W1) : LaidR B g W bs none gaveArg W1 := ⟨ht, rfl⟩
theorem LaidR.then_ (ht : Turn (WS B W g) W W1) (h : LaidR B g W1 (bs ++ t) o e W2) : LaidR B g W bs (cat (some t) o) e W2 := by
  obtain ⟨h1, h2⟩ := h
  refine ⟨ht.trans h1, ?_⟩
  cases o with
  | none => exact h2
  | some u => exact ⟨h2.1, by rw [← List.append_assoc]; exact h2.2⟩
theorem LaidR.eq {o' : Lay} (h : LaidR B g W bs o e W1) (he : o = o') : LaidR B g W bs o' e W1 := he ▸ h
/-- Lists of blocks below B stay as a writer goes on. -/
theorem KeptS.turn {S : Nat → Prop} (hw : Wtr B W g bs) (ht : Turn (WS B W g) W W1) (hS : ∀ b, S b → b < B) : KeptS S W W1 := fun p v hp hv => cell_turn hv ht (by
  have hb := hS _ hp
  rintro (e | ⟨e, _⟩)
  · have e' : p.block = g := e
    have := hw.1
    omega
  · have e' : B ≤ p.block := e
    omega)
end
/-- A writer's state: what is laid behind what was there, and a block that holds its pointer. -/
structure PM (B g : Nat) (w : World) (bs t : List UInt8) (W : World) : Prop where
  wt : Wtr B W g (bs ++ t)
  tu : Turn (WS B w g) w W
section
variable {B g : Nat} {w W W1 : World} {bs t u : List UInt8} {o : Lay} {e : Ending}
theorem PM.start (h : Wtr B w g bs) (hg : w.grownBy W none) : PM B g w bs [] W := ⟨by rw [List.append_nil]; exact h.kept hg, Turn.none_ hg⟩
theorem PM.none_ (h : PM B g w bs t W) (hg : W.grownBy W1 none) : PM B g w bs t W1 := ⟨h.wt.kept hg, h.tu.grown hg (fun _ e => by cases e)⟩
theorem PM.next (h : PM B g w bs t W) (hw : Wtr B W1 g ((bs ++ t) ++ u)) (ht : Turn (WS B W g) W W1) : PM B g w bs (t ++ u) W1 := ⟨by rw [← List.append_assoc]; exact hw, h.tu.trans ht⟩
theorem PM.ret (h : PM B g w bs t W) : LaidR B g w bs (some t) (.returned (.tuple #[])) W := LaidR.ret h.tu h.wt
theorem PM.out (h : PM B g w bs t W) (ht : Turn (WS B W g) W W1) : LaidR B g w bs none gaveArg W1 := LaidR.out (h.tu.trans ht)
theorem PM.then_ (h : PM B g w bs t W) (hr : LaidR B g W (bs ++ t) o e W1) : LaidR B g w bs (cat (some t) o) e W1 := LaidR.then_ h.tu hr
theorem PM.size (h : PM B g w bs t W) : w.heap.size ≤ W.heap.size := h.tu.size
end
end Go.Proofs.YtohhojbeclbedaaGreatDoor

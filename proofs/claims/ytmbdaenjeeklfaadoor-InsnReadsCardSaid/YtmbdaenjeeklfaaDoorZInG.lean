/- Texts joined for the claim's sake: IPtM, IPut. -/
import Derived.Test.YtmbdaenjeeklfaaDoorZInF
import Derived.Test.YtmbdaenjeeklfaaDoorZIbC
/- insn: what Put holds between two operands. -/
namespace Go.Proofs.YtmbdaenjeeklfaaDoor
open Go.RowKit

section
variable {B g : Nat} {W W' : World}
theorem cell_turn {p : Addr} {v : Value} (h : W.cell? p = some v) (ht : Turn (WS B W g) W W') (hn : ¬ WS B W g p.block) : W'.cell? p = some v := by
  have hlt : p.block < W.heap.size := by
    rcases Nat.lt_or_ge p.block W.heap.size with hl | hl
    · exact hl
    · unfold World.cell? at h
      rw [Array.getElem?_eq_none hl] at h
      simp at h
  rw [World.cell?_of_block (ht.block _ hlt hn)]
  exact h
theorem not_ws {bs : List UInt8} {k : Nat} {t : TypeId} {cs : Array Value} (hw : Wtr B W g bs) (h : Blk W k t cs) (h1 : t ≠ 65) (h2 : t ≠ 5) : ¬ WS B W g k := by
  rintro (rfl | ⟨_, h8⟩)
  · obtain ⟨_, v, hb, _⟩ := hw
    exact Blk.ne_ hb h (Ne.symm h1) rfl
  · exact h.not_u8 h2 h8
theorem IntsA.turn {S : Nat → Prop} {bs : List UInt8} {v : Value} {zs : List Int} (h : IntsA S W v zs) (hw : Wtr B W g bs) (ht : Turn (WS B W g) W W') (hS : ∀ b, S b → b < B) : IntsA S W' v zs := by
  obtain ⟨A, c, h1, h2⟩ := h
  refine ⟨A, c, h1, fun hn => ?_⟩
  obtain ⟨b, off, h3, h4, h5⟩ := h2 hn
  refine ⟨b, off, h3, h4, fun i z hz => cell_turn (h5 i z hz) ht ?_⟩
  have hb := hS b h4
  rintro (e | ⟨e, _⟩)
  · have e' : b = g := e
    have := hw.1
    omega
  · have e' : B ≤ b := e
    omega
theorem Mem.turn {S : Nat → Prop} {b0 xb : Nat} {op : Int} {s : Sg} {bs : List UInt8} (h : Mem S b0 xb op s W) (hw : Wtr B W g bs) (ht : Turn (WS B W g) W W') (hS : ∀ b, S b → b < B) : Mem S b0 xb op s W' :=
  ⟨h.p.turn ht (not_ws hw h.p (by decide) (by decide)), h.x.turn ht (not_ws hw h.x (by decide) (by decide)), h.l.turn hw ht hS, h.le⟩
end

/-- A writer, beside an instruction, as operands are laid. -/
structure PtM (B g : Nat) (w0 : World) (nb : Nat) (bs : List UInt8) (W : World) : Prop where
  wt : Wtr B W g bs
  bx : Blk W nb 26 #[.pointer (some ⟨g, 0, none⟩)]
  tu : Turn (WS B w0 g) w0 W
section
variable {B g nb : Nat} {w0 W W' : World} {bs bs' : List UInt8}
theorem PtM.none_ (h : PtM B g w0 nb bs W) (hg : W.grownBy W' none) : PtM B g w0 nb bs W' := ⟨h.wt.kept hg, h.bx.kept hg, h.tu.grown hg (fun _ e => by cases e)⟩
theorem PtM.sp {k : Nat} {t : TypeId} {cs : Array Value} (h : PtM B g w0 nb bs W) (hg : W.grownBy W' (some k)) (hb : Blk W k t cs) (h1 : t ≠ 65) (h2 : t ≠ 5) (h3 : t ≠ 26) (hk : w0.heap.size ≤ k) : PtM B g w0 nb bs W' := by
  refine ⟨h.wt.grown hg (fun e => ?_) (fun j e => by injection e with e; subst e; exact hb.not_u8 h2), h.bx.grown hg (fun e => Blk.ne_ h.bx hb (Ne.symm h3) (by injection e)), h.tu.grown hg (fun r e => by injection e with e; omega)⟩
  obtain ⟨_, v, hw, _⟩ := h.wt
  exact Blk.ne_ hw hb (Ne.symm h1) (by injection e)
theorem PtM.own {row : Option Nat} (h : PtM B g w0 nb bs W) (hg : W.grownBy W' row) (hr : ∀ r, row = some r → w0.heap.size ≤ r ∧ ∃ o : Obj, W.heap[r]? = some o ∧ o.isCells = false) : PtM B g w0 nb bs W' := by
  have hr2 := fun r e => (hr r e).2
  refine ⟨h.wt.grown hg (fun e => ?_) (fun k e hu => ?_), h.bx.own hg hr2, h.tu.grown hg (fun r e => (hr r e).1)⟩
  · obtain ⟨_, v, hw, _⟩ := h.wt
    obtain ⟨o, ho, hc⟩ := hr2 g e.symm
    unfold Blk at hw
    rw [hw] at ho
    cases ho
    cases hc
  · obtain ⟨cs, fr, hk⟩ := hu
    obtain ⟨o, ho, hc⟩ := hr2 k e
    rw [hk] at ho
    cases ho
    cases hc
theorem PtM.put (h : PtM B g w0 nb bs W) (hw : Wtr B W' g bs') (ht : Turn (WS B W g) W W') : PtM B g w0 nb bs' W' :=
  ⟨hw, h.bx.turn ht (not_ws h.wt h.bx (by decide) (by decide)), h.tu.trans ht⟩
end
def inR (f : Fm) (x : Ins) (l : List Fld) : Prop := ∀ k ∈ l, isA k = true ∨ (0 ≤ val x k ∧ val x k ≤ (kOf f k).most)
/-- Put's parts of a range. -/
def ptRH (B g : Nat) (w0 : World) (nb : Nat) (f : Fm) (op : Int) (s0 : Sg) (tot : List UInt8) (td : List Fld) (n : Nat) (s : Sg) (W : World) : Prop :=
  s = s0 ∧ (Fld.N ∉ td → n = s0.l.length) ∧ inR f (s0.ins op) (td ++ els s0.l.length) ∧ ∃ bs, tot = bs ++ (td ++ els s0.l.length).flatMap (fB (s0.ins op)) ∧ PtM B g w0 nb bs W ∧ bs.length + 10 * (td ++ els s0.l.length).length ≤ 1099511627776
def ptRE (B g : Nat) (w0 : World) (nb : Nat) (f : Fm) (op : Int) (s0 : Sg) (tot : List UInt8) (i : Nat) (s : Sg) (W : World) : Prop :=
  s = s0 ∧ inR f (s0.ins op) ((els s0.l.length).drop i) ∧ ∃ bs, tot = bs ++ ((els s0.l.length).drop i).flatMap (fB (s0.ins op)) ∧ PtM B g w0 nb bs W ∧ bs.length + 10 * ((els s0.l.length).drop i).length ≤ 1099511627776
def ptI (B g : Nat) (w0 : World) (nb b0 xb : Nat) (op : Int) (s0 : Sg) (tot : List UInt8) : Its :=
  ⟨b0, xb, op, fmOf (clI op), hdF (clI op), s0.lv, fun b => b < B, ptRH B g w0 nb (fmOf (clI op)) op s0 tot, ptRE B g w0 nb (fmOf (clI op)) op s0 tot⟩
theorem pt_ok {B g : Nat} {w0 : World} {nb b0 xb : Nat} {op : Int} {s0 : Sg} {tot : List UInt8} {B1 : Nat} (hx : w0.heap.size ≤ xb) (hB : B ≤ w0.heap.size) (hB1 : w0.heap.size ≤ B1) : (ptI B g w0 nb b0 xb op s0 tot).Ok B1 where
  f_ := rfl
  td_ := rfl
  ne := fun b hb e => by have h1 : b < B := hb; have h2 : b = xb := e; omega
  spH := fun td n s X Y hs h => by
    obtain ⟨h1, h2, h3, bs, h4, h5, h6⟩ := h
    obtain ⟨hg, cs, hb⟩ := hs
    exact ⟨h1, h2, h3, bs, h4, h5.sp hg hb (by decide) (by decide) (by decide) hx, h6⟩
  spE := fun i s X Y hs h => by
    obtain ⟨h1, h3, bs, h4, h5, h6⟩ := h
    obtain ⟨hg, cs, hb⟩ := hs
    exact ⟨h1, h3, bs, h4, h5.sp hg hb (by decide) (by decide) (by decide) hx, h6⟩
  ownH := fun t W W' row h hg hr => by
    obtain ⟨h1, h2, h3, bs, h4, h5, h6⟩ := h
    exact ⟨h1, h2, h3, bs, h4, h5.own hg (fun r e => ⟨Nat.le_trans hB1 (hr r e).1, (hr r e).2⟩), h6⟩
  ownE := fun t W W' row h hg hr => by
    obtain ⟨h1, h3, bs, h4, h5, h6⟩ := h
    exact ⟨h1, h3, bs, h4, h5.own hg (fun r e => ⟨Nat.le_trans hB1 (hr r e).1, (hr r e).2⟩), h6⟩
  same := fun s X _ h => by
    obtain ⟨h1, _, h3, bs, h4, h5, h6⟩ := h
    exact ⟨h1, h3, bs, h4, h5, h6⟩
  made := fun n s X Y lb _ _ hne h _ _ _ => by
    obtain ⟨h1, h2, _⟩ := h
    subst h1
    exact absurd (h2 (by simp)) hne
theorem fB_len {x : Ins} {k : Fld} (ha : Whole x.a) (h : isA k = true ∨ (0 ≤ val x k ∧ val x k ≤ 1000)) : (fB x k).length ≤ 10 := by
  unfold fB
  split
  · exact sev_len10 (foldN_lt ha)
  · rename_i hn
    have := h.resolve_left (by simpa using hn)
    exact sev_len10 (by omega)
/-- Of an operand: where it stands, what is laid for it, what is left. -/
structure PtN (B g : Nat) (w0 : World) (nb : Nat) (I : Its) (s0 : Sg) (tot : List UInt8) (x : Ev) (W : World) (y : List UInt8) (bs : List UInt8) : Prop where
  m : I.M s0 W
  f_ : Blk W x.fb 82 (fmC I.f)
  h : PtM B g w0 nb bs W
  le : bs.length + 10 ≤ 1099511627776
  a : (∃ p, x.w = some p ∧ x.p = none ∧ W.cell? p = some (.int .i64 s0.a) ∧ ¬ WS B W g p.block ∧ y = sev (foldN s0.a)) ∨ (∃ p z, x.w = none ∧ x.p = some p ∧ W.cell? p = some (.int .i64 z) ∧ 0 ≤ z ∧ z ≤ 1000 ∧ y = sev z.toNat)
  n : x.k = .N → Blk W x.cb 3 #[.int .i64 (s0.l.length : Int)]
  next : ∀ W', PtM B g w0 nb (bs ++ y) W' → I.M s0 W' → Blk W' x.fb 82 (fmC I.f) → (x.k = .N → Blk W' x.cb 3 #[.int .i64 (s0.l.length : Int)]) → I.after x W'
theorem pt_num {B g : Nat} {w0 : World} {nb b0 xb : Nat} {op : Int} {s0 : Sg} {tot : List UInt8} {pre : List Ev} {x : Ev} {W : World} (h8 : s0.l.length ≤ 8) (ha : Whole s0.a) (h : (ptI B g w0 nb b0 xb op s0 tot).Tm pre x W) :
    ∃ (y bs : List UInt8), PtN B g w0 nb (ptI B g w0 nb b0 xb op s0 tot) s0 tot x W y bs := by
  obtain ⟨k, w, p, kd, td, lv, cb, fb⟩ := x
  obtain ⟨hb, s, hM, hlv, h⟩ := h
  dsimp only at *
  have hle : ∀ (k : Fld), (kOf (fmOf (clI op)) k).most ≤ 1000 := kOf_le _
  have hlen : ∀ (k : Fld) (l : List Fld), inR (fmOf (clI op)) (s0.ins op) (k :: l) → (fB (s0.ins op) k).length ≤ 10 ∧ inR (fmOf (clI op)) (s0.ins op) l := fun k l hr =>
    ⟨fB_len ha ((hr k (List.mem_cons_self)).imp id (fun h => ⟨h.1, Int.le_trans h.2 (hle k)⟩)), fun j hj => hr j (List.mem_cons_of_mem _ hj)⟩
  cases k with
  | A =>
    obtain ⟨hw, hp, hkd, rfl, hN, hr, bs, ht, hm, hl⟩ := h
    rw [List.cons_append] at hr ht hl
    obtain ⟨h10, hr'⟩ := hlen _ _ hr
    rw [List.flatMap_cons, ← List.append_assoc] at ht
    rw [List.length_cons] at hl
    refine ⟨fB (s.ins op) .A, bs, hM, hb, hm, by omega, .inl ⟨⟨xb, 1, none⟩, hw, hp, hM.x.cell 1, not_ws hm.wt hM.x (by decide) (by decide), rfl⟩, fun e => (by cases e), fun W' m' M' f' _ => ⟨f', s, M', hlv, rfl, fun h => hN (by simpa using h), hr', _, ht, m', ?_⟩⟩
    rw [List.length_append]; dsimp only; omega
  | B =>
    obtain ⟨hw, hp, hkd, rfl, hN, hr, bs, ht, hm, hl⟩ := h
    rw [List.cons_append] at hr ht hl
    obtain ⟨h10, hr'⟩ := hlen _ _ hr
    have hv := (hr _ (List.mem_cons_self)).resolve_left (by simp [isA])
    rw [List.flatMap_cons, ← List.append_assoc] at ht
    rw [List.length_cons] at hl
    refine ⟨fB (s.ins op) .B, bs, hM, hb, hm, by omega, .inr ⟨⟨xb, 2, none⟩, s.b, hw, hp, hM.x.cell 2, hv.1, Int.le_trans hv.2 (hle _), rfl⟩, fun e => (by cases e), fun W' m' M' f' _ => ⟨f', s, M', hlv, rfl, fun h => hN (by simpa using h), hr', _, ht, m', ?_⟩⟩
    rw [List.length_append]; dsimp only; omega
  | C =>
    obtain ⟨hw, hp, hkd, rfl, hN, hr, bs, ht, hm, hl⟩ := h
    rw [List.cons_append] at hr ht hl
    obtain ⟨h10, hr'⟩ := hlen _ _ hr
    have hv := (hr _ (List.mem_cons_self)).resolve_left (by simp [isA])
    rw [List.flatMap_cons, ← List.append_assoc] at ht
    rw [List.length_cons] at hl
    refine ⟨fB (s.ins op) .C, bs, hM, hb, hm, by omega, .inr ⟨⟨xb, 3, none⟩, s.c, hw, hp, hM.x.cell 3, hv.1, Int.le_trans hv.2 (hle _), rfl⟩, fun e => (by cases e), fun W' m' M' f' _ => ⟨f', s, M', hlv, rfl, fun h => hN (by simpa using h), hr', _, ht, m', ?_⟩⟩
    rw [List.length_append]; dsimp only; omega
  | D =>
    obtain ⟨hw, hp, hkd, rfl, hN, hr, bs, ht, hm, hl⟩ := h
    rw [List.cons_append] at hr ht hl
    obtain ⟨h10, hr'⟩ := hlen _ _ hr
    have hv := (hr _ (List.mem_cons_self)).resolve_left (by simp [isA])
    rw [List.flatMap_cons, ← List.append_assoc] at ht
    rw [List.length_cons] at hl
    refine ⟨fB (s.ins op) .D, bs, hM, hb, hm, by omega, .inr ⟨⟨xb, 4, none⟩, s.d, hw, hp, hM.x.cell 4, hv.1, Int.le_trans hv.2 (hle _), rfl⟩, fun e => (by cases e), fun W' m' M' f' _ => ⟨f', s, M', hlv, rfl, fun h => hN (by simpa using h), hr', _, ht, m', ?_⟩⟩
    rw [List.length_append]; dsimp only; omega
  | N =>
    obtain ⟨hw, hp, hkd, _, hc, rfl, hN, hr, bs, ht, hm, hl⟩ := h
    rw [List.cons_append, List.nil_append] at hr ht hl
    obtain ⟨h10, hr'⟩ := hlen _ _ hr
    rw [List.flatMap_cons, ← List.append_assoc] at ht
    rw [List.length_cons] at hl
    refine ⟨fB (s.ins op) .N, bs, hM, hb, hm, by omega, .inr ⟨⟨cb, 0, none⟩, s.l.length, hw, hp, hc.cell 0, by omega, by omega, rfl⟩, fun _ => hc, fun W' m' M' f' c' => ⟨f', s, M', hlv, s.l.length, h8, c' rfl, rfl, fun _ => rfl, by rw [List.nil_append]; exact hr', _, by rw [List.nil_append]; exact ht, m', ?_⟩⟩
    rw [List.length_append, List.nil_append]; omega
  | E i =>
    obtain ⟨hi, hw, ⟨b, off, c, hl0, hp⟩, hkd, rfl, hr, bs, ht, hm, hl⟩ := h
    obtain ⟨A, c', e1, e2⟩ := hM.l
    obtain ⟨b', off', e3, eS, e4⟩ := e2 (by intro e; rw [e] at hi; simp at hi)
    rw [hl0] at e1
    injection e1 with e1 _ _
    rw [e3] at e1
    injection e1 with e1
    injection e1 with e5 e6 _
    subst e5 e6
    have hz := e4 i _ (List.getElem?_eq_getElem hi)
    rw [els_drop hi] at hr ht hl
    obtain ⟨h10, hr'⟩ := hlen _ _ hr
    have hv := (hr _ (List.mem_cons_self)).resolve_left (by simp [isA])
    have hv' : val (s.ins op) (.E i) = s.l[i] := by simp [val, Sg.ins, List.getD_eq_getElem?_getD, hi]
    rw [hv'] at hv
    rw [List.flatMap_cons, ← List.append_assoc] at ht
    rw [List.length_cons] at hl
    have hfb : fB (s.ins op) (.E i) = sev (s.l[i]).toNat := by rw [← hv']; rfl
    refine ⟨fB (s.ins op) (.E i), bs, hM, hb, hm, by omega, .inr ⟨⟨b, off + i, none⟩, s.l[i], hw, hp, hz, hv.1, Int.le_trans hv.2 (hle _), hfb⟩, fun e => (by cases e), fun W' m' M' f' _ => ⟨f', s, M', hlv, rfl, hr', _, ht, m', ?_⟩⟩
    rw [List.length_append]; omega
end Go.Proofs.YtmbdaenjeeklfaaDoor

/- insn: Put: an instruction's bytes behind a writer's. -/
namespace Go.Proofs.YtmbdaenjeeklfaaDoor
open Go.RowKit Go.Shelf
attribute [local go_sem] Oper.semAt_some

theorem byte_of {op : Int} (h0 : 0 ≤ op) (h1 : op ≤ 24) : op = ((UInt8.ofNat op.toNat).toNat : Int) := by
  rw [u8_ofNat (by omega)]; omega

set_option maxRecDepth 100000 in
set_option maxHeartbeats 4000000 in
theorem put_bad {pp : Option Addr} (s : Sg) (op : Int) (w : World) (hl : IntsA (fun b => b < w.heap.size) w s.lv s.l) (hc : chkI (s.ins op) ≠ 0) :
    Calls Tryd.prog 11 #[.pointer pp, .agg (s.cells op)] w fun e w' => e = .returned (.int .i64 (chkI (s.ins op))) ∧ w.grownBy w' none := by
  have h0 : w.grownBy ((w.alloc (.cells #[.pointer pp] 26)).alloc (.cells (s.cells op) 24)) none := only_alloc (only_alloc (only_refl _ _) _) _
  obtain ⟨A, cp, hlv, _⟩ := id hl
  have HC := check_any s op _ (IntsA.row (W' := ((w.alloc (.cells #[.pointer pp] 26)).alloc (.cells (s.cells op) 24))) hl h0 (fun _ _ e => by cases e) |> fun h => by
    obtain ⟨A, c, k1, k2⟩ := h
    refine ⟨A, c, k1, fun hn => ?_⟩
    obtain ⟨b, off, k3, k4, k5⟩ := k2 hn
    exact ⟨b, off, k3, Nat.lt_of_lt_of_le k4 h0.size, k5⟩)
  generalize chkI (s.ins op) = e0 at *
  have hcl : s.cells op = #[.int .i64 op, .int .i64 s.a, .int .i64 s.b, .int .i64 s.c, .int .i64 s.d, .slice A s.l.length cp] := by unfold Sg.cells; rw [hlv]
  rw [hcl] at h0 HC ⊢
  clear hl hlv hcl
  go_enter Tryd.func11, Tryd.ntmps11
  go_wp2_with fail
  refine HC.mono ?_
  rintro e w1 ⟨rfl, hg1⟩
  go_wp2_with fail
  go_ret
  exact ⟨rfl, only_trans h0 hg1⟩

set_option maxRecDepth 100000 in
set_option maxHeartbeats 4000000 in
theorem put_any {B g : Nat} {w : World} {bs : List UInt8} (hw : Wtr B w g bs) (hB : B ≤ w.heap.size) (s : Sg) (op : Int) (hl : IntsA (fun b => b < B) w s.lv s.l) (ha : Whole s.a) (hc : chkI (s.ins op) = 0) (hb : bs.length + 500 ≤ 1099511627776) :
    Calls Tryd.prog 11 #[.pointer (some ⟨g, 0, none⟩), .agg (s.cells op)] w fun e w' => e = .returned (.int .i64 0) ∧ Wtr B w' g (bs ++ bytesI (s.ins op)) ∧ Turn (WS B w g) w w' := by
  have hmay : May (clI op) (s.ins op) := may_of hc
  obtain ⟨o0, o1, _, _⟩ := chkI_op hc
  have o0 : 0 ≤ op := o0
  have o1 : op ≤ 24 := o1
  obtain ⟨hcnt, h8⟩ := cov_parts hmay.cov
  have h8 : s.l.length ≤ 8 := h8
  have hcnt : (fmOf (clI op)).most = s.l.length ∨ Fld.N ∈ hdF (clI op) := hcnt
  obtain ⟨u, HU, HU2⟩ : ∃ u : UInt8, Hid (op = (u.toNat : Int)) ∧ Hid (UInt8.ofNat op.toNat = u) := ⟨_, Lib.hid (byte_of o0 o1), Lib.hid rfl⟩
  obtain ⟨A, cp, hlv, _⟩ := id hl
  refine (callsIn_wide (n := 3)).1 ?_
  refine callsIn_of_wp_marks Tryd.func11 rfl trivial ?_ rfl
  simp only [Tryd.ntmps11, List.size_toArray, List.length_cons, List.length_nil, Nat.reduceAdd, Nat.reduceSub, Array.replicate_succ, Array.replicate_zero, List.push_toArray, List.append_toArray, List.nil_append, List.cons_append]
  have h0 : w.grownBy ((w.alloc (.cells #[.pointer (some ⟨g, 0, none⟩)] 26)).alloc (.cells (s.cells op) 24)) none := only_alloc (only_alloc (only_refl _ _) _) _
  have hbn : Blk ((w.alloc (.cells #[.pointer (some ⟨g, 0, none⟩)] 26)).alloc (.cells (s.cells op) 24)) w.heap.size 26 #[.pointer (some ⟨g, 0, none⟩)] := (Blk.new w _ _).alloc _
  have hbx : Blk ((w.alloc (.cells #[.pointer (some ⟨g, 0, none⟩)] 26)).alloc (.cells (s.cells op) 24)) (w.heap.size + 1) 24 (s.cells op) := blk_new_at (by simp) _ _
  have hl0 := hl.row h0 (fun _ _ e => by cases e)
  have HC := check_any s op _ (hl0 |> fun h => by
    obtain ⟨A, c, k1, k2⟩ := h
    refine ⟨A, c, k1, fun hn => ?_⟩
    obtain ⟨b, off, k3, k4, k5⟩ := k2 hn
    exact ⟨b, off, k3, Nat.lt_of_lt_of_le k4 (Nat.le_trans hB h0.size), k5⟩)
  rw [hc] at HC
  have HL0 := Lib.hid hl0
  have HX := Lib.hid hbx
  have HWt := Lib.hid (hw.kept h0)
  have H0 := Lib.hid h0
  have HMay := Lib.hid hmay
  have HB := Lib.hid hb
  have c0 := hbn.cell 0
  have HN := Lib.hid hbn
  clear hl0 hbx hw h0 hmay hl hb hbn
  have HLV := Lib.hid hlv
  have hcl : s.cells op = #[.int .i64 op, .int .i64 s.a, .int .i64 s.b, .int .i64 s.c, .int .i64 s.d, .slice A s.l.length cp] := by unfold Sg.cells; rw [hlv]
  rw [hcl] at HC HL0 HX HWt H0 HN c0 ⊢
  have HCL := Lib.hid hcl
  clear hlv hcl
  have hwr : IntKind.u8.wrap op = op := by simp only [IntKind.wrap_u8]; omega
  gi_upto_region 4 with (refine ⟨trivial, ?_⟩; gi_at_call 13; refine (callsIn_wide.2 HC).mono ?_; rintro e w1 ⟨rfl, hg1⟩)
  have HG1 := Lib.hid (only_trans H0.out hg1)
  have c0' := (HN.out.kept hg1).cell 0
  have xo := (HX.out.kept hg1).cell 0
  have hB1 : B ≤ w1.heap.size := Nat.le_trans hB HG1.out.size
  have HBy := wbyte_eq (HWt.out.kept hg1) hB1 u op HU.out (by have := HB.out; omega)
  gi_wp2_with fail
  refine ⟨trivial, ?_⟩
  refine (callsIn_wide.2 HBy).mono ?_
  rintro e w2 ⟨rfl, hw2, ht2⟩
  have c0'' := ((HN.out.kept hg1).turn ht2 (not_ws (HWt.out.kept hg1) (HN.out.kept hg1) (by decide) (by decide))).cell 0
  clear HBy HC
  gi_wp2_with (refine ⟨trivial, ?_⟩; gi_at_call 35; refine (callsIn_wide.2 (operands_any _ _)).mono ?_; rintro e w' ⟨rfl, rfl⟩)
  have ht0 : Turn (WS B w g) w w2 := Turn.trans (Turn.none_ HG1.out) ht2
  have hW0 : w2.grownBy (w2.alloc (.cells #[.pointer (some ⟨w.heap.size + 1, 0, none⟩)] 70)) none := only_alloc (only_refl _ _) _
  have hM : Mem (fun b => b < B) w2.heap.size (w.heap.size + 1) op s (w2.alloc (.cells #[.pointer (some ⟨w.heap.size + 1, 0, none⟩)] 70)) := by
    refine ⟨Blk.new _ _ _, ?_, ((HL0.out.row hg1 (fun _ _ e => by cases e)).turn (HWt.out.kept hg1) ht2 (fun b hb => hb)).row hW0 (fun _ _ e => by cases e), by omega⟩
    rw [HCL.out]
    exact ((HX.out.kept hg1).turn ht2 (not_ws (HWt.out.kept hg1) (HX.out.kept hg1) (by decide) (by decide))).alloc _
  have hP : PtM B g w w.heap.size (bs ++ [u]) (w2.alloc (.cells #[.pointer (some ⟨w.heap.size + 1, 0, none⟩)] 70)) :=
    (PtM.mk hw2 ((HN.out.kept hg1).turn ht2 (not_ws (HWt.out.kept hg1) (HN.out.kept hg1) (by decide) (by decide))) ht0 : PtM B g w w.heap.size (bs ++ [u]) w2).none_ hW0
  have htot : Hid (bs ++ bytesI (s.ins op) = (bs ++ [u]) ++ (hdF (clI op) ++ els s.l.length).flatMap (fB (s.ins op))) := by
    have h1 : bytesI (s.ins op) = UInt8.ofNat op.toNat :: (hdF (clI op) ++ els s.l.length).flatMap (fB (s.ins op)) := rfl
    rw [h1, HU2.out, List.append_assoc]; rfl
  have hsz : w.heap.size ≤ (w2.alloc (.cells #[.pointer (some ⟨w.heap.size + 1, 0, none⟩)] 70)).heap.size := Nat.le_trans ht0.size hW0.size
  have hsz2 : w2.heap.size + 1 = (w2.alloc (.cells #[.pointer (some ⟨w.heap.size + 1, 0, none⟩)] 70)).heap.size := by simp
  generalize w2.alloc (.cells #[.pointer (some ⟨w.heap.size + 1, 0, none⟩)] 70) = W0 at *
  obtain ⟨tot, hte⟩ : ∃ tot, bs ++ bytesI (s.ins op) = tot := ⟨_, rfl⟩
  have HTE := Lib.hid hte
  have ok := pt_ok (B := B) (g := g) (w0 := w) (nb := w.heap.size) (b0 := w2.heap.size) (xb := w.heap.size + 1) (op := op) (s0 := s) (tot := tot) (B1 := W0.heap.size) (by omega) hB hsz
  have hT0 : (ptI B g w w.heap.size w2.heap.size (w.heap.size + 1) op s tot).T [] W0 :=
    ⟨s, hM, rfl, rfl, fun h => hcnt.resolve_right h, HMay.out.in_, bs ++ [u], by rw [← HTE.out]; exact htot.out, hP, by
      show (bs ++ [u]).length + 10 * (hdF (clI op) ++ els s.l.length).length ≤ 1099511627776
      have h1 := hd_le (clI op)
      have h2 : (els s.l.length).length = s.l.length := by simp [els]
      rw [List.length_append, List.length_append, h2]
      have := HB.out
      simp only [List.length_cons, List.length_nil]
      omega⟩
  have HW2 := Lib.hid hsz2
  generalize w2.heap.size = b0 at *
  clear hte hM hP htot hw2 ht2 ht0 c0 c0' c0'' xo hg1 hW0 hB1 hsz2 hwr
  refine wpIn_rangeFunc_handsB rfl (by omega) (gf := 52) (lb := #[.pointer (some ⟨b0, 0, none⟩)]) rfl trivial (enters_of Tryd.func52 (by kernel_rfl) rfl)
    (operands_in (ptI B g w w.heap.size b0 (w.heap.size + 1) op s tot) W0.heap.size ok) sp_keeps (fun _ => rfl) ok.ownT ok.ownEE ok.ownTm
    (fun _ _ => True) (fun _ _ _ => False) (fun _ _ _ _ _ _ _ => trivial) (fun _ _ _ _ _ h _ _ => h) (fun _ _ _ _ _ => trivial) trivial hT0 76 (fun x => #[.pointer x.w, .pointer x.p, .int .i64 x.kd.most, .bool x.kd.reg])
    (fun x b => { tmps := #[.pointer (some ⟨g, 0, none⟩), .agg #[.int .i64 op, .int .i64 s.a, .int .i64 s.b, .int .i64 s.c, .int .i64 s.d, .slice A s.l.length cp], .pointer (some ⟨w.heap.size, 0, none⟩), .pointer (some ⟨w.heap.size + 1, 0, none⟩), .int .i64 0, .int .i64 0, .pointer (some ⟨b, 0, none⟩), .agg #[.int .i64 op, .int .i64 s.a, .int .i64 s.b, .int .i64 s.c, .int .i64 s.d, .slice A s.l.length cp], .int .i64 0, .int .i64 0, .bool false, undef, .pointer (some ⟨g, 0, none⟩), .pointer (some ⟨w.heap.size + 1, 0, none⟩), .int .i64 op, .int .u8 op, .tuple #[], .func (.func 52) #[] #[.pointer (some ⟨b0, 0, none⟩)], .agg #[.pointer x.w, .pointer x.p, .int .i64 x.kd.most, .bool x.kd.reg], undef, undef, undef], defers := [] }) ?assign ?body ?done ?stop
  case assign =>
    intro l x W K hK
    gi_wp2
    exact hK
  case stop =>
    rintro D c pre W _ h _
    exact h.elim
  case done =>
    rintro D xs W hD ⟨s', hM', hE⟩ _ hK
    obtain ⟨rfl, _, bs', ht, hm, _⟩ := hE
    rw [List.drop_of_length_le (by simp [els]), List.flatMap_nil, List.append_nil] at ht
    subst ht
    have hm2 := Lib.hid (hm.own (grownBy_putObj' W D (.deferred none)) (fun r e => by injection e with e; subst e; exact ⟨by omega, _, hK, rfl⟩))
    clear hM' hm
    gi_wp2_with fail
    refine ⟨by simp, .inl ⟨_, _, rfl, run_takeDeferred hK, ?_⟩⟩
    exact ⟨_, results_tmp rfl _ _ _, rfl, by rw [HTE.out]; exact hm2.out.wt, hm2.out.tu⟩
  case body =>
    rintro l pre x W b - hTm hb0 hbk
    obtain ⟨y, bs', hN⟩ := pt_num h8 ha hTm
    have hBW : B ≤ W.heap.size := Nat.le_trans hB hN.h.tu.size
    have o0 := hbk.cell 0
    have o1 := hbk.cell 1
    have o2 := hbk.cell 2
    have o3 := hbk.cell 3
    have cn := hN.h.bx.cell 0
    have HN' := Lib.hid hN
    have HE : Hid (∀ w3, Wtr B w3 g (bs' ++ y) → Turn (WS B W g) W w3 → KeepsFrom W0.heap.size W w3 ∧ (ptI B g w w.heap.size b0 (w.heap.size + 1) op s tot).T (pre ++ [x]) w3) := fun w3 hw3 ht3 => by
      refine ⟨(ht3.keeps hN.h.wt).from _, ?_⟩
      rw [Its.T_snoc]
      exact hN.next w3 (hN.h.put hw3 ht3) (hN.m.turn hN.h.wt ht3 (fun b hb => hb)) (hN.f_.turn ht3 (not_ws hN.h.wt hN.f_ (by decide) (by decide))) (fun e => (hN.n e).turn ht3 (not_ws hN.h.wt (hN.n e) (by decide) (by decide)))
    obtain ⟨k, ew, ep, ⟨km, kr⟩, td, lv, cb, fb⟩ := x
    rcases hN.a with ⟨p, hw, hp, hc, _, hy⟩ | ⟨p, z, hw, hp, hc, hz0, hz1, hy⟩
    · dsimp only at hw hp
      subst hw hp hy
      have HP := oput_whole hN.h.wt hBW p ⟨km, kr⟩ s.a ha hc hN.le
      clear hN hTm hbk hc
      dsimp only at o0 o1 o2 o3 ⊢
      gi_wp2_with fail
      refine ⟨trivial, ?_⟩
      refine (CallsIn.inRound l (callsIn_wide.2 HP)).mono ?_
      rintro e w3 ⟨rfl, hw3, ht3⟩
      obtain ⟨q1, q2⟩ := HE.out w3 hw3 ht3
      have Q1 := Lib.hid q1
      have Q2 := Lib.hid q2
      clear q1 q2 hw3 ht3 HP
      gi_wp2_with fail
      exact ⟨Q1.out, trivial, trivial, Q2.out⟩
    · dsimp only at hw hp
      subst hw hp hy
      have HP := oput_num hN.h.wt hBW p ⟨km, kr⟩ z hz0 (by omega) hc hN.le
      clear hN hTm hbk hc
      dsimp only at o0 o1 o2 o3 ⊢
      gi_wp2_with fail
      refine ⟨trivial, ?_⟩
      refine (CallsIn.inRound l (callsIn_wide.2 HP)).mono ?_
      rintro e w3 ⟨rfl, hw3, ht3⟩
      obtain ⟨q1, q2⟩ := HE.out w3 hw3 ht3
      have Q1 := Lib.hid q1
      have Q2 := Lib.hid q2
      clear q1 q2 hw3 ht3 HP
      gi_wp2_with fail
      exact ⟨Q1.out, trivial, trivial, Q2.out⟩
end Go.Proofs.YtmbdaenjeeklfaaDoor

/- Texts joined for the claim's sake: IHwM, IApp, IHw. -/
import Derived.Test.YtohhojbeclbedaaGreatDoorZMKnwRow14
import Derived.Test.YtohhojbeclbedaaGreatDoorZMKnwRow15
import Derived.Test.YtohhojbeclbedaaGreatDoorZMKnwRow20
import Derived.Test.YtohhojbeclbedaaGreatDoorZMKnwRow21
import Derived.Scope
import Derived.WalkMore
namespace Go.Proofs.YtohhojbeclbedaaGreatDoor
open Go.RowKit

/-- A block of ints. -/
def IsInt (w : World) (i : Nat) : Prop := ∃ cs fr, w.heap[i]? = some (.cells cs 3 fr)
theorem Blk.not_int {w : World} {g : Nat} {t : TypeId} {cs : Array Value} (h : Blk w g t cs) (ht : t ≠ 3) : ¬ IsInt w g := by
  rintro ⟨cs', fr, h'⟩
  unfold Blk at h
  rw [h] at h'
  injection h' with h'
  injection h' with _ h2
  exact ht h2
theorem own_int {w : World} {B n : Nat} {v : Value} {xs : List Value} (h : w.ownsRow B 3 1 v n xs) {k : Nat} (hk : v.ownBlock = some k) : B ≤ k ∧ IsInt w k := by
  refine ⟨(h.lt k hk).1, ?_⟩
  rcases h.2 with ⟨rfl, _⟩ | ⟨g, cap, cur, rfl, _, hh, _⟩
  · simp [Value.ownBlock] at hk
  · simp [Value.ownBlock] at hk
    subst hk
    exact ⟨_, _, hh⟩
/-- hasWrong's own boxes: is one wrong; the registers that have come. -/
structure HwM (w0 : World) (bw ba : Nat) (q : Bool) (rs : List Int) (W : World) : Prop where
  step : w0.grownBy W none
  gw : w0.heap.size ≤ bw
  ga : w0.heap.size ≤ ba
  wr : Blk W bw 4 #[.bool q]
  ah : ∃ v, Blk W ba 26 #[v] ∧ W.ownsRow w0.heap.size 3 1 v rs.length (rs.map zV)
def offRow (W : World) (lo : Nat) (row : Option Nat) : Prop := ∀ k, row = some k → lo ≤ k ∧ ∃ t cs, Blk W k t cs ∧ t ≠ 4 ∧ t ≠ 26 ∧ t ≠ 3
section
variable {w0 W W' : World} {bw ba : Nat} {q : Bool} {rs : List Int}
theorem ne_row {W : World} {lo k : Nat} {t : TypeId} {cs : Array Value} {row : Option Nat} (h : Blk W k t cs) (hr : offRow W lo row) (ht : t = 4 ∨ t = 26 ∨ t = 3) : some k ≠ row := by
  intro e
  obtain ⟨_, t', cs', hb, h1, h2, h3⟩ := hr k e.symm
  unfold Blk at h hb
  rw [h] at hb
  injection hb with hb
  injection hb with _ hb
  subst hb
  rcases ht with e | e | e
  · exact h1 e
  · exact h2 e
  · exact h3 e
theorem HwM.row {row : Option Nat} (h : HwM w0 bw ba q rs W) (hg : W.grownBy W' row) (hr : offRow W w0.heap.size row) : HwM w0 bw ba q rs W' := by
  obtain ⟨v, hb, ho⟩ := h.ah
  refine ⟨?_, h.gw, h.ga, h.wr.grown hg (ne_row h.wr hr (.inl rfl)), v, hb.grown hg (ne_row hb hr (.inr (.inl rfl))), ho.kept hg ?_⟩
  · cases row with
    | none => exact only_trans h.step hg
    | some k => exact only_new h.step hg (hr k rfl).1
  · cases hv : v.ownBlock with
    | none => simp
    | some k =>
      refine .inr (fun e => ?_)
      have := (own_int ho hv).2
      obtain ⟨cs, fr, hk⟩ := this
      obtain ⟨_, t', cs', hb', _, _, h3⟩ := hr k e.symm
      unfold Blk at hb'
      rw [hk] at hb'
      injection hb' with hb'
      injection hb' with _ hb' _
      exact h3 hb'.symm
theorem HwM.none_ (h : HwM w0 bw ba q rs W) (hg : W.grownBy W' none) : HwM w0 bw ba q rs W' := h.row hg (fun _ e => by cases e)
theorem HwM.own {row : Option Nat} (h : HwM w0 bw ba q rs W) (hg : W.grownBy W' row) (hr : ∀ r, row = some r → w0.heap.size ≤ r ∧ ∃ o : Obj, W.heap[r]? = some o ∧ o.isCells = false) : HwM w0 bw ba q rs W' := by
  obtain ⟨v, hb, ho⟩ := h.ah
  have hr2 := fun r e => (hr r e).2
  refine ⟨?_, h.gw, h.ga, h.wr.own hg hr2, v, hb.own hg hr2, ho.kept hg ?_⟩
  · cases row with
    | none => exact only_trans h.step hg
    | some k => exact only_new h.step hg (hr k rfl).1
  · cases hv : v.ownBlock with
    | none => simp
    | some k =>
      refine .inr (fun e => ?_)
      obtain ⟨cs, fr, hk⟩ := (own_int ho hv).2
      obtain ⟨o, ho', hc⟩ := hr2 k e.symm
      rw [hk] at ho'
      cases ho'
      cases hc
theorem HwM.setW (h : HwM w0 bw ba q rs W) (q' : Bool) : HwM w0 bw ba q' rs (W.setCell ⟨bw, 0, none⟩ (.bool q')) := by
  obtain ⟨v, hb, ho⟩ := h.ah
  have hg : W.grownBy (W.setCell ⟨bw, 0, none⟩ (.bool q')) (some bw) := only_setCell (only_refl _ _) rfl _
  refine ⟨only_new h.step hg h.gw, h.gw, h.ga, h.wr.set_ 0 _, v, hb.grown hg (fun e => Blk.ne_ hb h.wr (by decide) (by injection e)), ho.kept hg ?_⟩
  cases hv : v.ownBlock with
  | none => simp
  | some k =>
    refine .inr (fun e => ?_)
    injection e with e
    subst e
    exact h.wr.not_int (by decide) (own_int ho hv).2
end

/-! ### THE ROUND -/
/-- What stands in a round that has an operand's box b. -/
structure HwC (I : Its) (s : Sg) (x : Ev) (b : Nat) (W : World) : Prop where
  m : I.M s W
  f : Blk W x.fb 253 (fmC I.f)
  o : Blk W b 201 #[.pointer x.w, .pointer x.p, .int .i64 x.kd.most, .bool x.kd.reg]
section
variable {I : Its} {s : Sg} {x : Ev} {b bw ba : Nat} {q : Bool} {rs : List Int} {w0 W W' : World}
theorem HwC.none_ (h : HwC I s x b W) (hg : W.grownBy W' none) : HwC I s x b W' := ⟨h.m.none_ hg, h.f.kept hg, h.o.kept hg⟩
theorem HwC.at_ {t : TypeId} {cs : Array Value} {k : Nat} (h : HwC I s x b W) (hS : ∀ b, I.S b → b < w0.heap.size) (hg : W.grownBy W' (some k)) (hk : Blk W k t cs) (hge : w0.heap.size ≤ k) (h1 : t ≠ 195) (h2 : t ≠ 52) (h3 : t ≠ 253) (h4 : t ≠ 201) : HwC I s x b W' :=
  ⟨h.m.row hg (fun e => Blk.ne_ h.m.p hk (Ne.symm h1) (by injection e)) (fun e => Blk.ne_ h.m.x hk (Ne.symm h2) (by injection e)) (fun j hj e => by have := hS j hj; injection e with e; omega),
   h.f.grown hg (fun e => Blk.ne_ h.f hk (Ne.symm h3) (by injection e)), h.o.grown hg (fun e => Blk.ne_ h.o hk (Ne.symm h4) (by injection e))⟩
theorem HwC.int {row : Option Nat} (h : HwC I s x b W) (hS : ∀ b, I.S b → b < w0.heap.size) (hg : W.grownBy W' row) (hr : ∀ k, row = some k → w0.heap.size ≤ k ∧ IsInt W k) : HwC I s x b W' := by
  have ne : ∀ k t cs, Blk W k t cs → t ≠ 3 → some k ≠ row := fun k t cs hb ht e => hb.not_int ht (hr k e.symm).2
  exact ⟨h.m.row hg (ne _ _ _ h.m.p (by decide)) (ne _ _ _ h.m.x (by decide)) (fun j hj e => by have := hS j hj; have := (hr j e.symm).1; omega), h.f.grown hg (ne _ _ _ h.f (by decide)), h.o.grown hg (ne _ _ _ h.o (by decide))⟩
end
/-- hasWrong's parts of a range: s0, what stands in the instruction; tot, whether it has something wrong. -/
def hwRH (w0 : World) (f : Fm) (op : Int) (bw ba : Nat) (s0 : Sg) (tot : Bool) (td : List Fld) (n : Nat) (s : Sg) (W : World) : Prop :=
  s = s0 ∧ (Fld.N ∉ td → n = s0.l.length) ∧ ∃ rs, tot = wrongF f (s0.ins op) rs (td ++ els s0.l.length) ∧ HwM w0 bw ba false rs W ∧ rs.length + (td ++ els s0.l.length).length ≤ 20
def hwRE (w0 : World) (f : Fm) (op : Int) (bw ba : Nat) (s0 : Sg) (tot : Bool) (i : Nat) (s : Sg) (W : World) : Prop :=
  s = s0 ∧ ∃ rs, tot = wrongF f (s0.ins op) rs ((els s0.l.length).drop i) ∧ HwM w0 bw ba false rs W ∧ rs.length + ((els s0.l.length).drop i).length ≤ 20
def hwI (w0 : World) (b0 xb : Nat) (op : Int) (bw ba : Nat) (s0 : Sg) (tot : Bool) : Its :=
  ⟨b0, xb, op, fmOf (clI op), hdF (clI op), s0.lv, fun b => b < w0.heap.size, hwRH w0 (fmOf (clI op)) op bw ba s0 tot, hwRE w0 (fmOf (clI op)) op bw ba s0 tot⟩
theorem sp_off {I : Its} {lo : Nat} {X Y : World} (h : I.Sp X Y) (hx : lo ≤ I.xb) : offRow X lo (some I.xb) := fun k e => by
  obtain ⟨_, cs, hb⟩ := h
  injection e with e
  subst e
  exact ⟨hx, _, cs, hb, by decide, by decide, by decide⟩
theorem hw_ok {w0 : World} {b0 xb bw ba : Nat} {op : Int} {s0 : Sg} {tot : Bool} {B : Nat} (hx : w0.heap.size ≤ xb) (hB : w0.heap.size ≤ B) : (hwI w0 b0 xb op bw ba s0 tot).Ok B where
  f_ := rfl
  td_ := rfl
  ne := fun b hb e => by have h1 : b < w0.heap.size := hb; have h2 : b = xb := e; omega
  spH := fun td n s X Y hs h => by
    obtain ⟨h1, h2, rs, h3, h4, h5⟩ := h
    exact ⟨h1, h2, rs, h3, h4.row hs.1 (sp_off hs hx), h5⟩
  spE := fun i s X Y hs h => by
    obtain ⟨h1, rs, h3, h4, h5⟩ := h
    exact ⟨h1, rs, h3, h4.row hs.1 (sp_off hs hx), h5⟩
  ownH := fun t W W' row h hg hr => by
    obtain ⟨h1, h2, rs, h3, h4, h5⟩ := h
    exact ⟨h1, h2, rs, h3, h4.own hg (fun r e => ⟨Nat.le_trans hB (hr r e).1, (hr r e).2⟩), h5⟩
  ownE := fun t W W' row h hg hr => by
    obtain ⟨h1, rs, h3, h4, h5⟩ := h
    exact ⟨h1, rs, h3, h4.own hg (fun r e => ⟨Nat.le_trans hB (hr r e).1, (hr r e).2⟩), h5⟩
  same := fun s X _ h => by
    obtain ⟨h1, _, rs, h3, h4, h5⟩ := h
    exact ⟨h1, rs, h3, h4, h5⟩
  made := fun n s X Y lb _ _ hne h _ _ _ => by
    obtain ⟨h1, h2, _⟩ := h
    subst h1
    exact absurd (h2 (by simp)) hne
theorem els_drop {n i : Nat} (h : i < n) : (els n).drop i = .E i :: (els n).drop (i + 1) := by
  unfold els
  rw [List.drop_eq_getElem_cons (by simpa using h)]
  simp
/-- Of an operand that is a number: where it stands, and what is left. -/
structure HwN (w0 : World) (I : Its) (f : Fm) (y : Ins) (bw ba : Nat) (s0 : Sg) (tot : Bool) (x : Ev) (W : World) (p : Addr) (z : Int) (rest : List Fld) (rs : List Int) : Prop where
  w : x.w = none
  p_ : x.p = some p
  c : W.cell? p = some (.int .i64 z)
  m : I.M s0 W
  f_ : Blk W x.fb 253 (fmC I.f)
  h : HwM w0 bw ba false rs W
  le : rs.length + 1 + rest.length ≤ 20
  t : tot = (if inK z x.kd then (if x.kd.reg then (if rs.contains z then true else wrongF f y (rs ++ [z]) rest) else wrongF f y rs rest) else true)
  n : x.k = .N → x.kd.reg = false ∧ Blk W x.cb 3 #[.int .i64 (s0.l.length : Int)]
  pb : x.kd.reg = true → p.block < w0.heap.size ∨ p.block = I.xb
  next : ∀ W' rs', tot = wrongF f y rs' rest → HwM w0 bw ba false rs' W' → rs'.length ≤ rs.length + 1 → I.M s0 W' → Blk W' x.fb 253 (fmC I.f) → (x.k = .N → Blk W' x.cb 3 #[.int .i64 (s0.l.length : Int)]) → I.after x W'
theorem hw_num {w0 : World} {b0 xb bw ba : Nat} {op : Int} {s0 : Sg} {tot : Bool} {pre : List Ev} {x : Ev} {W : World} (h8 : s0.l.length ≤ 8) (h : (hwI w0 b0 xb op bw ba s0 tot).Tm pre x W) (hA : isA x.k = false) :
    ∃ (p : Addr) (z : Int) (rest : List Fld) (rs : List Int), HwN w0 (hwI w0 b0 xb op bw ba s0 tot) (fmOf (clI op)) (s0.ins op) bw ba s0 tot x W p z rest rs := by
  obtain ⟨k, w, p, kd, td, lv, cb, fb⟩ := x
  obtain ⟨hb, s, hM, hlv, h⟩ := h
  dsimp only at *
  cases k with
  | A => cases hA
  | B =>
    obtain ⟨hw, hp, hkd, rfl, hN, rs, ht, hm, hl⟩ := h
    have x2 := hM.x.cell 2
    rw [List.cons_append, wrongF] at ht
    refine ⟨⟨xb, 2, none⟩, s.b, td ++ els s.l.length, rs, hw, hp, x2, hM, hb, hm, by rw [List.cons_append, List.length_cons] at hl; omega, by rw [hkd]; exact ht, fun e => (by cases e), fun _ => .inr rfl, fun W' rs' t' m' l' M' f' _ => ⟨f', s, M', hlv, rfl, fun h => hN (by simpa using h), rs', t', m', ?_⟩⟩
    rw [List.cons_append, List.length_cons] at hl; dsimp only; omega
  | C =>
    obtain ⟨hw, hp, hkd, rfl, hN, rs, ht, hm, hl⟩ := h
    have x2 := hM.x.cell 3
    rw [List.cons_append, wrongF] at ht
    refine ⟨⟨xb, 3, none⟩, s.c, td ++ els s.l.length, rs, hw, hp, x2, hM, hb, hm, by rw [List.cons_append, List.length_cons] at hl; omega, by rw [hkd]; exact ht, fun e => (by cases e), fun _ => .inr rfl, fun W' rs' t' m' l' M' f' _ => ⟨f', s, M', hlv, rfl, fun h => hN (by simpa using h), rs', t', m', ?_⟩⟩
    rw [List.cons_append, List.length_cons] at hl; dsimp only; omega
  | D =>
    obtain ⟨hw, hp, hkd, rfl, hN, rs, ht, hm, hl⟩ := h
    have x2 := hM.x.cell 4
    rw [List.cons_append, wrongF] at ht
    refine ⟨⟨xb, 4, none⟩, s.d, td ++ els s.l.length, rs, hw, hp, x2, hM, hb, hm, by rw [List.cons_append, List.length_cons] at hl; omega, by rw [hkd]; exact ht, fun e => (by cases e), fun _ => .inr rfl, fun W' rs' t' m' l' M' f' _ => ⟨f', s, M', hlv, rfl, fun h => hN (by simpa using h), rs', t', m', ?_⟩⟩
    rw [List.cons_append, List.length_cons] at hl; dsimp only; omega
  | N =>
    obtain ⟨hw, hp, hkd, _, hc, rfl, hN, rs, ht, hm, hl⟩ := h
    rw [List.cons_append, List.nil_append, wrongF] at ht
    refine ⟨⟨cb, 0, none⟩, s.l.length, els s.l.length, rs, hw, hp, hc.cell 0, hM, hb, hm, by rw [List.cons_append, List.nil_append, List.length_cons] at hl; omega, by rw [hkd]; exact ht, fun _ => ⟨by rw [hkd], hc⟩, fun h => (by rw [hkd] at h; cases h), fun W' rs' t' m' l' M' f' c' => ⟨f', s, M', hlv, s.l.length, h8, c' rfl, rfl, fun _ => rfl, rs', t', m', ?_⟩⟩
    rw [List.cons_append, List.nil_append, List.length_cons] at hl; rw [List.nil_append]; omega
  | E i =>
    obtain ⟨hi, hw, ⟨b, off, c, hl0, hp⟩, hkd, rfl, rs, ht, hm, hl⟩ := h
    obtain ⟨A, c', e1, e2⟩ := hM.l
    obtain ⟨b', off', e3, eS, e4⟩ := e2 (by intro e; rw [e] at hi; simp at hi)
    rw [hl0] at e1
    injection e1 with e1 _ _
    rw [e3] at e1
    injection e1 with e1
    injection e1 with e5 e6 _
    subst e5 e6
    have hz := e4 i _ (List.getElem?_eq_getElem hi)
    rw [els_drop hi, wrongF] at ht
    rw [els_drop hi, List.length_cons] at hl
    have hv : val (s.ins op) (.E i) = s.l[i] := by simp [val, Sg.ins, List.getD_eq_getElem?_getD, hi]
    rw [hv] at ht
    refine ⟨⟨b, off + i, none⟩, s.l[i], (els s.l.length).drop (i + 1), rs, hw, hp, hz, hM, hb, hm, by omega, by rw [hkd]; exact ht, fun e => (by cases e), fun _ => .inl eS, fun W' rs' t' m' l' M' f' _ => ⟨f', s, M', hlv, rfl, rs', t', m', by omega⟩⟩
theorem hw_A {w0 : World} {b0 xb bw ba : Nat} {op : Int} {s0 : Sg} {tot : Bool} {pre : List Ev} {x : Ev} {W : World} (h : (hwI w0 b0 xb op bw ba s0 tot).Tm pre x W) (hA : x.k = .A) :
    (∃ a, x.w = some a) ∧ x.p = none ∧ x.kd = k0 ∧ (hwI w0 b0 xb op bw ba s0 tot).M s0 W ∧ Blk W x.fb 253 (fmC (fmOf (clI op))) ∧ ∃ rs, HwM w0 bw ba false rs W ∧
      (∀ W', HwM w0 bw ba false rs W' → (hwI w0 b0 xb op bw ba s0 tot).M s0 W' → Blk W' x.fb 253 (fmC (fmOf (clI op))) → (hwI w0 b0 xb op bw ba s0 tot).after x W') := by
  obtain ⟨k, w, p, kd, td, lv, cb, fb⟩ := x
  obtain ⟨hb, s, hM, hlv, h⟩ := h
  dsimp only at *
  subst hA
  obtain ⟨hw, hp, hkd, rfl, hN, rs, ht, hm, hl⟩ := h
  rw [List.cons_append, wrongF] at ht
  refine ⟨⟨_, hw⟩, hp, hkd, hM, hb, rs, hm, fun W' m' M' f' => ⟨f', s, M', hlv, rfl, fun h => hN (by simpa using h), rs, ht, m', ?_⟩⟩
  rw [List.cons_append, List.length_cons] at hl; dsimp only; omega
end Go.Proofs.YtohhojbeclbedaaGreatDoor

namespace Go.Proofs.YtohhojbeclbedaaGreatDoor
open Go.RowKit Go.Shelf

section
variable {o : Oper} {b : Act} {W : World} {K : Act → World → Prop} {Q : Exit → Act → World → Prop} {t : Tmp}
theorem ia_ints {p : Addr} {A : Option Addr} {n c : Nat} (ho : o.op = .load 26 (.tmp t)) (h1 : b.eval (.tmp t) = .pointer (some p)) (hc : W.cell? p = some (.slice A n c)) : (execOp b.eval o).run Tryz.prog W = .ok (.value (.slice A n c)) W := by
  obtain ⟨dst, op, type, pos, after, guard⟩ := o
  dsimp only at ho
  subst ho
  simp only [execOp, h1]
  go_simp
theorem ia_at {g : Nat} (ho : o.op = .fieldAddr 201 (.tmp t) 1) (h1 : b.eval (.tmp t) = .pointer (some ⟨g, 0, none⟩)) : (execOp b.eval o).run Tryz.prog W = .ok (.value (.pointer (some ⟨g, 1, none⟩))) W := by
  obtain ⟨dst, op, type, pos, after, guard⟩ := o
  dsimp only at ho
  subst ho
  simp only [execOp, h1]
  go_simp
theorem ia_ptr {p q : Addr} (ho : o.op = .load 197 (.tmp t)) (h1 : b.eval (.tmp t) = .pointer (some p)) (hc : W.cell? p = some (.pointer (some q))) : (execOp b.eval o).run Tryz.prog W = .ok (.value (.pointer (some q))) W := by
  obtain ⟨dst, op, type, pos, after, guard⟩ := o
  dsimp only at ho
  subst ho
  simp only [execOp, h1]
  go_simp
theorem ia_nil {q : Addr} (ho : o.op = .nilCheck (.tmp t)) (h1 : b.eval (.tmp t) = .pointer (some q)) : (execOp b.eval o).run Tryz.prog W = .ok (.value (.pointer (some q))) W := by
  obtain ⟨dst, op, type, pos, after, guard⟩ := o
  dsimp only at ho
  subst ho
  simp only [execOp, h1]
  go_simp
theorem ia_int {p : Addr} {n : Int} (ho : o.op = .load 3 (.tmp t)) (h1 : b.eval (.tmp t) = .pointer (some p)) (hc : W.cell? p = some (.int .i64 n)) : (execOp b.eval o).run Tryz.prog W = .ok (.value (.int .i64 n)) W := by
  obtain ⟨dst, op, type, pos, after, guard⟩ := o
  dsimp only at ho
  subst ho
  simp only [execOp, h1]
  go_simp
theorem ia_build {z : Int} (ho : o.op = .buildSlice 26 1 #[(0, .tmp t)]) (h : b.eval (.tmp t) = .int .i64 z)
    (hK : K (b.put o.dst (.slice (some ⟨W.heap.size, 0, none⟩) 1 1)) (W.alloc (.cells #[.int .i64 z] 3))) : o.wp Tryz.prog b W K Q := by
  obtain ⟨dst, op, type, pos, after, guard⟩ := o
  dsimp only at ho
  subst ho
  have h' : b.tmps[t]?.getD undef = .int .i64 z := by simpa [Act.eval] using h
  unfold Oper.wp
  simp only [execOp]
  go_simp
  exact hK
theorem ia_append (s x : Operand) (ho : o.op = .call { callee := .builtin .append, args := #[s, x], argTypes := #[26, 26] })
    {base : Nat} {v : Value} {zs : List Int} {z : Int} {g : Nat} (hs : b.eval s = v) (hx : b.eval x = .slice (some ⟨g, 0, none⟩) 1 1)
    (hot : W.ownsRow base 3 1 v zs.length (zs.map zV)) (hb : Blk W g 3 #[.int .i64 z]) (hn : zs.length ≤ 1000) (hbase : base ≤ W.heap.size)
    (h : ∀ v' W', W'.ownsRow base 3 1 v' (zs ++ [z]).length ((zs ++ [z]).map zV) → W.grownBy W' v.ownBlock → K (b.put o.dst v') W') : o.wp Tryz.prog b W K Q := by
  obtain ⟨i0, hi, hz0, hz1, hz2⟩ := info_parts i64_info
  have hnews : ∀ j u, [Value.int .i64 z][j]? = some u → W.cell? ((⟨g, 0, none⟩ : Addr).add j) = some u := fun j u hu => by
    have : j = 0 := by have := (List.getElem?_eq_some_iff.1 hu).1; simpa using this
    subst this
    rw [← hu]; exact hb.cell 0
  have hone : ∀ u ∈ [Value.int .i64 z], u.oneCell' = true := fun u hu => by obtain rfl := List.mem_singleton.1 hu; rfl
  obtain ⟨v', W', hr, h2, h3, _⟩ := run_append_own (P := Tryz.prog) W base 26 o.type 3 i0 _ 1 8 Tryz.underlying26 hi hz0 hz1 hz2 rfl (by decide) v zs.length (zs.map zV) hot ⟨g, 0, none⟩ 1 1 [Value.int .i64 z] rfl hnews hone (by unfold maxLen; omega) (by omega) hbase
  unfold Oper.wp execOp
  simp only [ho, resolve, invoke, builtin, Sem.run_bind, Sem.run_pure, Result.andThen_ok, List.map_toArray, List.map_cons, List.map_nil, hs, hx, hr]
  refine h v' W' ?_ h3
  rw [List.length_append, List.map_append]; exact h2
theorem ia_store {u : Tmp} {g k : Nat} {ty : TypeId} {cs : Array Value} {A0 A : Option Addr} {n0 c0 n c : Nat} (ho : o.op = .store 26 (.tmp t) (.tmp u)) (ht : b.eval (.tmp t) = .pointer (some ⟨g, k, none⟩)) (h : b.eval (.tmp u) = .slice A n c)
    (hb : Blk W g ty cs) (hc : cs[k]? = some (.slice A0 n0 c0)) (hK : K (b.put o.dst undef) (W.setCell ⟨g, k, none⟩ (.slice A n c))) : o.wp Tryz.prog b W K Q := by
  obtain ⟨dst, op, type, pos, after, guard⟩ := o
  dsimp only at ho
  subst ho
  have c5 : W.cell? ⟨g, k, none⟩ = some (.slice A0 n0 c0) := (hb.cell k).trans hc
  have f5 := hb.frozen k
  unfold Oper.wp
  simp only [execOp, h, ht]
  go_simp
  exact hK
theorem ia_put {b : Act} {t : Tmp} (x : Value) (h : t < b.tmps.size) : (b.put (some t) x).tmps.getD t undef = x := by simp [Act.put, h]
end

/-- What holds between the operations that put a register behind those ahead. -/
def HwS (lo ba : Nat) (v : Value) (rs : List Int) (z : Int) (W : World) : Nat → (Tmp → Value) → World → Prop
  | 0, _, W' => W.grownBy W' none
  | 1, f, W' => ∃ g, f 37 = .slice (some ⟨g, 0, none⟩) 1 1 ∧ Blk W' g 3 #[.int .i64 z] ∧ W.grownBy W' none
  | 2, f, W' => ∃ v' W3, f 38 = v' ∧ W.grownBy W3 none ∧ W3.grownBy W' v.ownBlock ∧ W'.ownsRow lo 3 1 v' (rs ++ [z]).length ((rs ++ [z]).map zV)
  | _, _, W' => ∃ v' W3 W2, W.grownBy W3 none ∧ W3.grownBy W2 v.ownBlock ∧ W2.ownsRow lo 3 1 v' (rs ++ [z]).length ((rs ++ [z]).map zV) ∧ W' = W2.setCell ⟨ba, 0, none⟩ v'
theorem HwS.end_ {I : Its} {s : Sg} {x : Ev} {b : Nat} {w0 W W' : World} {bw ba : Nat} {v : Value} {rs : List Int} {z : Int} {f : Tmp → Value} (h : HwS w0.heap.size ba v rs z W 3 f W') (hm : HwM w0 bw ba false rs W) (hv : Blk W ba 26 #[v]) (ho : W.ownsRow w0.heap.size 3 1 v rs.length (rs.map zV)) (hc : HwC I s x b W) (hS : ∀ b, I.S b → b < w0.heap.size) :
    KeepsOthers W W' ∧ HwM w0 bw ba false (rs ++ [z]) W' ∧ HwC I s x b W' := by
  obtain ⟨v', W3, W2, h1, h2, h3, rfl⟩ := h
  have hm3 := hm.none_ h1
  have hc3 := hc.none_ h1
  have hv3 := hv.kept h1
  have ho3 : W3.ownsRow w0.heap.size 3 1 v rs.length (rs.map zV) := ho.kept h1 (by cases v.ownBlock <;> simp)
  have hrow : ∀ k, v.ownBlock = some k → w0.heap.size ≤ k ∧ IsInt W3 k := fun k e => own_int ho3 e
  have ne : ∀ k t cs, Blk W3 k t cs → t ≠ 3 → some k ≠ v.ownBlock := fun k t cs hb ht e => hb.not_int ht (hrow k e.symm).2
  have hv2 := hv3.grown h2 (ne _ _ _ hv3 (by decide))
  have hw2 := hm3.wr.grown h2 (ne _ _ _ hm3.wr (by decide))
  have hs2 : w0.grownBy W2 none := by
    cases hvb : v.ownBlock with
    | none => rw [hvb] at h2; exact only_trans hm3.step h2
    | some k => rw [hvb] at h2; exact only_new hm3.step h2 (hrow k hvb).1
  have hc2 := hc3.int hS h2 hrow
  have hg : W2.grownBy (W2.setCell ⟨ba, 0, none⟩ v') (some ba) := only_setCell (only_refl _ _) rfl _
  refine ⟨?_, ⟨only_new hs2 hg hm.ga, hm.gw, hm.ga, hw2.grown hg (fun e => Blk.ne_ hw2 hv2 (by decide) (by injection e)), v', hv2.set_ 0 _, h3.kept hg ?_⟩, hc2.at_ hS hg hv2 hm.ga (by decide) (by decide) (by decide) (by decide)⟩
  · refine (KeepsOthers.of_grownBy h1 (fun j o e _ => by cases e)).trans ((KeepsOthers.of_grownBy h2 (fun j o e ho => ?_)).trans (KeepsOthers.setCell _ _ _))
    obtain ⟨cs, fr, hk⟩ := (hrow j e).2
    rw [hk] at ho
    cases ho
    rfl
  · cases hb : v'.ownBlock with
    | none => simp
    | some k =>
      refine .inr (fun e => ?_)
      injection e with e
      subst e
      exact hv2.not_int (by decide) (own_int h3 hb).2
end Go.Proofs.YtohhojbeclbedaaGreatDoor

namespace Go.Proofs.YtohhojbeclbedaaGreatDoor
open Go.RowKit Go.Shelf
attribute [local go_sem] Oper.semAt_some

def hwX (w0 : World) (bw : Nat) (tot : Bool) (c : Code) (_ : List Ev) (W : World) : Prop := c = .exit 0 ∧ tot = true ∧ w0.grownBy W none ∧ Blk W bw 4 #[.bool true]
theorem hwX_own {w0 : World} {bw B : Nat} {tot : Bool} (hB : w0.heap.size ≤ B) (c : Code) : OwnFrom B (hwX w0 bw tot c) := fun _ _ _ row h hg hr => by
  obtain ⟨h1, h2, h3, h4⟩ := h
  refine ⟨h1, h2, ?_, h4.own hg (fun r e => (hr r e).2)⟩
  cases row with
  | none => exact only_trans h3 hg
  | some k => exact only_new h3 hg (Nat.le_trans hB (hr k rfl).1)
theorem sp_keeps {I : Its} {B : Nat} (X Y : World) (hs : I.Sp X Y) : KeepsFrom B X Y := by
  obtain ⟨hg, cs, hb⟩ := hs
  refine (KeepsOthers.of_grownBy hg fun j o e ho => ?_).from _
  injection e with e
  subst e
  unfold Blk at hb
  rw [hb] at ho
  cases ho
  rfl

theorem cell_off {W : World} {bw : Nat} {q : Bool} {p : Addr} {z : Int} (h : Blk W bw 4 #[.bool q]) (hp : W.cell? p = some (.int .i64 z)) : p.block ≠ bw := by
  rintro rfl
  unfold Blk at h
  obtain ⟨pb, po, pl⟩ := p
  unfold World.cell? at hp
  dsimp only at h hp
  rw [h] at hp
  cases po with
  | zero => simp at hp
  | succ n => simp at hp
/-- What stands as registers are looked through. -/
structure HwL (w0 : World) (I : Its) (s : Sg) (x : Ev) (b bw ba : Nat) (v : Value) (rs : List Int) (p : Addr) (z : Int) (q : Bool) (W wr : World) : Prop where
  m : HwM w0 bw ba q rs wr
  v_ : Blk wr ba 26 #[v]
  o : wr.ownsRow w0.heap.size 3 1 v rs.length (rs.map zV)
  c : HwC I s x b wr
  z_ : wr.cell? p = some (.int .i64 z)
  k : KeepsOthers W wr
  n : x.k = .N → Blk wr x.cb 3 #[.int .i64 (s.l.length : Int)]
section
variable {w0 W wr wr' : World} {I : Its} {s : Sg} {x : Ev} {b bw ba : Nat} {v : Value} {rs : List Int} {p : Addr} {z : Int} {q : Bool}
theorem HwL.none_ (h : HwL w0 I s x b bw ba v rs p z q W wr) (hg : wr.grownBy wr' none) : HwL w0 I s x b bw ba v rs p z q W wr' :=
  ⟨h.m.none_ hg, h.v_.kept hg, h.o.kept hg (by cases v.ownBlock <;> simp), h.c.none_ hg, cell_row h.z_ hg (fun e => by cases e), h.k.trans (KeepsOthers.of_grownBy hg (fun j o e _ => by cases e)), fun e => (h.n e).kept hg⟩
theorem HwL.set (h : HwL w0 I s x b bw ba v rs p z q W wr) (hS : ∀ b, I.S b → b < w0.heap.size) (q' : Bool) : HwL w0 I s x b bw ba v rs p z q' W (wr.setCell ⟨bw, 0, none⟩ (.bool q')) := by
  have hg : wr.grownBy (wr.setCell ⟨bw, 0, none⟩ (.bool q')) (some bw) := only_setCell (only_refl _ _) rfl _
  refine ⟨h.m.setW q', h.v_.grown hg (fun e => Blk.ne_ h.v_ h.m.wr (by decide) (by injection e)), h.o.kept hg ?_, h.c.at_ hS hg h.m.wr h.m.gw (by decide) (by decide) (by decide) (by decide), cell_row h.z_ hg (fun e => cell_off h.m.wr h.z_ (by injection e)), h.k.trans (KeepsOthers.setCell _ _ _), fun e => (h.n e).grown hg (fun e' => Blk.ne_ (h.n e) h.m.wr (by decide) (by injection e'))⟩
  cases hv : v.ownBlock with
  | none => simp
  | some k =>
    refine .inr (fun e => ?_)
    injection e with e
    subst e
    exact h.m.wr.not_int (by decide) (own_int h.o hv).2
/-- What the walk reads. -/
theorem HwL.reads (h : HwL w0 I s x b bw ba v rs p z q W wr) : wr.cell? ⟨bw, 0, none⟩ = some (.bool q) ∧ wr.frozen? ⟨bw, 0, none⟩ = false ∧ wr.cell? ⟨ba, 0, none⟩ = some v ∧ wr.cell? ⟨b, 0, none⟩ = some (.pointer x.w) ∧ wr.cell? ⟨b, 1, none⟩ = some (.pointer x.p) ∧ wr.cell? ⟨b, 2, none⟩ = some (.int .i64 x.kd.most) ∧ wr.cell? ⟨b, 3, none⟩ = some (.bool x.kd.reg) :=
  ⟨h.m.wr.cell 0, h.m.wr.frozen 0, h.v_.cell 0, h.c.o.cell 0, h.c.o.cell 1, h.c.o.cell 2, h.c.o.cell 3⟩
theorem HwL.at_ (h : HwL w0 I s x b bw ba v rs p z q W wr) {j : Nat} {r : Int} (hj : rs[j]? = some r) : ∃ g cap, v = .slice (some ⟨g, 0, none⟩) rs.length cap ∧ wr.cell? ⟨g, j, none⟩ = some (.int .i64 r) := by
  rcases h.o.2 with ⟨_, h0⟩ | ⟨g, cap, cur, hv, _⟩
  · have := (List.getElem?_eq_some_iff.1 hj).1
    omega
  · refine ⟨g, cap, hv, ?_⟩
    subst hv
    have hc := h.o.cells (g := g) rfl j (.int .i64 r) (by rw [List.getElem?_map, hj]; rfl)
    by_cases hj0 : j = 0
    · subst hj0; simpa [Addr.add] using hc
    · simpa [Addr.add, hj0] using hc
end
theorem blk_new_at {w : World} {g : Nat} (hg : g = w.heap.size) (t : TypeId) (cs : Array Value) : Blk (w.alloc (.cells cs t)) g t cs := hg ▸ Blk.new w t cs
theorem contains_of {rs : List Int} {z : Int} {j : Nat} (h : rs[j]? = some z) : rs.contains z = true := by
  rw [List.contains_iff_mem]
  exact List.mem_of_getElem? h
theorem contains_not {rs : List Int} {z : Int} (h : ∀ i, i < rs.length → rs[i]? ≠ some z) : rs.contains z = false := by
  cases hc : rs.contains z with
  | false => rfl
  | true =>
    obtain ⟨i, hi, he⟩ := List.getElem_of_mem (List.contains_iff_mem.1 hc)
    exact absurd (by rw [List.getElem?_eq_getElem hi, he]) (h i hi)
theorem wpIn_scope_w {n : Nat} {P : Program} {c : Code} {Q : Exit → Act → World → Prop} {a : Act} {w : World} (h : c.wpIn Fence.wide n P (Exit.noGoto Q) a w) : (Code.scope c).wpIn Fence.wide n P Q a w :=
  wpIn_wide.2 (wp_scope_straight (wpIn_wide.1 h))

set_option maxRecDepth 100000 in
set_option maxHeartbeats 4000000 in
theorem hasWrong_any (s : Sg) (op : Int) (w : World) (hl : IntsA (fun b => b < w.heap.size) w s.lv s.l) (hn : (fmOf (clI op)).most = s.l.length ∨ Fld.N ∈ hdF (clI op)) (h8 : s.l.length ≤ 8) (h20 : (hdF (clI op)).length ≤ 10) :
    Calls Tryz.prog 175 #[.agg (s.cells op)] w fun e w' => e = .returned (.bool (wrongF (fmOf (clI op)) (s.ins op) [] (hdF (clI op) ++ els s.l.length))) ∧ w.grownBy w' none := by
  generalize htot : wrongF (fmOf (clI op)) (s.ins op) [] (hdF (clI op) ++ els s.l.length) = tot
  refine (callsIn_wide (n := 3)).1 ?_
  refine callsIn_of_wp_marks Tryz.func175 rfl trivial ?_ rfl
  simp only [Tryz.ntmps175, List.size_toArray, List.length_cons, List.length_nil, Nat.reduceAdd, Nat.reduceSub, Array.replicate_succ, Array.replicate_zero, List.push_toArray, List.append_toArray, List.nil_append, List.cons_append]
  gi_wp2_with fail
  refine wpIn_scope_w ?_
  gi_wp2_with fail
  refine wpIn_label ?_
  gi_wp2_with (refine ⟨trivial, ?_⟩; gi_at_call 133; refine (callsIn_wide.2 (operands_any _ _)).mono ?_; rintro e w' ⟨rfl, rfl⟩)
  have hgr : w.grownBy ((((w.alloc (.cells (s.cells op) 52)).alloc (.cells #[.bool false] 4)).alloc (.cells #[.slice none 0 0] 26)).alloc (.cells #[.pointer (some ⟨w.heap.size, 0, none⟩)] 195)) none := only_alloc (only_alloc (only_alloc (only_alloc (only_refl _ _) _) _) _) _
  have hM : Mem (fun b => b < w.heap.size) (w.heap.size + 1 + 1 + 1) w.heap.size op s ((((w.alloc (.cells (s.cells op) 52)).alloc (.cells #[.bool false] 4)).alloc (.cells #[.slice none 0 0] 26)).alloc (.cells #[.pointer (some ⟨w.heap.size, 0, none⟩)] 195)) :=
    ⟨blk_new_at (by simp) _ _, (((Blk.new w _ _).alloc _).alloc _).alloc _, hl.row hgr (fun _ _ e => by cases e), by omega⟩
  have hH : HwM w (w.heap.size + 1) (w.heap.size + 1 + 1) false [] ((((w.alloc (.cells (s.cells op) 52)).alloc (.cells #[.bool false] 4)).alloc (.cells #[.slice none 0 0] 26)).alloc (.cells #[.pointer (some ⟨w.heap.size, 0, none⟩)] 195)) :=
    ⟨hgr, by omega, by omega, ((blk_new_at (by simp) _ _).alloc _).alloc _, .slice none 0 0, (blk_new_at (by simp) _ _).alloc _, World.ownsRow_nil _ _ _ _⟩
  have hsz : w.heap.size ≤ ((((w.alloc (.cells (s.cells op) 52)).alloc (.cells #[.bool false] 4)).alloc (.cells #[.slice none 0 0] 26)).alloc (.cells #[.pointer (some ⟨w.heap.size, 0, none⟩)] 195)).heap.size := hgr.size
  generalize ((((w.alloc (.cells (s.cells op) 52)).alloc (.cells #[.bool false] 4)).alloc (.cells #[.slice none 0 0] 26)).alloc (.cells #[.pointer (some ⟨w.heap.size, 0, none⟩)] 195)) = W0 at *
  have ok := hw_ok (w0 := w) (b0 := w.heap.size + 1 + 1 + 1) (xb := w.heap.size) (bw := w.heap.size + 1) (ba := w.heap.size + 1 + 1) (op := op) (s0 := s) (tot := tot) (B := W0.heap.size) (Nat.le_refl _) hsz
  have hT0 : (hwI w (w.heap.size + 1 + 1 + 1) w.heap.size op (w.heap.size + 1) (w.heap.size + 1 + 1) s tot).T [] W0 :=
    ⟨s, hM, rfl, rfl, fun h => hn.resolve_right h, [], htot.symm, hH, by show 0 + (hdF (clI op) ++ els s.l.length).length ≤ 20; rw [List.length_append]; simp [els]; omega⟩
  clear hgr hM hH hl
  refine wpIn_rangeFunc_handsB rfl (by omega) (gf := 176) (lb := #[.pointer (some ⟨w.heap.size + 1 + 1 + 1, 0, none⟩)]) rfl trivial (enters_of Tryz.func176 (by kernel_rfl) rfl)
    (operands_in (hwI w (w.heap.size + 1 + 1 + 1) w.heap.size op (w.heap.size + 1) (w.heap.size + 1 + 1) s tot) W0.heap.size ok) sp_keeps (fun _ => rfl) ok.ownT ok.ownEE ok.ownTm
    (fun _ _ => True) (hwX w (w.heap.size + 1) tot) (fun _ _ _ _ _ _ _ => trivial) (hwX_own hsz) (fun _ _ _ _ _ => trivial) trivial hT0 201 (fun x => #[.pointer x.w, .pointer x.p, .int .i64 x.kd.most, .bool x.kd.reg])
    (fun x b => { tmps := #[.agg (s.cells op), .pointer (some ⟨w.heap.size, 0, none⟩), .bool false, .pointer (some ⟨w.heap.size + 1, 0, none⟩), .pointer (some ⟨w.heap.size + 1 + 1, 0, none⟩), .pointer (some ⟨b, 0, none⟩), undef, undef, .func (.func 176) #[] #[.pointer (some ⟨w.heap.size + 1 + 1 + 1, 0, none⟩)], .agg #[.pointer x.w, .pointer x.p, .int .i64 x.kd.most, .bool x.kd.reg], undef, undef, undef, undef, undef, undef, undef, undef, undef, undef, undef, undef, undef, undef, undef, undef, undef, undef, undef, undef, undef, undef, undef, undef, undef, undef, undef, undef, undef, undef], defers := [] }) ?assign ?body ?done ?stop
  case assign =>
    intro l x W K hK
    gi_wp2
    exact hK
  case done =>
    rintro D xs W hD ⟨s', hM', hE⟩ _ hK
    obtain ⟨rfl, rs, ht, hm, _⟩ := hE
    rw [List.drop_of_length_le (by simp [els])] at ht
    have htf : tot = false := ht
    have c3 := hm.wr.cell 0
    have HS := Lib.hid hm.step
    have HT := Lib.hid htf
    clear hM' ht hm htf
    gi_wp2_with fail
    refine marks_ret (B := W0.heap.size) [D] _ (by simp) (by simp only [List.mem_singleton, forall_eq]; exact ⟨hD, hK⟩) fun W' hW' => ⟨_, results_tmp rfl _ _ _, by rw [HT.out]; rfl, hW'.grown HS.out hsz⟩
  case stop =>
    rintro D c pre W hD ⟨rfl, ht, hg, hb⟩ hK
    have c3 := hb.cell 0
    have HS := Lib.hid hg
    clear hg hb
    gi_wp2_with fail
    refine marks_ret (B := W0.heap.size) [D] _ (by simp) (by simp only [List.mem_singleton, forall_eq]; exact ⟨hD, hK⟩) fun W' hW' => ⟨_, results_tmp rfl _ _ _, by rw [ht]; rfl, hW'.grown HS.out hsz⟩
  case body =>
    rintro l pre x W b - hTm hb0 hbk
    have hS : ∀ j, (hwI w (w.heap.size + 1 + 1 + 1) w.heap.size op (w.heap.size + 1) (w.heap.size + 1 + 1) s tot).S j → j < w.heap.size := fun j hj => hj
    generalize w.heap.size + 1 + 1 + 1 = b0 at *
    generalize w.heap.size + 1 + 1 = ba at *
    generalize w.heap.size + 1 = bw at *
    by_cases hA : x.k = .A
    · obtain ⟨⟨a, hw⟩, hp, hkd, hM, hf, rs, hm, hnx⟩ := hw_A hTm hA
      have HC : HwC (hwI w b0 w.heap.size op bw ba s tot) s x b W := ⟨hM, hf, hbk⟩
      have HM := Lib.hid hm
      have HNX := Lib.hid hnx
      obtain ⟨k, ew, ep, kd, td, lv, cb, fb⟩ := x
      dsimp only at hw hp hkd
      subst hw hp
      obtain rfl : kd = ⟨0, false⟩ := hkd
      have o0 := hbk.cell 0
      have o1 := hbk.cell 1
      have o2 := hbk.cell 2
      have o3 := hbk.cell 3
      have hc3 := hm.wr.cell 0
      have HCx := Lib.hid HC
      clear HC hM hf hm hnx hTm hbk hA
      dsimp only at o0 o1 o2 o3 ⊢
      gi_wp2_with (refine ⟨trivial, ?_⟩; gi_at_call 199; refine (CallsIn.inRound l (callsIn_wide.2 (mayBe_whole a ⟨0, false⟩ _))).mono ?_; rintro e W1 ⟨rfl, hg1⟩; have c3 := (HM.out.none_ hg1).wr.cell 0; have f3 := (HM.out.none_ hg1).wr.frozen 0; have c3' := ((HM.out.none_ hg1).setW false).wr.cell 0; have HC1 := Lib.hid ((HCx.out.none_ hg1).at_ hS (only_setCell (only_refl W1 _) (p := ⟨bw, 0, none⟩) rfl (.bool false)) (HM.out.none_ hg1).wr HM.out.gw (by decide) (by decide) (by decide) (by decide)); have r3 := HC1.out.o.cell 3; dsimp only at r3; have HK := Lib.hid ((KeepsOthers.of_grownBy hg1 (fun j o e _ => by cases e)).trans (KeepsOthers.setCell W1 ⟨bw, 0, none⟩ (.bool false))); have HM1 := Lib.hid ((HM.out.none_ hg1).setW false); clear hg1)
      refine ⟨HK.out.from _, trivial, trivial, ?_⟩
      rw [Its.T_snoc]
      exact HNX.out _ HM1.out HC1.out.m HC1.out.f
    · have hA' : isA x.k = false := by
        revert hA
        cases x.k <;> simp [isA]
      obtain ⟨p, z, rest, rs, hN⟩ := hw_num h8 hTm hA'
      obtain ⟨v, hv, ho⟩ := hN.h.ah
      obtain ⟨A, cap, rfl⟩ := own_shape ho
      have HL : HwL w (hwI w b0 w.heap.size op bw ba s tot) s x b bw ba (.slice A rs.length cap) rs p z false W W := ⟨hN.h, hv, ho, ⟨hN.m, hN.f_, hbk⟩, hN.c, KeepsOthers.refl _, fun e => (hN.n e).2⟩
      have HT : Hid (tot = _) := hN.t
      have HNX := Lib.hid hN.next
      have HPB := Lib.hid hN.pb
      have HNR : Hid (x.k = .N → x.kd.reg = false) := fun e => (hN.n e).1
      have hle := hN.le
      have hw := hN.w
      have hp := hN.p_
      obtain ⟨k, ew, ep, ⟨km, kr⟩, td, lv, cb, fb⟩ := x
      dsimp only at hw hp HT HPB HNR
      subst hw hp
      clear hN hv ho hTm hbk hA hA'
      obtain ⟨c3, f3, ca, o0, o1, o2, o3⟩ := HL.reads
      have hz := HL.z_
      have HLx := Lib.hid HL
      clear HL
      dsimp only at o0 o1 o2 o3 ⊢
      by_cases hin : inK z ⟨km, kr⟩ = true
      · have HB := mayBe_num p ⟨km, kr⟩ z
        rw [hin] at HB
        gi_upto_region 6 with (refine ⟨trivial, ?_⟩; gi_at_call 199; refine (CallsIn.inRound l (callsIn_wide.2 (HB _ hz))).mono ?_; rintro e W1 ⟨rfl, hg1⟩; obtain ⟨c3a, f3a, _⟩ := (HLx.out.none_ hg1).reads; have H2 := Lib.hid ((HLx.out.none_ hg1).set hS false); clear hg1)
        generalize W1.setCell ⟨bw, 0, none⟩ (.bool false) = W2 at *
        clear HB c3 f3 ca o0 o1 o2 o3 hz c3a f3a
        obtain ⟨c3, f3, ca, o0, o1, o2, o3⟩ := H2.out.reads
        have hz := H2.out.z_
        dsimp only at o0 o1 o2 o3
        cases kr with
        | false =>
          have HT2 : Hid (tot = wrongF (fmOf (clI op)) (s.ins op) rs rest) := by
            have := HT.out
            rw [hin] at this
            exact this
          gi_wp2_with fail
          first | refine ⟨H2.out.k.from _, trivial, trivial, ?_⟩ | (refine ⟨H2.out.k.from _, trivial, ?_⟩; change Its.T _ _ _)
          rw [Its.T_snoc]
          exact HNX.out _ _ HT2.out H2.out.m (by omega) H2.out.c.m H2.out.c.f H2.out.n
        | true =>
          have HT2 : Hid (tot = (if rs.contains z then true else wrongF (fmOf (clI op)) (s.ins op) (rs ++ [z]) rest)) := by
            have := HT.out
            rw [hin] at this
            exact this
          have hrl : (rs.length : Int) ≤ 20 := by omega
          gi_wp2_with fail
          gi_loopw [20] (fun v wr => ∃ j : Nat, v = .int .i64 (j : Int) ∧ j ≤ rs.length ∧ (∀ i, i < j → rs[i]? ≠ some z) ∧ HwL w (hwI w b0 w.heap.size op bw ba s tot) s ⟨k, none, some p, ⟨km, true⟩, td, lv, cb, fb⟩ b bw ba (.slice A rs.length cap) rs p z false W wr) (fun v _ => rs.length - (intOf v).toNat)
          case atStart => exact ⟨0, rfl, by omega, fun i h => by omega, H2.out⟩
          case round =>
            obtain ⟨j, rfl, hj, hne, H3⟩ := hrel
            clear c3 f3 ca o0 o1 o2 o3 hz
            obtain ⟨c3, f3, ca, o0, o1, o2, o3⟩ := H3.reads
            have hz := H3.z_
            dsimp only at o0 o1 o2 o3
            by_cases hlt : j < rs.length
            · obtain ⟨g, cap', hv, hr⟩ := H3.at_ (List.getElem?_eq_getElem hlt)
              have hjr : rs[j]? = some rs[j] := List.getElem?_eq_getElem hlt
              injection hv with hA _ _
              subst hA
              generalize rs[j] = r at hr hjr
              have i0 : (0 : Int) ≤ (j : Int) := by omega
              have i1 : (j : Int) < (rs.length : Int) := by omega
              by_cases he : r = z
              · subst he
                have H4 := Lib.hid (H3.set hS true)
                have HTT : Hid (tot = true) := by
                  have := HT2.out
                  rw [contains_of hjr] at this
                  exact this
                have c3t := H4.out.reads.1
                clear H3 hjr hne
                gi_wp2_with fail
                exact ⟨H4.out.k.from _, rfl, HTT.out, H4.out.m.step, H4.out.m.wr⟩
              · have H4 := Lib.hid (H3.set hS false)
                have hne' : Hid (∀ i, i < j + 1 → rs[i]? ≠ some z) := fun i hi => by
                  by_cases e : i = j
                  · subst e; rw [hjr]; intro e2; injection e2 with e2; exact he e2
                  · exact hne i (by omega)
                have c3t := H4.out.reads.1
                clear H3 hjr hne
                gi_wp2_with fail
                go_roundw
                case rel => exact ⟨j + 1, by go_num, by omega, hne'.out, H4.out⟩
                case measure => simp [intOf]; omega
            · have i1 : (rs.length : Int) ≤ (j : Int) := by omega
              have hje : j = rs.length := by omega
              subst hje
              have HTF : Hid (tot = wrongF (fmOf (clI op)) (s.ins op) (rs ++ [z]) rest) := by
                have := HT2.out
                rw [contains_not hne] at this
                exact this
              have H4 := Lib.hid H3
              clear H3 hne H2
              have hpb : p.block < w.heap.size ∨ p.block = w.heap.size := (by first | exact HPB.out rfl | exact HPB.out trivial)
              gi_wp2_with fail
              refine region_chain (by kernel_rfl) (by kernel_rfl) (by kernel_rfl) [32, 33, 34, 35, 36, 37, 38] (by kernel_rfl) (by kernel_rfl) (by decide)
                [(4, .pointer (some ⟨ba, 0, none⟩)), (5, .pointer (some ⟨b, 0, none⟩)), (32, .slice A rs.length cap), (33, .pointer (some ⟨b, 1, none⟩)), (34, .pointer (some p)), (35, .pointer (some p)), (36, .int .i64 z)]
                ?h0 [5, 6, 7] (by kernel_rfl) (by kernel_rfl) (by decide) (by kernel_rfl) (HwS w.heap.size ba (.slice A rs.length cap) rs z wr) ?hT ?reads ?steps (only_drew (only_refl _ _)) ?hQ
              case h0 =>
                intro p' hp hn
                simp only [List.mem_cons, List.not_mem_nil, or_false] at hp
                rcases hp with rfl | rfl | rfl | rfl | rfl | rfl | rfl
                all_goals first | rfl | exact absurd (by dsimp only; decide) hn
              case hT =>
                intro j f g W' hj he
                match j, hj with
                | 0, hj => exact hj
                | 1, ⟨g', h1, h2⟩ => exact ⟨g', (he 0 5 _ 37 (by decide) rfl rfl rfl).symm.trans h1, h2⟩
                | 2, ⟨v', W3, h1, h2⟩ => exact ⟨v', W3, (he 1 6 _ 38 (by decide) rfl rfl rfl).symm.trans h1, h2⟩
                | _ + 3, hj => exact hj
              case reads =>
                intro i o ho hn
                have hrd : ∀ j f W', j < 3 → HwS w.heap.size ba (.slice A rs.length cap) rs z wr j f W' → Blk W' ba 26 #[.slice A rs.length cap] ∧ Blk W' b 201 #[.pointer none, .pointer (some p), .int .i64 km, .bool true] ∧ W'.cell? p = some (.int .i64 z) := by
                  intro j f W' hj hT'
                  have plain : ∀ {W'}, wr.grownBy W' none → Blk W' ba 26 #[.slice A rs.length cap] ∧ Blk W' b 201 #[.pointer none, .pointer (some p), .int .i64 km, .bool true] ∧ W'.cell? p = some (.int .i64 z) := fun hg => ⟨H4.out.v_.kept hg, H4.out.c.o.kept hg, cell_row H4.out.z_ hg (fun e => by cases e)⟩
                  match j, hj, hT' with
                  | 0, _, hT' => exact plain hT'
                  | 1, _, ⟨_, _, _, hg⟩ => exact plain hg
                  | 2, _, ⟨_, W3, _, hg, hg5, _⟩ =>
                    have ho3 : W3.ownsRow w.heap.size 3 1 (.slice A rs.length cap) rs.length (rs.map zV) := H4.out.o.kept hg (by cases (Value.slice A rs.length cap).ownBlock <;> simp)
                    have hmx := (H4.out.none_ hg).c.m.x
                    obtain ⟨k1, k2, k3⟩ := plain hg
                    have ne : ∀ k t cs, Blk W3 k t cs → t ≠ 3 → some k ≠ (Value.slice A rs.length cap).ownBlock := fun k t cs hb ht e => hb.not_int ht (own_int ho3 e.symm).2
                    refine ⟨k1.grown hg5 (ne _ _ _ k1 (by decide)), k2.grown hg5 (ne _ _ _ k2 (by decide)), cell_row k3 hg5 (fun e => ?_)⟩
                    rcases hpb with h | h
                    · have := (own_int ho3 e.symm).1
                      omega
                    · rw [h] at e
                      exact ne _ _ _ hmx (by decide) e
                have h9 : i = 0 ∨ i = 1 ∨ i = 2 ∨ i = 3 ∨ i = 4 := by
                  have h1 := (Array.getElem?_eq_some_iff.1 ho).1
                  simp only [List.size_toArray, List.length_cons, List.length_nil] at h1
                  simp only [List.mem_cons, List.not_mem_nil, or_false] at hn
                  omega
                rcases h9 with rfl | rfl | rfl | rfl | rfl
                · cases ho
                  exact ⟨32, _, rfl, rfl, fun j f d W' hj hT' henv => ia_ints rfl (henv 4 _ (by simp [Op.operands]) rfl) ((hrd j f W' hj hT').1.cell 0)⟩
                · cases ho
                  exact ⟨33, _, rfl, rfl, fun j f d W' hj hT' henv => ia_at rfl (henv 5 _ (by simp [Op.operands]) rfl)⟩
                · cases ho
                  exact ⟨34, _, rfl, rfl, fun j f d W' hj hT' henv => ia_ptr rfl (henv 33 _ (by simp [Op.operands]) rfl) ((hrd j f W' hj hT').2.1.cell 1)⟩
                · cases ho
                  exact ⟨35, _, rfl, rfl, fun j f d W' hj hT' henv => ia_nil rfl (henv 34 _ (by simp [Op.operands]) rfl)⟩
                · cases ho
                  exact ⟨36, _, rfl, rfl, fun j f d W' hj hT' henv => ia_int rfl (henv 35 _ (by simp [Op.operands]) rfl) (hrd j f W' hj hT').2.2⟩
              case steps =>
                intro j i o hj ho
                have h4 : j = 0 ∨ j = 1 ∨ j = 2 := by
                  have := (List.getElem?_eq_some_iff.1 hj).1
                  simp only [List.length_cons, List.length_nil] at this
                  omega
                rcases h4 with rfl | rfl | rfl
                · cases hj
                  cases ho
                  refine ⟨fun t e => by cases e; rfl, fun d W' hb hT1 henv => ?_⟩
                  have hg : wr.grownBy W' none := hT1
                  exact ia_build rfl (henv 36 _ (by simp [Op.operands]) rfl) ⟨_, rfl, W'.heap.size, ia_put _ (by rw [hb]; show _ < 40; decide), Blk.new W' _ _, only_alloc hg _⟩
                · cases hj
                  cases ho
                  refine ⟨fun t e => by cases e; rfl, fun d W' hb hT1 henv => ?_⟩
                  obtain ⟨g, h1, h2, hg⟩ := hT1
                  refine ia_append (.tmp 32) (.tmp 37) rfl (henv 32 _ (by simp [Op.operands, Call.operands]) rfl) h1 (H4.out.o.kept hg (by cases (Value.slice A rs.length cap).ownBlock <;> simp)) h2 (by omega) (Nat.le_trans H4.out.m.step.size hg.size) (fun v' W5 ho5 hg5 => ⟨_, rfl, v', W', ia_put _ (by rw [hb]; show _ < 40; decide), hg, hg5, ho5⟩)
                · cases hj
                  cases ho
                  refine ⟨fun t e => (by cases e), fun d W' hb hT2 henv => ?_⟩
                  obtain ⟨v', W3, h1, hg, hg5, ho5⟩ := hT2
                  obtain ⟨A5, c5, rfl⟩ := own_shape ho5
                  have ho3 : W3.ownsRow w.heap.size 3 1 (.slice A rs.length cap) rs.length (rs.map zV) := H4.out.o.kept hg (by cases (Value.slice A rs.length cap).ownBlock <;> simp)
                  have hv3 := H4.out.v_.kept hg
                  have hv5 := hv3.grown hg5 (fun e => hv3.not_int (by decide) (own_int ho3 e.symm).2)
                  exact ia_store rfl (henv 4 _ (by simp [Op.operands]) rfl) h1 hv5 rfl ⟨undef, rfl, _, W3, W', hg, hg5, ho5, rfl⟩
              case hQ =>
                intro vs W' hv hT3
                obtain ⟨q1, q2, q3⟩ := HwS.end_ hT3 H4.out.m H4.out.v_ H4.out.o H4.out.c hS
                refine ⟨(H4.out.k.trans q1).from _, trivial, trivial, ?_⟩
                rw [Its.T_snoc]
                exact HNX.out _ _ HTF.out q2 (by simp) q3.m q3.f (fun e => by subst e; exact absurd (HNR.out (by first | rfl | trivial)) (by simp))
      · have hin' : inK z ⟨km, kr⟩ = false := by simpa using hin
        have HB := mayBe_num p ⟨km, kr⟩ z
        rw [hin'] at HB
        have HTT : Hid (tot = true) := by
          have := HT.out
          rw [hin'] at this
          exact this
        gi_upto_region 6 with (refine ⟨trivial, ?_⟩; gi_at_call 199; refine (CallsIn.inRound l (callsIn_wide.2 (HB _ hz))).mono ?_; rintro e W1 ⟨rfl, hg1⟩; obtain ⟨c3a, f3a, _⟩ := (HLx.out.none_ hg1).reads; have H2 := Lib.hid ((HLx.out.none_ hg1).set hS true); clear hg1)
        generalize W1.setCell ⟨bw, 0, none⟩ (.bool true) = W2 at *
        clear HB c3 f3 ca o0 o1 o2 o3 hz c3a f3a
        have c3 := H2.out.reads.1
        gi_wp2_with fail
        exact ⟨H2.out.k.from _, rfl, HTT.out, H2.out.m.step, H2.out.m.wr⟩
end Go.Proofs.YtohhojbeclbedaaGreatDoor

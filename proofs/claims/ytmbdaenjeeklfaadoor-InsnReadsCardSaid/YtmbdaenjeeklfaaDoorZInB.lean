/- Texts joined for the claim's sake: SOwn, IMem. -/
import Derived.Test.YtmbdaenjeeklfaaDoorZIbB
import Derived.Test.YtmbdaenjeeklfaaDoorZIbG
import Derived.Test.YtmbdaenjeeklfaaDoorZInA
/- What stays of a state where blocks that hold no cells are turned (SecI has the same, for seats that hold sect). -/
namespace Go.Proofs.YtmbdaenjeeklfaaDoor
open Go.RowKit

/-! ### What stays of a state -/
theorem Blk.own {W W' : World} {row : Option Nat} {k : Nat} {t : TypeId} {cs : Array Value} (h : Blk W k t cs) (hg : W.grownBy W' row) (hr : ∀ r, row = some r → ∃ o : Obj, W.heap[r]? = some o ∧ o.isCells = false) : Blk W' k t cs := by
  refine h.grown hg (fun e => ?_)
  obtain ⟨o, ho, hc⟩ := hr k e.symm
  unfold Blk at h
  rw [h] at ho
  cases ho
  cases hc
theorem Rdr.own {W W' : World} {row : Option Nat} {g a bg : Nat} {bs : List UInt8} (h : Rdr W g bs a bg) (hg : W.grownBy W' row) (hr : ∀ r, row = some r → ∃ o : Obj, W.heap[r]? = some o ∧ o.isCells = false) : Rdr W' g bs a bg := by
  obtain ⟨bb, off, cap, h1, h2, h3⟩ := h
  refine ⟨bb, off, cap, h1.own hg hr, h2.grown hg (fun e => ?_), h3⟩
  obtain ⟨cs, fr, h4, _⟩ := h2
  obtain ⟨o, ho, hc⟩ := hr bb e.symm
  rw [h4] at ho
  cases ho
  cases hc
theorem St.own {w0 W W' : World} {rs : List RD} {fs : List FD} {row : Option Nat} (h : St w0 W rs fs) (hg : W.grownBy W' row) (hr : ∀ r, row = some r → w0.heap.size ≤ r ∧ ∃ o : Obj, W.heap[r]? = some o ∧ o.isCells = false) : St w0 W' rs fs := by
  have hr2 := fun r e => (hr r e).2
  refine ⟨h.err.kept hg (fun r e => ?_), h.err0, ?_, fun r hm => ⟨(h.rdr r hm).1, (h.rdr r hm).2.own hg hr2⟩, h.apart, fun f hf => (h.flt f hf).own hg hr2⟩
  · have := h.err0
    have := (hr r e).1
    omega
  · exact only_of_below ((below_of_only h.step).grown hg h.step.size (fun k e => (hr k e).1)) none
/-- Another block is turned: one of those laid since, that is neither bytes, nor a reader, nor a fault. -/
theorem St.turn {w0 W W' : World} {rs : List RD} {fs : List FD} {k : Nat} {t : TypeId} {cs : Array Value} (h : St w0 W rs fs) (hg : W.grownBy W' (some k)) (hk : w0.heap.size ≤ k) (hb : Blk W k t cs) (h1 : t ≠ 5) (h2 : t ≠ 87) (h3 : t ≠ 48) : St w0 W' rs fs := by
  refine ⟨h.err.kept hg (fun r e => ?_), h.err0, only_new h.step hg hk, fun r hm => ⟨(h.rdr r hm).1, ?_⟩, h.apart, fun f hf => ?_⟩
  · injection e with e
    have := h.err0
    omega
  · obtain ⟨cs', hb'⟩ := (h.rdr r hm).2.blk
    refine (h.rdr r hm).2.grown hg (fun e => Blk.ne_ hb' hb (Ne.symm h2) (by injection e)) (fun j e => ?_)
    injection e with e
    subst e
    exact ⟨_, _, hb, h1⟩
  · exact Blk.grown (h.flt f hf) hg (fun e => Blk.ne_ (h.flt f hf) hb (Ne.symm h3) (by injection e))
end Go.Proofs.YtmbdaenjeeklfaaDoor

/- insn: an instruction in memory; what the function that tells operands owes, and what its caller's rounds owe. -/
namespace Go.Proofs.YtmbdaenjeeklfaaDoor
open Go.RowKit

/-- A slice that reads as a list of numbers; the block of its row is one of S. -/
def IntsA (S : Nat → Prop) (W : World) (v : Value) (zs : List Int) : Prop := ∃ (A : Option Addr) (c : Nat), v = .slice A zs.length c ∧ (zs ≠ [] → ∃ b off, A = some ⟨b, off, none⟩ ∧ S b ∧ ∀ (i : Nat) (z : Int), zs[i]? = some z → W.cell? ⟨b, off + i, none⟩ = some (.int .i64 z))
structure Sg where
  a : Int
  b : Int
  c : Int
  d : Int
  lv : Value
  l : List Int
def Sg.ins (s : Sg) (op : Int) : Ins := ⟨op, s.a, s.b, s.c, s.d, s.l⟩
def Sg.cells (s : Sg) (op : Int) : Array Value := #[.int .i64 op, .int .i64 s.a, .int .i64 s.b, .int .i64 s.c, .int .i64 s.d, s.lv]
structure Mem (S : Nat → Prop) (b0 xb : Nat) (op : Int) (s : Sg) (W : World) : Prop where
  p : Blk W b0 70 #[.pointer (some ⟨xb, 0, none⟩)]
  x : Blk W xb 24 (s.cells op)
  l : IntsA S W s.lv s.l
  le : s.l.length ≤ 12

theorem cell_row {W W' : World} {p : Addr} {v : Value} {row : Option Nat} (h : W.cell? p = some v) (hg : W.grownBy W' row) (hr : some p.block ≠ row) : W'.cell? p = some v := by
  have hlt : p.block < W.heap.size := by
    rcases Nat.lt_or_ge p.block W.heap.size with hl | hl
    · exact hl
    · unfold World.cell? at h
      rw [Array.getElem?_eq_none hl] at h
      simp at h
  rw [World.cell?_of_block (hg.block _ hlt hr)]
  exact h
theorem cell_own {W W' : World} {p : Addr} {v : Value} {row : Option Nat} (h : W.cell? p = some v) (hg : W.grownBy W' row) (hr : ∀ r, row = some r → ∃ o : Obj, W.heap[r]? = some o ∧ o.isCells = false) : W'.cell? p = some v := by
  refine cell_row h hg (fun e => ?_)
  obtain ⟨o, ho, hc⟩ := hr _ e.symm
  unfold World.cell? at h
  rw [ho] at h
  cases o <;> simp_all [Obj.isCells]
theorem IntsA.row {S : Nat → Prop} {W W' : World} {v : Value} {zs : List Int} {row : Option Nat} (h : IntsA S W v zs) (hg : W.grownBy W' row) (hr : ∀ b, S b → some b ≠ row) : IntsA S W' v zs := by
  obtain ⟨A, c, h1, h2⟩ := h
  refine ⟨A, c, h1, fun hn => ?_⟩
  obtain ⟨b, off, h3, h4, h5⟩ := h2 hn
  exact ⟨b, off, h3, h4, fun i z hz => cell_row (h5 i z hz) hg (hr b h4)⟩
theorem IntsA.own {S : Nat → Prop} {W W' : World} {v : Value} {zs : List Int} {row : Option Nat} (h : IntsA S W v zs) (hg : W.grownBy W' row) (hr : ∀ r, row = some r → ∃ o : Obj, W.heap[r]? = some o ∧ o.isCells = false) : IntsA S W' v zs := by
  obtain ⟨A, c, h1, h2⟩ := h
  refine ⟨A, c, h1, fun hn => ?_⟩
  obtain ⟨b, off, h3, h4, h5⟩ := h2 hn
  exact ⟨b, off, h3, h4, fun i z hz => cell_own (h5 i z hz) hg hr⟩
section
variable {S : Nat → Prop} {b0 xb : Nat} {op : Int} {s : Sg} {W W' : World}
theorem Mem.none_ (h : Mem S b0 xb op s W) (hg : W.grownBy W' none) : Mem S b0 xb op s W' := ⟨h.p.kept hg, h.x.kept hg, h.l.row hg (fun _ _ e => by cases e), h.le⟩
theorem Mem.row {row : Option Nat} (h : Mem S b0 xb op s W) (hg : W.grownBy W' row) (h1 : some b0 ≠ row) (h2 : some xb ≠ row) (h3 : ∀ b, S b → some b ≠ row) : Mem S b0 xb op s W' := ⟨h.p.grown hg h1, h.x.grown hg h2, h.l.row hg h3, h.le⟩
theorem Mem.own {row : Option Nat} (h : Mem S b0 xb op s W) (hg : W.grownBy W' row) (hr : ∀ r, row = some r → ∃ o : Obj, W.heap[r]? = some o ∧ o.isCells = false) : Mem S b0 xb op s W' := ⟨h.p.own hg hr, h.x.own hg hr, h.l.own hg hr, h.le⟩
end

/-! ### OPERANDS, ONE BY ONE -/
/-- One that is handed over: which it is, its two pointers, its kind; what stands behind it; the list's slice; the box that counts; the form's box. -/
structure Ev where
  k : Fld
  w : Option Addr
  p : Option Addr
  kd : Kd
  td : List Fld
  lv : Value
  cb : Nat
  fb : Nat
abbrev evA (x : Ev) : Array Value := #[.agg #[.pointer x.w, .pointer x.p, .int .i64 x.kd.most, .bool x.kd.reg]]
/-- A range over operands: the pointer's box, the instruction's block, its op, form, head, slice; whose blocks the list may lie in; what the caller keeps as the head comes, and the list. -/
structure Its where
  b0 : Nat
  xb : Nat
  op : Int
  f : Fm
  td0 : List Fld
  lv0 : Value
  S : Nat → Prop
  RH : List Fld → Nat → Sg → World → Prop
  RE : Nat → Sg → World → Prop
def Its.M (I : Its) (s : Sg) (W : World) : Prop := Mem I.S I.b0 I.xb I.op s W
def Its.Sp (I : Its) (X Y : World) : Prop := X.grownBy Y (some I.xb) ∧ ∃ cs, Blk X I.xb 24 cs
/-- What a round that goes on leaves. -/
def Its.after (I : Its) (x : Ev) (W : World) : Prop := Blk W x.fb 82 (fmC I.f) ∧ ∃ s, I.M s W ∧ s.lv = x.lv ∧ match x.k with
  | .N => ∃ n : Nat, n ≤ 8 ∧ Blk W x.cb 3 #[.int .i64 (n : Int)] ∧ I.RH [] n s W
  | .E i => I.RE (i + 1) s W
  | _ => I.RH x.td I.f.most s W
def Its.T (I : Its) (pre : List Ev) (W : World) : Prop := match pre.getLast? with
  | none => ∃ s, I.M s W ∧ s.lv = I.lv0 ∧ I.RH I.td0 I.f.most s W
  | some x => I.after x W
/-- What holds as one is handed over. -/
def Its.Tm (I : Its) (_ : List Ev) (x : Ev) (W : World) : Prop := Blk W x.fb 82 (fmC I.f) ∧ ∃ s, I.M s W ∧ s.lv = x.lv ∧ match x.k with
  | .A => x.w = some ⟨I.xb, 1, none⟩ ∧ x.p = none ∧ x.kd = k0 ∧ I.RH (.A :: x.td) I.f.most s W
  | .B => x.w = none ∧ x.p = some ⟨I.xb, 2, none⟩ ∧ x.kd = I.f.b ∧ I.RH (.B :: x.td) I.f.most s W
  | .C => x.w = none ∧ x.p = some ⟨I.xb, 3, none⟩ ∧ x.kd = I.f.c ∧ I.RH (.C :: x.td) I.f.most s W
  | .D => x.w = none ∧ x.p = some ⟨I.xb, 4, none⟩ ∧ x.kd = I.f.d ∧ I.RH (.D :: x.td) I.f.most s W
  | .N => x.w = none ∧ x.p = some ⟨x.cb, 0, none⟩ ∧ x.kd = ⟨I.f.most, false⟩ ∧ I.b0 < x.cb ∧ Blk W x.cb 3 #[.int .i64 (s.l.length : Int)] ∧ I.RH [.N] I.f.most s W
  | .E i => i < s.l.length ∧ x.w = none ∧ (∃ b off c, s.lv = .slice (some ⟨b, off, none⟩) s.l.length c ∧ x.p = some ⟨b, off + i, none⟩) ∧ x.kd = I.f.each ∧ I.RE i s W
def Its.E (I : Its) (_ : List Ev) (W : World) : Prop := ∃ s, I.M s W ∧ I.RE s.l.length s W
theorem Its.T_snoc (I : Its) (pre : List Ev) (x : Ev) (W : World) : I.T (pre ++ [x]) W = I.after x W := by
  unfold Its.T
  rw [List.getLast?_append]
  rfl

/-- What the caller's parts owe. -/
structure Its.Ok (I : Its) (B : Nat) : Prop where
  f_ : I.f = fmOf (clI I.op)
  td_ : I.td0 = hdF (clI I.op)
  ne : ∀ b, I.S b → b ≠ I.xb
  spH : ∀ td n s X Y, I.Sp X Y → I.RH td n s X → I.RH td n s Y
  spE : ∀ i s X Y, I.Sp X Y → I.RE i s X → I.RE i s Y
  ownH : OwnFrom B (fun (t : List Fld × Nat × Sg) W => I.RH t.1 t.2.1 t.2.2 W)
  ownE : OwnFrom B (fun (t : Nat × Sg) W => I.RE t.1 t.2 W)
  same : ∀ s X, I.M s X → I.RH [] s.l.length s X → I.RE 0 s X
  made : ∀ (n : Nat) s X Y lb, I.M s X → n ≤ 8 → n ≠ s.l.length → I.RH [] n s X → I.Sp X Y → X.heap.size ≤ lb → Blk Y lb 3 (Array.replicate n (.int .i64 0)) →
    I.S lb ∧ I.RE 0 { s with lv := .slice (some ⟨lb, 0, none⟩) n n, l := List.replicate n 0 } Y
section
variable {I : Its} {B : Nat}
theorem Its.Ok.ownT (h : I.Ok B) : OwnFrom B I.T := fun pre W W' row hT hg hr => by
  have hr2 := fun r e => (hr r e).2
  unfold Its.T at hT ⊢
  generalize pre.getLast? = q at hT ⊢
  cases q with
  | none =>
    obtain ⟨s, h1, h2, h3⟩ := hT
    exact ⟨s, h1.own hg hr2, h2, h.ownH (I.td0, I.f.most, s) _ _ _ h3 hg hr⟩
  | some x =>
    obtain ⟨hb, s, h1, h2, h3⟩ := hT
    refine ⟨hb.own hg hr2, s, h1.own hg hr2, h2, ?_⟩
    obtain ⟨k, w, p, kd, td, lv, cb, fb⟩ := x
    cases k with
    | N =>
      obtain ⟨n, k1, k2, k3⟩ := h3
      exact ⟨n, k1, k2.own hg hr2, h.ownH ([], n, s) _ _ _ k3 hg hr⟩
    | E i => exact h.ownE (i + 1, s) _ _ _ h3 hg hr
    | A => exact h.ownH (td, I.f.most, s) _ _ _ h3 hg hr
    | B => exact h.ownH (td, I.f.most, s) _ _ _ h3 hg hr
    | C => exact h.ownH (td, I.f.most, s) _ _ _ h3 hg hr
    | D => exact h.ownH (td, I.f.most, s) _ _ _ h3 hg hr
theorem Its.Ok.ownTm (h : I.Ok B) (x : Ev) : OwnFrom B (fun pre W => I.Tm pre x W) := fun pre W W' row hT hg hr => by
  have hr2 := fun r e => (hr r e).2
  obtain ⟨hb, s, h1, h2, h3⟩ := hT
  refine ⟨hb.own hg hr2, s, h1.own hg hr2, h2, ?_⟩
  obtain ⟨k, w, p, kd, td, lv, cb, fb⟩ := x
  cases k with
  | A => exact ⟨h3.1, h3.2.1, h3.2.2.1, h.ownH (.A :: td, I.f.most, s) _ _ _ h3.2.2.2 hg hr⟩
  | B => exact ⟨h3.1, h3.2.1, h3.2.2.1, h.ownH (.B :: td, I.f.most, s) _ _ _ h3.2.2.2 hg hr⟩
  | C => exact ⟨h3.1, h3.2.1, h3.2.2.1, h.ownH (.C :: td, I.f.most, s) _ _ _ h3.2.2.2 hg hr⟩
  | D => exact ⟨h3.1, h3.2.1, h3.2.2.1, h.ownH (.D :: td, I.f.most, s) _ _ _ h3.2.2.2 hg hr⟩
  | N => exact ⟨h3.1, h3.2.1, h3.2.2.1, h3.2.2.2.1, h3.2.2.2.2.1.own hg hr2, h.ownH ([.N], I.f.most, s) _ _ _ h3.2.2.2.2.2 hg hr⟩
  | E i => exact ⟨h3.1, h3.2.1, h3.2.2.1, h3.2.2.2.1, h.ownE (i, s) _ _ _ h3.2.2.2.2 hg hr⟩
theorem Its.Ok.ownEE (h : I.Ok B) : OwnFrom B I.E := fun pre W W' row hT hg hr => by
  have hr2 := fun r e => (hr r e).2
  obtain ⟨s, h1, h2⟩ := hT
  exact ⟨s, h1.own hg hr2, h.ownE (s.l.length, s) _ _ _ h2 hg hr⟩
end
end Go.Proofs.YtmbdaenjeeklfaaDoor

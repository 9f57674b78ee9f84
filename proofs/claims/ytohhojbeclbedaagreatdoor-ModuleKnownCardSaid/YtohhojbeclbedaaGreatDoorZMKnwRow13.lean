/- Texts joined for the claim's sake: IFmt, RngW, SOwn, IMem, ITel, SecJ, SecD. -/
import Derived.Test.YtohhojbeclbedaaGreatDoorZMKnwRow6
import Derived.Test.YtohhojbeclbedaaGreatDoorZMKnwRow7
import Derived.Test.YtohhojbeclbedaaGreatDoorZMKnwRow8
import Derived.Test.YtohhojbeclbedaaGreatDoorZMKnwRow11
import Derived.RangeFuncNested
import Derived.RangeFuncWrites
import Derived.RangeFuncBound
import Derived.RangeFuncCalls
import Derived.RangeFuncLeaves
import Derived.Test.YtohhojbeclbedaaGreatDoorZMKnwRow4
import Derived.Test.YtohhojbeclbedaaGreatDoorZMKnwRow0
import Derived.Laws.MakeOwn
import Derived.RangeFuncBox
import Derived.Shelf.Abstract
import Derived.Shelf.RegionOpen
import Derived.WalkKit
import Derived.OwnWalkIn
import Derived.TacticsInMore
import Derived.LoopNIn
import Derived.LoopIn
import Derived.Sort.BigQuietIn
import Derived.Sort.CutIn
import Derived.Test.YtohhojbeclbedaaGreatDoorZMKnwRow12
namespace Go.Proofs.YtohhojbeclbedaaGreatDoor
open Go.RowKit

theorem formOf_any (op : Int) (w : World) : Calls Tryz.prog 173 #[.int .i64 op] w (FormIs (clI op) w) := by
  have h : op < 0 ∨ 24 < op ∨ op = 0 ∨ op = 1 ∨ op = 2 ∨ op = 3 ∨ op = 4 ∨ op = 5 ∨ op = 6 ∨ op = 7 ∨ op = 8 ∨ op = 9 ∨ op = 10 ∨ op = 11 ∨ op = 12 ∨ op = 13 ∨ op = 14 ∨ op = 15 ∨ op = 16 ∨ op = 17 ∨ op = 18 ∨ op = 19 ∨ op = 20 ∨ op = 21 ∨ op = 22 ∨ op = 23 ∨ op = 24 := by omega
  rcases h with h | h | rfl | rfl | rfl | rfl | rfl | rfl | rfl | rfl | rfl | rfl | rfl | rfl | rfl | rfl | rfl | rfl | rfl | rfl | rfl | rfl | rfl | rfl | rfl | rfl | rfl
  · have e : clI op = .no := by unfold clI; rw [if_pos h]
    rw [e]; exact form_neg op h w
  · have e : clI op = .no := by
      unfold clI
      rw [if_neg (by omega)]
      obtain ⟨m, hm⟩ : ∃ m, op.toNat = m + 25 := ⟨op.toNat - 25, by omega⟩
      rw [hm, clN]
    rw [e]; exact form_above op h w
  · exact form_0 w
  · exact form_1 w
  · exact form_2 w
  · exact form_3 w
  · exact form_4 w
  · exact form_5 w
  · exact form_6 w
  · exact form_7 w
  · exact form_8 w
  · exact form_9 w
  · exact form_10 w
  · exact form_11 w
  · exact form_12 w
  · exact form_13 w
  · exact form_14 w
  · exact form_15 w
  · exact form_16 w
  · exact form_17 w
  · exact form_18 w
  · exact form_19 w
  · exact form_20 w
  · exact form_21 w
  · exact form_22 w
  · exact form_23 w
  · exact form_24 w
end Go.Proofs.YtohhojbeclbedaaGreatDoor

namespace Go.Proofs.YtohhojbeclbedaaGreatDoor
open Go.RowKit

variable {F : Fence} {n : Nat} {P : Program}

/-- What the function owes: Sp, its own steps; T, what it keeps between two rounds; Tm, what holds as it hands x over; S, what has come when it ends by itself. -/
def HandsW {α : Type} (F : Fence) (n : Nat) (P : Program) (gf : Nat) (lb : Array Value) (encs : α → Array Value) (Sp : World → World → Prop) (T : List α → World → Prop) (Tm : List α → α → World → Prop) (S : List α → World → Prop) : Prop :=
  ∀ (l : Nat) (J Jx : List α → World → Prop) (W : World), (∀ s X Y, J s X → Sp X Y → J s Y) →
    (∀ pre x X, J pre X → Tm pre x X → YieldAt F (n - 1) P l (encs x) X fun e Y => (e = .returned (.bool true) ∧ J (pre ++ [x]) Y ∧ T (pre ++ [x]) Y) ∨ (e = .returned (.bool false) ∧ Jx (pre ++ [x]) Y)) →
    J [] W → T [] W →
    CallsIn F n P gf (#[.func (.yield l) #[] #[]] ++ lb) W fun e Y => (∃ v, e = .returned v) ∧ ((∃ xs, S xs Y ∧ J xs Y) ∨ (∃ xs, Jx xs Y))

end Go.Proofs.YtohhojbeclbedaaGreatDoor

namespace Go.Proofs.YtohhojbeclbedaaGreatDoor
open Go.RowKit

/-! ### What stays of a state -/
theorem Blk.own {W W' : World} {row : Option Nat} {k : Nat} {t : TypeId} {cs : Array Value} (h : Blk W k t cs) (hg : W.grownBy W' row) (hr : ∀ r, row = some r → ∃ o : Obj, W.heap[r]? = some o ∧ o.isCells = false) : Blk W' k t cs := by
  refine h.grown hg (fun e => ?_)
  obtain ⟨o, ho, hc⟩ := hr k e.symm
  unfold Blk at h
  rw [h] at ho
  cases ho
  cases hc
theorem Rdr.own {W W' : World} {row : Option Nat} {g a bg : Nat} {bs : List UInt8} (h : Rdr W g bs a bg) (hg : W.grownBy W' row) (hr : ∀ r, row = some r → ∃ o : Obj, W.heap[r]? = some o ∧ o.isCells = false) : Rdr W' g bs a bg := by
  obtain ⟨bb, off, cap, h1, h2, h3⟩ := h
  refine ⟨bb, off, cap, h1.own hg hr, h2.grown hg (fun e => ?_), h3⟩
  obtain ⟨cs, fr, h4, _⟩ := h2
  obtain ⟨o, ho, hc⟩ := hr bb e.symm
  rw [h4] at ho
  cases ho
  cases hc
theorem St.own {w0 W W' : World} {rs : List RD} {fs : List FD} {row : Option Nat} (h : St w0 W rs fs) (hg : W.grownBy W' row) (hr : ∀ r, row = some r → w0.heap.size ≤ r ∧ ∃ o : Obj, W.heap[r]? = some o ∧ o.isCells = false) : St w0 W' rs fs := by
  have hr2 := fun r e => (hr r e).2
  refine ⟨h.err.kept hg (fun r e => ?_), h.err0, ?_, fun r hm => ⟨(h.rdr r hm).1, (h.rdr r hm).2.own hg hr2⟩, h.apart, fun f hf => (h.flt f hf).own hg hr2⟩
  · have := h.err0
    have := (hr r e).1
    omega
  · exact only_of_below ((below_of_only h.step).grown hg h.step.size (fun k e => (hr k e).1)) none
/-- Another block is turned: one of those laid since, that is neither bytes, nor a reader, nor a fault. -/
theorem St.turn {w0 W W' : World} {rs : List RD} {fs : List FD} {k : Nat} {t : TypeId} {cs : Array Value} (h : St w0 W rs fs) (hg : W.grownBy W' (some k)) (hk : w0.heap.size ≤ k) (hb : Blk W k t cs) (h1 : t ≠ 5) (h2 : t ≠ 111) (h3 : t ≠ 89) : St w0 W' rs fs := by
  refine ⟨h.err.kept hg (fun r e => ?_), h.err0, only_new h.step hg hk, fun r hm => ⟨(h.rdr r hm).1, ?_⟩, h.apart, fun f hf => ?_⟩
  · injection e with e
    have := h.err0
    omega
  · obtain ⟨cs', hb'⟩ := (h.rdr r hm).2.blk
    refine (h.rdr r hm).2.grown hg (fun e => Blk.ne_ hb' hb (Ne.symm h2) (by injection e)) (fun j e => ?_)
    injection e with e
    subst e
    exact ⟨_, _, hb, h1⟩
  · exact Blk.grown (h.flt f hf) hg (fun e => Blk.ne_ (h.flt f hf) hb (Ne.symm h3) (by injection e))
end Go.Proofs.YtohhojbeclbedaaGreatDoor

namespace Go.Proofs.YtohhojbeclbedaaGreatDoor
open Go.RowKit

def Sg.ins (s : Sg) (op : Int) : Ins := ⟨op, s.a, s.b, s.c, s.d, s.l⟩
structure Mem (S : Nat → Prop) (b0 xb : Nat) (op : Int) (s : Sg) (W : World) : Prop where
  p : Blk W b0 195 #[.pointer (some ⟨xb, 0, none⟩)]
  x : Blk W xb 52 (s.cells op)
  l : IntsA S W s.lv s.l
  le : s.l.length ≤ 12

section
variable {S : Nat → Prop} {b0 xb : Nat} {op : Int} {s : Sg} {W W' : World}
theorem Mem.none_ (h : Mem S b0 xb op s W) (hg : W.grownBy W' none) : Mem S b0 xb op s W' := ⟨h.p.kept hg, h.x.kept hg, h.l.row hg (fun _ _ e => by cases e), h.le⟩
theorem Mem.row {row : Option Nat} (h : Mem S b0 xb op s W) (hg : W.grownBy W' row) (h1 : some b0 ≠ row) (h2 : some xb ≠ row) (h3 : ∀ b, S b → some b ≠ row) : Mem S b0 xb op s W' := ⟨h.p.grown hg h1, h.x.grown hg h2, h.l.row hg h3, h.le⟩
theorem Mem.own {row : Option Nat} (h : Mem S b0 xb op s W) (hg : W.grownBy W' row) (hr : ∀ r, row = some r → ∃ o : Obj, W.heap[r]? = some o ∧ o.isCells = false) : Mem S b0 xb op s W' := ⟨h.p.own hg hr, h.x.own hg hr, h.l.own hg hr, h.le⟩
end

/-! ### OPERANDS, ONE BY ONE -/
/-- One that is handed over: which it is, its two pointers, its kind; what stands behind it; the list's slice; the box that counts; the form's box. -/
structure Ev where
  k : Fld
  w : Option Addr
  p : Option Addr
  kd : Kd
  td : List Fld
  lv : Value
  cb : Nat
  fb : Nat
abbrev evA (x : Ev) : Array Value := #[.agg #[.pointer x.w, .pointer x.p, .int .i64 x.kd.most, .bool x.kd.reg]]
/-- A range over operands: the pointer's box, the instruction's block, its op, form, head, slice; whose blocks the list may lie in; what the caller keeps as the head comes, and the list. -/
structure Its where
  b0 : Nat
  xb : Nat
  op : Int
  f : Fm
  td0 : List Fld
  lv0 : Value
  S : Nat → Prop
  RH : List Fld → Nat → Sg → World → Prop
  RE : Nat → Sg → World → Prop
def Its.M (I : Its) (s : Sg) (W : World) : Prop := Mem I.S I.b0 I.xb I.op s W
def Its.Sp (I : Its) (X Y : World) : Prop := X.grownBy Y (some I.xb) ∧ ∃ cs, Blk X I.xb 52 cs
/-- What a round that goes on leaves. -/
def Its.after (I : Its) (x : Ev) (W : World) : Prop := Blk W x.fb 253 (fmC I.f) ∧ ∃ s, I.M s W ∧ s.lv = x.lv ∧ match x.k with
  | .N => ∃ n : Nat, n ≤ 8 ∧ Blk W x.cb 3 #[.int .i64 (n : Int)] ∧ I.RH [] n s W
  | .E i => I.RE (i + 1) s W
  | _ => I.RH x.td I.f.most s W
def Its.T (I : Its) (pre : List Ev) (W : World) : Prop := match pre.getLast? with
  | none => ∃ s, I.M s W ∧ s.lv = I.lv0 ∧ I.RH I.td0 I.f.most s W
  | some x => I.after x W
/-- What holds as one is handed over. -/
def Its.Tm (I : Its) (_ : List Ev) (x : Ev) (W : World) : Prop := Blk W x.fb 253 (fmC I.f) ∧ ∃ s, I.M s W ∧ s.lv = x.lv ∧ match x.k with
  | .A => x.w = some ⟨I.xb, 1, none⟩ ∧ x.p = none ∧ x.kd = k0 ∧ I.RH (.A :: x.td) I.f.most s W
  | .B => x.w = none ∧ x.p = some ⟨I.xb, 2, none⟩ ∧ x.kd = I.f.b ∧ I.RH (.B :: x.td) I.f.most s W
  | .C => x.w = none ∧ x.p = some ⟨I.xb, 3, none⟩ ∧ x.kd = I.f.c ∧ I.RH (.C :: x.td) I.f.most s W
  | .D => x.w = none ∧ x.p = some ⟨I.xb, 4, none⟩ ∧ x.kd = I.f.d ∧ I.RH (.D :: x.td) I.f.most s W
  | .N => x.w = none ∧ x.p = some ⟨x.cb, 0, none⟩ ∧ x.kd = ⟨I.f.most, false⟩ ∧ I.b0 < x.cb ∧ Blk W x.cb 3 #[.int .i64 (s.l.length : Int)] ∧ I.RH [.N] I.f.most s W
  | .E i => i < s.l.length ∧ x.w = none ∧ (∃ b off c, s.lv = .slice (some ⟨b, off, none⟩) s.l.length c ∧ x.p = some ⟨b, off + i, none⟩) ∧ x.kd = I.f.each ∧ I.RE i s W
def Its.E (I : Its) (_ : List Ev) (W : World) : Prop := ∃ s, I.M s W ∧ I.RE s.l.length s W
theorem Its.T_snoc (I : Its) (pre : List Ev) (x : Ev) (W : World) : I.T (pre ++ [x]) W = I.after x W := by
  unfold Its.T
  rw [List.getLast?_append]
  rfl

/-- What the caller's parts owe. -/
structure Its.Ok (I : Its) (B : Nat) : Prop where
  f_ : I.f = fmOf (clI I.op)
  td_ : I.td0 = hdF (clI I.op)
  ne : ∀ b, I.S b → b ≠ I.xb
  spH : ∀ td n s X Y, I.Sp X Y → I.RH td n s X → I.RH td n s Y
  spE : ∀ i s X Y, I.Sp X Y → I.RE i s X → I.RE i s Y
  ownH : OwnFrom B (fun (t : List Fld × Nat × Sg) W => I.RH t.1 t.2.1 t.2.2 W)
  ownE : OwnFrom B (fun (t : Nat × Sg) W => I.RE t.1 t.2 W)
  same : ∀ s X, I.M s X → I.RH [] s.l.length s X → I.RE 0 s X
  made : ∀ (n : Nat) s X Y lb, I.M s X → n ≤ 8 → n ≠ s.l.length → I.RH [] n s X → I.Sp X Y → X.heap.size ≤ lb → Blk Y lb 3 (Array.replicate n (.int .i64 0)) →
    I.S lb ∧ I.RE 0 { s with lv := .slice (some ⟨lb, 0, none⟩) n n, l := List.replicate n 0 } Y
section
variable {I : Its} {B : Nat}
theorem Its.Ok.ownT (h : I.Ok B) : OwnFrom B I.T := fun pre W W' row hT hg hr => by
  have hr2 := fun r e => (hr r e).2
  unfold Its.T at hT ⊢
  generalize pre.getLast? = q at hT ⊢
  cases q with
  | none =>
    obtain ⟨s, h1, h2, h3⟩ := hT
    exact ⟨s, h1.own hg hr2, h2, h.ownH (I.td0, I.f.most, s) _ _ _ h3 hg hr⟩
  | some x =>
    obtain ⟨hb, s, h1, h2, h3⟩ := hT
    refine ⟨hb.own hg hr2, s, h1.own hg hr2, h2, ?_⟩
    obtain ⟨k, w, p, kd, td, lv, cb, fb⟩ := x
    cases k with
    | N =>
      obtain ⟨n, k1, k2, k3⟩ := h3
      exact ⟨n, k1, k2.own hg hr2, h.ownH ([], n, s) _ _ _ k3 hg hr⟩
    | E i => exact h.ownE (i + 1, s) _ _ _ h3 hg hr
    | A => exact h.ownH (td, I.f.most, s) _ _ _ h3 hg hr
    | B => exact h.ownH (td, I.f.most, s) _ _ _ h3 hg hr
    | C => exact h.ownH (td, I.f.most, s) _ _ _ h3 hg hr
    | D => exact h.ownH (td, I.f.most, s) _ _ _ h3 hg hr
theorem Its.Ok.ownTm (h : I.Ok B) (x : Ev) : OwnFrom B (fun pre W => I.Tm pre x W) := fun pre W W' row hT hg hr => by
  have hr2 := fun r e => (hr r e).2
  obtain ⟨hb, s, h1, h2, h3⟩ := hT
  refine ⟨hb.own hg hr2, s, h1.own hg hr2, h2, ?_⟩
  obtain ⟨k, w, p, kd, td, lv, cb, fb⟩ := x
  cases k with
  | A => exact ⟨h3.1, h3.2.1, h3.2.2.1, h.ownH (.A :: td, I.f.most, s) _ _ _ h3.2.2.2 hg hr⟩
  | B => exact ⟨h3.1, h3.2.1, h3.2.2.1, h.ownH (.B :: td, I.f.most, s) _ _ _ h3.2.2.2 hg hr⟩
  | C => exact ⟨h3.1, h3.2.1, h3.2.2.1, h.ownH (.C :: td, I.f.most, s) _ _ _ h3.2.2.2 hg hr⟩
  | D => exact ⟨h3.1, h3.2.1, h3.2.2.1, h.ownH (.D :: td, I.f.most, s) _ _ _ h3.2.2.2 hg hr⟩
  | N => exact ⟨h3.1, h3.2.1, h3.2.2.1, h3.2.2.2.1, h3.2.2.2.2.1.own hg hr2, h.ownH ([.N], I.f.most, s) _ _ _ h3.2.2.2.2.2 hg hr⟩
  | E i => exact ⟨h3.1, h3.2.1, h3.2.2.1, h3.2.2.2.1, h.ownE (i, s) _ _ _ h3.2.2.2.2 hg hr⟩
theorem Its.Ok.ownEE (h : I.Ok B) : OwnFrom B I.E := fun pre W W' row hT hg hr => by
  have hr2 := fun r e => (hr r e).2
  obtain ⟨s, h1, h2⟩ := hT
  exact ⟨s, h1.own hg hr2, h.ownE (s.l.length, s) _ _ _ h2 hg hr⟩
end
end Go.Proofs.YtohhojbeclbedaaGreatDoor

namespace Go.Proofs.YtohhojbeclbedaaGreatDoor
open Go.RowKit Go.Shelf
attribute [local go_sem] Oper.semAt_some

theorem operands_any (xb : Nat) (w : World) :
    Calls Tryz.prog 133 #[.pointer (some ⟨xb, 0, none⟩)] w fun e w' => e = .returned (.func (.func 176) #[] #[.pointer (some ⟨w.heap.size, 0, none⟩)]) ∧ w' = w.alloc (.cells #[.pointer (some ⟨xb, 0, none⟩)] 195) := by
  have hmf : ∀ (fn : Fn) (first cap : Array Value) (w : World), (Instr.makeFunc fn first cap).run Tryz.prog w = .ok (.func fn first cap) w := fun _ _ _ _ => rfl
  go_enter Tryz.func133, Tryz.ntmps133
  go_wp2
  go_ret
  exact ⟨rfl, rfl⟩

def tdA (f : Fm) : List Fld := if f.hasA then [.A] else []
def tdN (f : Fm) : List Fld := if f.least < f.most then [.N] else []
def tdD (f : Fm) : List Fld := (if f.d.is0 then [] else [.D]) ++ tdN f
def tdC (f : Fm) : List Fld := (if f.c.is0 then [] else [.C]) ++ tdD f
def tdB (f : Fm) : List Fld := (if f.b.is0 then [] else [.B]) ++ tdC f
theorem td_is (c : Kl) : hdF c = tdA (fmOf c) ++ tdB (fmOf c) := by cases c <;> rfl
/-- What stands between two operands of the head. -/
structure ItH (I : Its) (J : List Ev → World → Prop) (fb : Nat) (td : List Fld) (W : World) : Prop where
  h : ∃ pre s, J pre W ∧ I.M s W ∧ s.lv = I.lv0 ∧ I.RH td I.f.most s W
  b : Blk W fb 253 (fmC I.f)
structure ItE (I : Its) (J : List Ev → World → Prop) (fb : Nat) (lv : Value) (n i : Nat) (W : World) : Prop where
  h : ∃ pre s, J pre W ∧ I.M s W ∧ s.lv = lv ∧ s.l.length = n ∧ I.RE i s W
  b : Blk W fb 253 (fmC I.f)
/-- What stands as the list's length is told, and behind it. -/
structure ItN (I : Its) (J : List Ev → World → Prop) (fb cb : Nat) (n : Nat) (W : World) : Prop where
  h : ∃ pre s, J pre W ∧ I.M s W ∧ s.lv = I.lv0 ∧ I.RH [] n s W
  b : Blk W fb 253 (fmC I.f)
  c : Blk W cb 3 #[.int .i64 (n : Int)]
  le : n ≤ 8

abbrev opA (w p : Option Addr) (most : Int) (reg : Bool) : Array Value := #[.agg #[.pointer w, .pointer p, .int .i64 most, .bool reg]]
/-- What a round answers. -/
def Ans (G : World → Prop) (Jx : List Ev → World → Prop) (e : Ending) (Y : World) : Prop := (e = .returned (.bool true) ∧ G Y) ∨ (e = .returned (.bool false) ∧ ∃ pre, Jx pre Y)
def Asked (I : Its) (l : Nat) (J Jx : List Ev → World → Prop) : Prop := ∀ pre x X, J pre X → I.Tm pre x X → YieldAt Fence.wide (2 - 1) Tryz.prog l (evA x) X fun e Y => (e = .returned (.bool true) ∧ J (pre ++ [x]) Y ∧ I.T (pre ++ [x]) Y) ∨ (e = .returned (.bool false) ∧ Jx (pre ++ [x]) Y)
section
variable {I : Its} {J Jx : List Ev → World → Prop} {l fb : Nat} {td : List Fld} {W Y : World}
theorem ItH.none_ (h : ItH I J fb td W) (hJ : ∀ s X Y, J s X → I.Sp X Y → J s Y) {B : Nat} (ok : I.Ok B) (hg : W.grownBy Y none) : ItH I J fb td Y := by
  obtain ⟨⟨pre, s, h1, h2, h3, h4⟩, hb⟩ := h
  have hs : I.Sp W Y := ⟨only_weak hg _, _, h2.x⟩
  exact ⟨⟨pre, s, hJ _ _ _ h1 hs, h2.none_ hg, h3, ok.spH _ _ _ _ _ hs h4⟩, hb.kept hg⟩
theorem ItE.none_ {lv : Value} {n i : Nat} (h : ItE I J fb lv n i W) (hJ : ∀ s X Y, J s X → I.Sp X Y → J s Y) {B : Nat} (ok : I.Ok B) (hg : W.grownBy Y none) : ItE I J fb lv n i Y := by
  obtain ⟨⟨pre, s, h1, h2, h3, h3', h4⟩, hb⟩ := h
  have hs : I.Sp W Y := ⟨only_weak hg _, _, h2.x⟩
  exact ⟨⟨pre, s, hJ _ _ _ h1 hs, h2.none_ hg, h3, h3', ok.spE _ _ _ _ hs h4⟩, hb.kept hg⟩
theorem ItN.none_ {cb n : Nat} (h : ItN I J fb cb n W) (hJ : ∀ s X Y, J s X → I.Sp X Y → J s Y) {B : Nat} (ok : I.Ok B) (hg : W.grownBy Y none) : ItN I J fb cb n Y := by
  obtain ⟨⟨pre, s, h1, h2, h3, h4⟩, hb, hc, hl⟩ := h
  have hs : I.Sp W Y := ⟨only_weak hg _, _, h2.x⟩
  exact ⟨⟨pre, s, hJ _ _ _ h1 hs, h2.none_ hg, h3, ok.spH _ _ _ _ _ hs h4⟩, hb.kept hg, hc.kept hg, hl⟩
theorem tell_A (HY : Asked I l J Jx) (h : ItH I J fb (.A :: td) W) : YieldAt Fence.wide (2 - 1) Tryz.prog l (opA (some ⟨I.xb, 1, none⟩) none 0 false) W (Ans (ItH I J fb td) Jx) := by
  obtain ⟨⟨pre, s, h1, h2, h3, h4⟩, hb⟩ := h
  refine (HY pre ⟨.A, some ⟨I.xb, 1, none⟩, none, k0, td, I.lv0, 0, fb⟩ W h1 ⟨hb, s, h2, h3, rfl, rfl, rfl, h4⟩).mono ?_
  rintro e Y (⟨he, k1, k2⟩ | ⟨he, k1⟩)
  · rw [Its.T_snoc] at k2
    obtain ⟨k3, s', k4, k5, k6⟩ := k2
    exact .inl ⟨he, ⟨_, s', k1, k4, k5, k6⟩, k3⟩
  · exact .inr ⟨he, _, k1⟩
theorem tell_B (HY : Asked I l J Jx) (h : ItH I J fb (.B :: td) W) {m : Int} {r : Bool} (hk : I.f.b = ⟨m, r⟩) : YieldAt Fence.wide (2 - 1) Tryz.prog l (opA none (some ⟨I.xb, 2, none⟩) m r) W (Ans (ItH I J fb td) Jx) := by
  obtain ⟨⟨pre, s, h1, h2, h3, h4⟩, hb⟩ := h
  have := HY pre ⟨.B, none, some ⟨I.xb, 2, none⟩, I.f.b, td, I.lv0, 0, fb⟩ W h1 ⟨hb, s, h2, h3, rfl, rfl, rfl, h4⟩
  rw [hk] at this
  refine this.mono ?_
  rintro e Y (⟨he, k1, k2⟩ | ⟨he, k1⟩)
  · rw [Its.T_snoc] at k2
    obtain ⟨k3, s', k4, k5, k6⟩ := k2
    exact .inl ⟨he, ⟨_, s', k1, k4, k5, k6⟩, k3⟩
  · exact .inr ⟨he, _, k1⟩
theorem tell_C (HY : Asked I l J Jx) (h : ItH I J fb (.C :: td) W) {m : Int} {r : Bool} (hk : I.f.c = ⟨m, r⟩) : YieldAt Fence.wide (2 - 1) Tryz.prog l (opA none (some ⟨I.xb, 3, none⟩) m r) W (Ans (ItH I J fb td) Jx) := by
  obtain ⟨⟨pre, s, h1, h2, h3, h4⟩, hb⟩ := h
  have := HY pre ⟨.C, none, some ⟨I.xb, 3, none⟩, I.f.c, td, I.lv0, 0, fb⟩ W h1 ⟨hb, s, h2, h3, rfl, rfl, rfl, h4⟩
  rw [hk] at this
  refine this.mono ?_
  rintro e Y (⟨he, k1, k2⟩ | ⟨he, k1⟩)
  · rw [Its.T_snoc] at k2
    obtain ⟨k3, s', k4, k5, k6⟩ := k2
    exact .inl ⟨he, ⟨_, s', k1, k4, k5, k6⟩, k3⟩
  · exact .inr ⟨he, _, k1⟩
theorem tell_D (HY : Asked I l J Jx) (h : ItH I J fb (.D :: td) W) {m : Int} {r : Bool} (hk : I.f.d = ⟨m, r⟩) : YieldAt Fence.wide (2 - 1) Tryz.prog l (opA none (some ⟨I.xb, 4, none⟩) m r) W (Ans (ItH I J fb td) Jx) := by
  obtain ⟨⟨pre, s, h1, h2, h3, h4⟩, hb⟩ := h
  have := HY pre ⟨.D, none, some ⟨I.xb, 4, none⟩, I.f.d, td, I.lv0, 0, fb⟩ W h1 ⟨hb, s, h2, h3, rfl, rfl, rfl, h4⟩
  rw [hk] at this
  refine this.mono ?_
  rintro e Y (⟨he, k1, k2⟩ | ⟨he, k1⟩)
  · rw [Its.T_snoc] at k2
    obtain ⟨k3, s', k4, k5, k6⟩ := k2
    exact .inl ⟨he, ⟨_, s', k1, k4, k5, k6⟩, k3⟩
  · exact .inr ⟨he, _, k1⟩
theorem tell_N (HY : Asked I l J Jx) {pre : List Ev} {s : Sg} {cb : Nat} (h1 : J pre W) (h2 : I.M s W) (h3 : s.lv = I.lv0) (h4 : I.RH [.N] I.f.most s W) (hb : Blk W fb 253 (fmC I.f)) (hlt : I.b0 < cb) (hc : Blk W cb 3 #[.int .i64 (s.l.length : Int)]) :
    YieldAt Fence.wide (2 - 1) Tryz.prog l (opA none (some ⟨cb, 0, none⟩) (I.f.most : Int) false) W (Ans (fun Y => ∃ n, ItN I J fb cb n Y) Jx) := by
  refine (HY pre ⟨.N, none, some ⟨cb, 0, none⟩, ⟨I.f.most, false⟩, [], I.lv0, cb, fb⟩ W h1 ⟨hb, s, h2, h3, rfl, rfl, rfl, hlt, hc, h4⟩).mono ?_
  rintro e Y (⟨he, k1, k2⟩ | ⟨he, k1⟩)
  · rw [Its.T_snoc] at k2
    obtain ⟨k3, s', k4, k5, n, k6, k7, k8⟩ := k2
    exact .inl ⟨he, n, ⟨_, s', k1, k4, k5, k8⟩, k3, k7, k6⟩
  · exact .inr ⟨he, _, k1⟩
theorem tell_E (HY : Asked I l J Jx) {b off n c i : Nat} (h : ItE I J fb (.slice (some ⟨b, off, none⟩) n c) n i W) (hi : i < n) :
    YieldAt Fence.wide (2 - 1) Tryz.prog l (opA none (some ⟨b, off + i, none⟩) I.f.each.most I.f.each.reg) W (Ans (ItE I J fb (.slice (some ⟨b, off, none⟩) n c) n (i + 1)) Jx) := by
  obtain ⟨⟨pre, s, h1, h2, h3, h3', h4⟩, hb⟩ := h
  refine (HY pre ⟨.E i, none, some ⟨b, off + i, none⟩, I.f.each, [], .slice (some ⟨b, off, none⟩) n c, 0, fb⟩ W h1 ⟨hb, s, h2, h3, by omega, rfl, ⟨b, off, c, by rw [h3, h3'], rfl⟩, rfl, h4⟩).mono ?_
  rintro e Y (⟨he, k1, k2⟩ | ⟨he, k1⟩)
  · rw [Its.T_snoc] at k2
    obtain ⟨k3, s', k4, k5, k6⟩ := k2
    obtain ⟨A, c', e1, _⟩ := k4.l
    have e2 : s'.l.length = n := by rw [k5] at e1; injection e1 with _ e3 _; exact e3.symm
    exact .inl ⟨he, ⟨_, s', k1, k4, k5, e2, k6⟩, k3⟩
  · exact .inr ⟨he, _, k1⟩
end
end Go.Proofs.YtohhojbeclbedaaGreatDoor

namespace Go.Proofs.YtohhojbeclbedaaGreatDoor
open Go.RowKit

theorem putU_eq {B g : Nat} {w : World} {bs : List UInt8} (h : Wtr B w g bs) (hB : B ≤ w.heap.size) (n : Nat) (v : Int) (hv : v = (n : Int)) (hn : n < 18446744073709551616) (hl : bs.length + 10 ≤ 1099511627776) :
    Calls Tryz.prog 62 #[.pointer (some ⟨g, 0, none⟩), .int .u64 v] w fun e w' => e = .returned (.tuple #[]) ∧ Wtr B w' g (bs ++ sev n) ∧ Turn (WS B w g) w w' := by subst hv; exact putU_any h hB n hn hl
theorem sev_short {n : Nat} (h : n ≤ 65536) : (sev n).length ≤ 10 := sev_len10 (by omega)

theorem at3_0 (t1 t2 t3 : ByteArray) (w : World) : (Instr.index 41 (.agg #[.string t1, .string t2, .string t3]) (.int .i64 0)).run Tryz.prog w = .ok (.string t1) w := by kernel_rfl
theorem at3_1 (t1 t2 t3 : ByteArray) (w : World) : (Instr.index 41 (.agg #[.string t1, .string t2, .string t3]) (.int .i64 1)).run Tryz.prog w = .ok (.string t2) w := by kernel_rfl
theorem at3_2 (t1 t2 t3 : ByteArray) (w : World) : (Instr.index 41 (.agg #[.string t1, .string t2, .string t3]) (.int .i64 2)).run Tryz.prog w = .ok (.string t3) w := by kernel_rfl

set_option maxRecDepth 100000 in
set_option maxHeartbeats 4000000 in
theorem join_ok (t1 t2 t3 : ByteArray) (h1 : t1.size ≤ 65536) (h2 : t2.size ≤ 65536) (h3 : t3.size ≤ 65536) (w : World) :
    Calls Tryz.prog 19 #[.agg #[.string t1, .string t2, .string t3]] w fun e w' => e = .returned (.tuple #[.string ⟨(joined t1.data.toList t2.data.toList t3.data.toList).toArray⟩, .int .i64 0]) ∧ w.grownBy w' none := by
  have l1 := Lib.hid (bytes_len t1)
  have l2 := Lib.hid (bytes_len t2)
  have l3 := Lib.hid (bytes_len t3)
  have k1 := Lib.hid h1
  have k2 := Lib.hid h2
  have k3 := Lib.hid h3
  have b1 : (t1.size : Int) ≤ 65536 := by omega
  have b2 : (t2.size : Int) ≤ 65536 := by omega
  have b3 : (t3.size : Int) ≤ 65536 := by omega
  have a1 : (0 : Int) ≤ (t1.size : Int) := by omega
  have a2 : (0 : Int) ≤ (t2.size : Int) := by omega
  have a3 : (0 : Int) ≤ (t3.size : Int) := by omega
  obtain ⟨z1, e1⟩ : ∃ z : Int, (t1.size : Int) = z := ⟨_, rfl⟩
  obtain ⟨z2, e2⟩ : ∃ z : Int, (t2.size : Int) = z := ⟨_, rfl⟩
  obtain ⟨z3, e3⟩ : ∃ z : Int, (t3.size : Int) = z := ⟨_, rfl⟩
  rw [e1] at b1 a1
  rw [e2] at b2 a2
  rw [e3] at b3 a3
  have E1 := Lib.hid e1.symm
  have E2 := Lib.hid e2.symm
  have E3 := Lib.hid e3.symm
  clear h1 h2 h3
  have i0 := at3_0 t1 t2 t3
  have i1 := at3_1 t1 t2 t3
  have i2 := at3_2 t1 t2 t3
  go_enter Tryz.func19, Tryz.ntmps19
  go_wp2_with fail
  refine wp_loop_rounds 4 ?_
  rw [rounds_succ]
  go_wp2_with fail
  rw [rounds_succ]
  go_wp2_with fail
  rw [rounds_succ]
  go_wp2_with fail
  rw [rounds_succ]
  go_wp2_with fail
  have w0b := Blk.new w 41 #[.string t1, .string t2, .string t3]
  have hg0 : w.grownBy (w.alloc (.cells #[.string t1, .string t2, .string t3] 41)) none := only_alloc (only_refl _ _) _
  have hz : (w.alloc (.cells #[.string t1, .string t2, .string t3] 41)).heap.size = w.heap.size + 1 := by simp
  generalize w.alloc (.cells #[.string t1, .string t2, .string t3] 41) = v at *
  refine (newWriter_any v.heap.size v (Nat.le_refl _)).mono ?_
  rintro e w1 ⟨g, rfl, hgs, hgn, W0⟩
  have B1 := w0b.kept hgn
  have hb1 : v.heap.size ≤ w1.heap.size := hgn.size
  have T0 : Turn (WS v.heap.size w1 g) w1 w1 := Turn.refl _ _
  have HG := Lib.hid (only_trans hg0 hgn)
  have HS := Lib.hid hgs
  have HZ := Lib.hid hz
  clear w0b hg0 hgn hgs hz
  go_wp2_with fail
  have HL : Hid ((hd5).length = 5) := rfl
  refine (wput_any W0 hb1 ⟨#[67, 76, 81, 89, 1]⟩ (by decide)).mono ?_
  rintro e w2 ⟨rfl, W1, T1⟩
  have B2 : Blk w2 w.heap.size 41 #[.string t1, .string t2, .string t3] := B1.turn T1 (by
    rintro (h | ⟨h, _⟩)
    · have := HS.out
      have := HZ.out
      omega
    · have := HZ.out
      omega)
  have hb2 : v.heap.size ≤ w2.heap.size := Nat.le_trans hb1 T1.size
  have e0 : [] ++ (⟨#[67, 76, 81, 89, 1]⟩ : ByteArray).data.toList = hd5 := rfl
  rw [e0] at W1
  clear W0 B1 hb1 T0 e0
  have c0 := B2.cell 0
  have c1 := B2.cell 1
  have c2 := B2.cell 2
  clear B2
  go_wp2_with fail
  refine wp_loop_rounds 4 ?_
  rw [rounds_succ]
  go_wp2_with fail
  refine (wbyte_eq W1 hb2 1 1 rfl (by have := HL.out; (try simp only [List.length_append, List.length_cons, List.length_nil]); have := l1.out; have := l2.out; have := l3.out; have := k1.out; have := k2.out; have := k3.out; have := sev_short k1.out; have := sev_short k2.out; have := sev_short k3.out; omega)).mono ?_
  rintro e w3 ⟨rfl, W2, S2⟩
  have T2 := T1.trans S2
  have hb3 : v.heap.size ≤ w3.heap.size := Nat.le_trans hb2 S2.size
  clear W1 T1 S2 hb2
  go_wp2_with fail
  refine (putU_eq W2 hb3 t1.size z1 E1.out (by have := k1.out; omega) (by have := HL.out; (try simp only [List.length_append, List.length_cons, List.length_nil]); have := l1.out; have := l2.out; have := l3.out; have := k1.out; have := k2.out; have := k3.out; have := sev_short k1.out; have := sev_short k2.out; have := sev_short k3.out; omega)).mono ?_
  rintro e w4 ⟨rfl, W3, S3⟩
  have T3 := T2.trans S3
  have hb4 : v.heap.size ≤ w4.heap.size := Nat.le_trans hb3 S3.size
  clear W2 T2 S3 hb3
  go_wp2_with fail
  refine (wput_any W3 hb4 t1 (by have := HL.out; (try simp only [List.length_append, List.length_cons, List.length_nil]); have := l1.out; have := l2.out; have := l3.out; have := k1.out; have := k2.out; have := k3.out; have := sev_short k1.out; have := sev_short k2.out; have := sev_short k3.out; omega)).mono ?_
  rintro e w5 ⟨rfl, W4, S4⟩
  have T4 := T3.trans S4
  have hb5 : v.heap.size ≤ w5.heap.size := Nat.le_trans hb4 S4.size
  clear W3 T3 S4 hb4
  go_wp2_with fail
  rw [rounds_succ]
  go_wp2_with fail
  refine (wbyte_eq W4 hb5 2 2 rfl (by have := HL.out; (try simp only [List.length_append, List.length_cons, List.length_nil]); have := l1.out; have := l2.out; have := l3.out; have := k1.out; have := k2.out; have := k3.out; have := sev_short k1.out; have := sev_short k2.out; have := sev_short k3.out; omega)).mono ?_
  rintro e w6 ⟨rfl, W5, S5⟩
  have T5 := T4.trans S5
  have hb6 : v.heap.size ≤ w6.heap.size := Nat.le_trans hb5 S5.size
  clear W4 T4 S5 hb5
  go_wp2_with fail
  refine (putU_eq W5 hb6 t2.size z2 E2.out (by have := k2.out; omega) (by have := HL.out; (try simp only [List.length_append, List.length_cons, List.length_nil]); have := l1.out; have := l2.out; have := l3.out; have := k1.out; have := k2.out; have := k3.out; have := sev_short k1.out; have := sev_short k2.out; have := sev_short k3.out; omega)).mono ?_
  rintro e w7 ⟨rfl, W6, S6⟩
  have T6 := T5.trans S6
  have hb7 : v.heap.size ≤ w7.heap.size := Nat.le_trans hb6 S6.size
  clear W5 T5 S6 hb6
  go_wp2_with fail
  refine (wput_any W6 hb7 t2 (by have := HL.out; (try simp only [List.length_append, List.length_cons, List.length_nil]); have := l1.out; have := l2.out; have := l3.out; have := k1.out; have := k2.out; have := k3.out; have := sev_short k1.out; have := sev_short k2.out; have := sev_short k3.out; omega)).mono ?_
  rintro e w8 ⟨rfl, W7, S7⟩
  have T7 := T6.trans S7
  have hb8 : v.heap.size ≤ w8.heap.size := Nat.le_trans hb7 S7.size
  clear W6 T6 S7 hb7
  go_wp2_with fail
  rw [rounds_succ]
  go_wp2_with fail
  refine (wbyte_eq W7 hb8 3 3 rfl (by have := HL.out; (try simp only [List.length_append, List.length_cons, List.length_nil]); have := l1.out; have := l2.out; have := l3.out; have := k1.out; have := k2.out; have := k3.out; have := sev_short k1.out; have := sev_short k2.out; have := sev_short k3.out; omega)).mono ?_
  rintro e w9 ⟨rfl, W8, S8⟩
  have T8 := T7.trans S8
  have hb9 : v.heap.size ≤ w9.heap.size := Nat.le_trans hb8 S8.size
  clear W7 T7 S8 hb8
  go_wp2_with fail
  refine (putU_eq W8 hb9 t3.size z3 E3.out (by have := k3.out; omega) (by have := HL.out; (try simp only [List.length_append, List.length_cons, List.length_nil]); have := l1.out; have := l2.out; have := l3.out; have := k1.out; have := k2.out; have := k3.out; have := sev_short k1.out; have := sev_short k2.out; have := sev_short k3.out; omega)).mono ?_
  rintro e w10 ⟨rfl, W9, S9⟩
  have T9 := T8.trans S9
  have hb10 : v.heap.size ≤ w10.heap.size := Nat.le_trans hb9 S9.size
  clear W8 T8 S9 hb9
  go_wp2_with fail
  refine (wput_any W9 hb10 t3 (by have := HL.out; (try simp only [List.length_append, List.length_cons, List.length_nil]); have := l1.out; have := l2.out; have := l3.out; have := k1.out; have := k2.out; have := k3.out; have := sev_short k1.out; have := sev_short k2.out; have := sev_short k3.out; omega)).mono ?_
  rintro e w11 ⟨rfl, W10, S10⟩
  have T10 := T9.trans S10
  have hb11 : v.heap.size ≤ w11.heap.size := Nat.le_trans hb10 S10.size
  clear W9 T9 S10 hb10
  go_wp2_with fail
  rw [rounds_succ]
  go_wp2_with fail
  refine (wtext_eq W10 ⟨(joined t1.data.toList t2.data.toList t3.data.toList).toArray⟩ (by simp [joined, sec, l1.out, l2.out, l3.out])).mono ?_
  rintro e wt ⟨rfl, rfl⟩
  go_wp2_with fail
  go_ret2
  refine ⟨rfl, Turn.only HG.out T10 (fun i hi => ?_)⟩
  have := HS.out
  have := HZ.out
  have := WS.le HS.out hi
  omega
end Go.Proofs.YtohhojbeclbedaaGreatDoor

namespace Go.Proofs.YtohhojbeclbedaaGreatDoor

theorem taken_once {l : List UInt8} {i j : Nat} (h : Taken l i) (k : Taken l j) : i = j := by
  refine taken_pre (l := l) (m := l) ?_ (List.take_length) h
  rw [List.take_length]; exact k
theorem short_taken {l : List UInt8} {j : Nat} (h : Short l) (k : Taken l j) : False := by
  have h1 := k.pos
  have h2 := k.len
  have h3 := h.1
  have hlt : j - 1 < l.length := by omega
  have h4 := h.2 (j - 1) _ (List.getElem?_eq_getElem hlt)
  have h5 := k.last _ (List.getElem?_eq_getElem hlt)
  omega
section
variable {b : List UInt8} {k a j p n j' p' n' : Nat} {c x c' x' : Int}
theorem sec_one (h : SecOk b k a j p n) (h' : SecOk b k a j' p' n') : j = j' ∧ p = p' ∧ n = n' := by
  refine sec_pre (b := b) (c := b.length) (Nat.le_refl _) ?_ h'
  rw [List.take_length]; exact h
theorem sec_not (h : SecFault b k a c x) (h' : SecOk b k a j p n) : False := by
  have hid := h'.id
  cases h with
  | lacks h1 => rw [h1, List.getElem?_eq_none (Nat.le_refl _)] at hid; cases hid
  | other u h1 h2 => rw [h1] at hid; injection hid with e; exact h2 e
  | ends h1 h2 => exact short_taken h2 h'.taken
  | wrong i h1 h2 h3 => rw [taken_once h2 h'.taken] at h3; exact h'.good h3
  | long i m h1 h2 h3 h4 h5 => rw [taken_once h2 h'.taken, h'.is] at h4; have := h'.small; omega
  | short i m h1 h2 h3 h4 h5 h6 =>
    have hi := taken_once h2 h'.taken
    rw [hi, h'.is] at h4
    have := h'.fits
    have := h'.at_
    omega
end
theorem head_not {b : List UInt8} {i : Nat} (h : HeadFault b i) (h' : HeadOk b) : False := h.here (h' i h.lt)
theorem split_not {b : List UInt8} {c y : Int} {x : Parts} (h : SplitFault b c y) (h' : SplitOk b x) : False := by
  cases h with
  | head i hi => exact head_not hi h'.head
  | sec1 _ _ _ h1 => exact sec_not h1 h'.s1
  | sec2 j1 p1 n1 _ _ _ k1 h2 =>
    obtain ⟨_, e2, e3⟩ := sec_one k1 h'.s1
    rw [e2, e3] at h2
    exact sec_not h2 h'.s2
  | sec3 j1 p1 n1 j2 p2 n2 _ _ _ k1 k2 h3 =>
    obtain ⟨_, e2, e3⟩ := sec_one k1 h'.s1
    rw [e2, e3] at k2
    obtain ⟨_, f2, f3⟩ := sec_one k2 h'.s2
    rw [f2, f3] at h3
    exact sec_not h3 h'.s3
  | more z _ k1 k2 k3 k4 =>
    obtain ⟨_, e2, e3⟩ := sec_one k1 h'.s1
    rw [e2, e3] at k2
    obtain ⟨_, f2, f3⟩ := sec_one k2 h'.s2
    rw [f2, f3] at k3
    obtain ⟨_, g2, g3⟩ := sec_one k3 h'.s3
    have := h'.end_
    omega
theorem split_one {b : List UInt8} {x y : Parts} (h : SplitOk b x) (h' : SplitOk b y) : x = y := by
  obtain ⟨e1, e2, e3⟩ := sec_one h.s1 h'.s1
  have k2 := h.s2
  rw [e2, e3] at k2
  obtain ⟨f1, f2, f3⟩ := sec_one k2 h'.s2
  have k3 := h.s3
  rw [f2, f3] at k3
  obtain ⟨g1, g2, g3⟩ := sec_one k3 h'.s3
  cases x; cases y
  simp_all
end Go.Proofs.YtohhojbeclbedaaGreatDoor

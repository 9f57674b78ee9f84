/- Texts joined for the claim's sake: MRdD, MMem, GTab, Two, Chain, MWkD. -/
import Derived.Test.YtohhojbeclbedaaGreatDoorZMKnwRow11
import Derived.Test.YtohhojbeclbedaaGreatDoorZMKnwRow0
import Derived.Test.YtohhojbeclbedaaGreatDoorZMKnwRow20
import Derived.Test.YtohhojbeclbedaaGreatDoorZMKnwRow12
import Derived.OrdersIn
namespace Go.Proofs.YtohhojbeclbedaaGreatDoor

/-- So many things, each with its place. -/
def repR {α : Type} (f : List UInt8 → Nat → Rs α) (bs : List UInt8) : Nat → Nat → Rs (List (α × Nat))
  | 0, a => .ok [] a
  | n + 1, a => (f bs a).bind fun x b => (repR f bs n b).bind fun l c => .ok ((x, a) :: l) c
def lstR {α : Type} (f : List UInt8 → Nat → Rs α) (least most : Int) (bs : List UInt8) (a : Nat) : Rs (List (α × Nat)) :=
  (smR bs a most).bind fun n b => if n < least then .flt 2 a b else repR f bs n.toNat b
def edgR (bs : List UInt8) (a : Nat) : Rs Edg := (smR bs a 63).bind fun t b => (smR bs b 1000).bind fun s c => .ok ⟨t, s⟩ c
def markR (bs : List UInt8) (a : Nat) : Rs Bool := (smR bs a 1).bind fun m b => .ok (m == 1) b
def nodR (bs : List UInt8) (a : Nat) : Rs Nod := (smR bs a 5).bind fun k b =>
  if k = 5 then (edgR bs b).bind fun e c => .ok ⟨k, 0, false, ⟨0, 0⟩, [e]⟩ c
  else if k = 1 ∨ k = 2 then (smR bs b 1000).bind fun p c => (markR bs c).bind fun m d => (if m = true then edgR bs d else .ok ⟨0, 0⟩ d).bind fun y e => (edgR bs e).bind fun x f => .ok ⟨k, p, m, y, [x]⟩ f
  else if k = 3 ∨ k = 4 then (smR bs b 1000).bind fun p c => (lstR edgR 1 8 bs c).bind fun l d => .ok ⟨k, p, false, ⟨0, 0⟩, l.map Prod.fst⟩ d
  else .ok ⟨k, 0, false, ⟨0, 0⟩, []⟩ b
def parR (bs : List UInt8) (a : Nat) : Rs Par := (markR bs a).bind fun m b => if m = true then (edgR bs b).bind fun t c => .ok ⟨true, t⟩ c else .ok ⟨false, ⟨0, 0⟩⟩ b
def argR (bs : List UInt8) (a : Nat) : Rs Arg := (markR bs a).bind fun m b => if m = true then (smR bs b 31).bind fun t c => .ok ⟨true, 0, t⟩ c else (sR bs b).bind fun z c => .ok ⟨false, z, 0⟩ c
/-- Places, as they are told of bytes that begin at bg. -/
def ats {α : Type} (bg : Nat) (l : List (α × Nat)) : List Int := l.map fun x => ((bg + x.2 : Nat) : Int)
def tplR (bg : Nat) (bs : List UInt8) (a : Nat) : Rs Tpl := (lstR parR 0 8 bs a).bind fun ps b => (lstR readI 1 128 bs b).bind fun cs c => .ok ⟨ps.map Prod.fst, cs.map Prod.fst, ats bg cs⟩ c
def staR (bs : List UInt8) (a : Nat) : Rs Sta := (smR bs a 15).bind fun t b => (lstR argR 0 8 bs b).bind fun l c => .ok ⟨t, l.map Prod.fst⟩ c
/-- Behind what is read nothing is left. -/
def endR {α : Type} (bs : List UInt8) (r : Rs α) : Rs α := r.bind fun v b => if b = bs.length then .ok v b else .flt 4 b b
def typesR (bs : List UInt8) : Rs (List (Nod × Nat)) := endR bs (lstR nodR 0 64 bs 0)
def tplsR (bg : Nat) (bs : List UInt8) : Rs (List (Tpl × Nat)) := endR bs (lstR (tplR bg) 0 16 bs 0)
def bootR (bs : List UInt8) : Rs (List (Edg × Nat) × List (Sta × Nat)) := endR bs ((lstR edgR 0 16 bs 0).bind fun cs b => (lstR staR 0 8 bs b).bind fun ss c => .ok (cs, ss) c)
/-- A module, or the fault. -/
inductive MR where
  | ok (m : Mo)
  | flt (c y : Int)
def secM {α : Type} (bg : Nat) (r : Rs α) (f : α → MR) : MR := match r with
  | .ok v _ => f v
  | .flt c y _ => .flt c ((bg + y : Nat) : Int)
/-- What is read of three texts that stand at these places. -/
def readT (p1 p2 p3 : Nat) (t1 t2 t3 : List UInt8) : MR := secM p1 (typesR t1) fun ns => secM p2 (tplsR p2 t2) fun ts => secM p3 (bootR t3) fun x =>
  .ok ⟨ns.map Prod.fst, ts.map Prod.fst, x.1.map Prod.fst, x.2.map Prod.fst, ats p1 ns, ats p2 ts, ats p3 x.1, ats p3 x.2⟩
end Go.Proofs.YtohhojbeclbedaaGreatDoor

namespace Go.Proofs.YtohhojbeclbedaaGreatDoor
open Go.RowKit

/-- The cells of the blocks in S stay. -/
def KeptS (S : Nat → Prop) (W W' : World) : Prop := ∀ (p : Addr) (v : Value), S p.block → W.cell? p = some v → W'.cell? p = some v
theorem KeptS.trans {S : Nat → Prop} {W W1 W2 : World} (h : KeptS S W W1) (k : KeptS S W1 W2) : KeptS S W W2 := fun p v hp hv => k p v hp (h p v hp hv)
theorem KeptS.grown {S : Nat → Prop} {W W' : World} {row : Option Nat} (hg : W.grownBy W' row) (hr : ∀ b, S b → some b ≠ row) : KeptS S W W' := fun p _ hp hv => cell_row hv hg (hr p.block hp)
theorem KeptS.none_ {S : Nat → Prop} {W W' : World} (hg : W.grownBy W' none) : KeptS S W W' := .grown hg (fun _ _ e => by cases e)
theorem cell_lt {W : World} {p : Addr} {v : Value} (h : W.cell? p = some v) : p.block < W.heap.size := by
  rcases Nat.lt_or_ge p.block W.heap.size with hl | hl
  · exact hl
  · unfold World.cell? at h
    rw [Array.getElem?_eq_none hl] at h
    simp at h
/-- What something's cells tell of it, where those of the blocks in S count. -/
abbrev Enc (α : Type) := (Nat → Prop) → World → α → Array Value → Prop
/-- It hangs on the blocks in S alone. -/
structure Enc.Ok {α : Type} (E : Enc α) (sz : Nat) : Prop where
  kept : ∀ {S : Nat → Prop} {W W' : World} {x : α} {cs : Array Value}, E S W x cs → KeptS S W W' → E S W' x cs
  more : ∀ {S S' : Nat → Prop} {W : World} {x : α} {cs : Array Value}, E S W x cs → (∀ b, S b → b < W.heap.size → S' b) → E S' W x cs
  size : ∀ {S : Nat → Prop} {W : World} {x : α} {cs : Array Value}, E S W x cs → cs.size = sz
/-- A slice that reads as a list. -/
def ListA {α : Type} (E : Enc α) (sz : Nat) (S : Nat → Prop) (W : World) (v : Value) (xs : List α) : Prop := ∃ (A : Option Addr) (c : Nat), v = .slice A xs.length c ∧ xs.length ≤ c ∧ c ≤ 9223372036854775807 ∧
  (xs ≠ [] → ∃ b off, A = some ⟨b, off, none⟩ ∧ S b ∧ ∀ (i : Nat) (x : α), xs[i]? = some x → ∃ cs : Array Value, E S W x cs ∧ ∀ (j : Nat) (u : Value), cs[j]? = some u → W.cell? ⟨b, off + i * sz + j, none⟩ = some u)
section
variable {α : Type} {E : Enc α} {sz : Nat} {S S' : Nat → Prop} {W W' : World} {v : Value} {xs : List α}
theorem ListA.kept (hE : E.Ok sz) (h : ListA E sz S W v xs) (hk : KeptS S W W') : ListA E sz S W' v xs := by
  obtain ⟨A, c, h1, h2, h3, h4⟩ := h
  refine ⟨A, c, h1, h2, h3, fun hn => ?_⟩
  obtain ⟨b, off, h5, h6, h7⟩ := h4 hn
  refine ⟨b, off, h5, h6, fun i x hx => ?_⟩
  obtain ⟨cs, h8, h9⟩ := h7 i x hx
  exact ⟨cs, hE.kept h8 hk, fun j u hu => hk _ _ h6 (h9 j u hu)⟩
theorem ListA.more (hE : E.Ok sz) (h0 : 0 < sz) (h : ListA E sz S W v xs) (hS : ∀ b, S b → b < W.heap.size → S' b) : ListA E sz S' W v xs := by
  obtain ⟨A, c, h1, h2, h3, h4⟩ := h
  refine ⟨A, c, h1, h2, h3, fun hn => ?_⟩
  obtain ⟨b, off, h5, h6, h7⟩ := h4 hn
  have hb : b < W.heap.size := by
    cases xs with
    | nil => exact absurd rfl hn
    | cons x l =>
      obtain ⟨cs, h8, h9⟩ := h7 0 x rfl
      have hsz := hE.size h8
      have := h9 0 _ (Array.getElem?_eq_getElem (by omega))
      exact cell_lt this
  refine ⟨b, off, h5, hS b h6 hb, fun i x hx => ?_⟩
  obtain ⟨cs, h8, h9⟩ := h7 i x hx
  exact ⟨cs, hE.more h8 hS, h9⟩
theorem ListA.slice (h : ListA E sz S W v xs) : ∃ (A : Option Addr) (c : Nat), v = .slice A xs.length c ∧ xs.length ≤ c ∧ c ≤ 9223372036854775807 := by
  obtain ⟨A, c, h1, h2, h3, _⟩ := h
  exact ⟨A, c, h1, h2, h3⟩
theorem ListA.at_ {A : Option Addr} {n c : Nat} (h : ListA E sz S W (.slice A n c) xs) {i : Nat} {x : α} (hx : xs[i]? = some x) :
    ∃ b off cs, A = some ⟨b, off, none⟩ ∧ S b ∧ E S W x cs ∧ ∀ (j : Nat) (u : Value), cs[j]? = some u → W.cell? ⟨b, off + i * sz + j, none⟩ = some u := by
  obtain ⟨A', c', e, h2, h3, h4⟩ := h
  injection e with e1 e2 e3
  subst e1
  obtain ⟨b, off, h5, h6, h7⟩ := h4 (by intro e; rw [e] at hx; simp at hx)
  obtain ⟨cs, h8, h9⟩ := h7 i x hx
  exact ⟨b, off, cs, h5, h6, h8, h9⟩
theorem ListA.nil_ (S : Nat → Prop) (W : World) : ListA E sz S W (.slice none 0 0) [] := ⟨none, 0, rfl, by simp, by simp, fun h => absurd rfl h⟩
end

/-! ### The things of a module -/
def EdgE : Enc Edg := fun _ _ e cs => cs = #[.int .i64 e.to, .int .i64 e.sh]
def NodE : Enc Nod := fun S W n cs => ∃ nv, cs = #[.int .i64 n.kind, .int .i64 n.prio, .bool n.ch, .int .i64 n.pay.to, .int .i64 n.pay.sh, nv] ∧ ListA EdgE 2 S W nv n.next
def ParE : Enc Par := fun _ _ p cs => cs = #[.bool p.ch, .int .i64 p.ty.to, .int .i64 p.ty.sh]
def IntE : Enc Int := fun _ _ z cs => cs = #[.int .i64 z]
def InsE : Enc Ins := fun S W x cs => ∃ lv, cs = #[.int .i64 x.op, .int .i64 x.a, .int .i64 x.b, .int .i64 x.c, .int .i64 x.d, lv] ∧ IntsA S W lv x.l
def TplE : Enc Tpl := fun S W t cs => ∃ pv cv av, cs = #[pv, cv, av] ∧ ListA ParE 3 S W pv t.params ∧ ListA InsE 6 S W cv t.code ∧ ListA IntE 1 S W av t.at_
def ArgE : Enc Arg := fun _ _ a cs => cs = #[.bool a.ch, .int .i64 a.word, .int .i64 a.end_]
def StaE : Enc Sta := fun S W s cs => ∃ av, cs = #[.int .i64 s.tpl, av] ∧ ListA ArgE 3 S W av s.args
def ModE : Enc Mo := fun S W m cs => ∃ v0 v1 v2 v3 v4 v5 v6 v7, cs = #[v0, v1, v2, v3, v4, v5, v6, v7] ∧ ListA NodE 6 S W v0 m.nodes ∧ ListA TplE 3 S W v1 m.tpls ∧ ListA EdgE 2 S W v2 m.chans ∧ ListA StaE 2 S W v3 m.starts ∧ ListA IntE 1 S W v4 m.at0 ∧ ListA IntE 1 S W v5 m.at1 ∧ ListA IntE 1 S W v6 m.at2 ∧ ListA IntE 1 S W v7 m.at3
theorem edg_ok : EdgE.Ok 2 := ⟨fun h _ => h, fun h _ => h, fun h => by rw [h]; rfl⟩
theorem par_ok : ParE.Ok 3 := ⟨fun h _ => h, fun h _ => h, fun h => by rw [h]; rfl⟩
theorem int_ok : IntE.Ok 1 := ⟨fun h _ => h, fun h _ => h, fun h => by rw [h]; rfl⟩
theorem arg_ok : ArgE.Ok 3 := ⟨fun h _ => h, fun h _ => h, fun h => by rw [h]; rfl⟩
theorem nod_ok : NodE.Ok 6 := ⟨fun ⟨nv, h1, h2⟩ hk => ⟨nv, h1, h2.kept edg_ok hk⟩, fun ⟨nv, h1, h2⟩ hk => ⟨nv, h1, h2.more edg_ok (by omega) hk⟩, fun ⟨_, h, _⟩ => by rw [h]; rfl⟩
theorem IntsA.keptS {S : Nat → Prop} {W W' : World} {v : Value} {zs : List Int} (h : IntsA S W v zs) (hk : KeptS S W W') : IntsA S W' v zs := by
  obtain ⟨A, c, h1, h2⟩ := h
  refine ⟨A, c, h1, fun hn => ?_⟩
  obtain ⟨b, off, h3, h4, h5⟩ := h2 hn
  exact ⟨b, off, h3, h4, fun i z hz => hk _ _ h4 (h5 i z hz)⟩
theorem IntsA.moreS {S S' : Nat → Prop} {W : World} {v : Value} {zs : List Int} (h : IntsA S W v zs) (hS : ∀ b, S b → b < W.heap.size → S' b) : IntsA S' W v zs := by
  obtain ⟨A, c, h1, h2⟩ := h
  refine ⟨A, c, h1, fun hn => ?_⟩
  obtain ⟨b, off, h3, h4, h5⟩ := h2 hn
  refine ⟨b, off, h3, hS b h4 ?_, h5⟩
  cases zs with
  | nil => exact absurd rfl hn
  | cons z _ => exact cell_lt (h5 0 z rfl)
theorem ins_ok : InsE.Ok 6 := ⟨fun ⟨nv, h1, h2⟩ hk => ⟨nv, h1, h2.keptS hk⟩, fun ⟨nv, h1, h2⟩ hk => ⟨nv, h1, h2.moreS hk⟩, fun ⟨_, h, _⟩ => by rw [h]; rfl⟩
theorem tpl_ok : TplE.Ok 3 := ⟨fun ⟨pv, cv, av, h1, h2, h3, h4⟩ hk => ⟨pv, cv, av, h1, h2.kept par_ok hk, h3.kept ins_ok hk, h4.kept int_ok hk⟩, fun ⟨pv, cv, av, h1, h2, h3, h4⟩ hk => ⟨pv, cv, av, h1, h2.more par_ok (by omega) hk, h3.more ins_ok (by omega) hk, h4.more int_ok (by omega) hk⟩, fun ⟨_, _, _, h, _⟩ => by rw [h]; rfl⟩
theorem sta_ok : StaE.Ok 2 := ⟨fun ⟨nv, h1, h2⟩ hk => ⟨nv, h1, h2.kept arg_ok hk⟩, fun ⟨nv, h1, h2⟩ hk => ⟨nv, h1, h2.more arg_ok (by omega) hk⟩, fun ⟨_, h, _⟩ => by rw [h]; rfl⟩
/-- Numbers of a list, as instructions have them. -/
theorem ListA.ints {S : Nat → Prop} {W : World} {v : Value} {zs : List Int} (h : ListA IntE 1 S W v zs) : IntsA S W v zs := by
  obtain ⟨A, c, h1, _, _, h4⟩ := h
  refine ⟨A, c, h1, fun hn => ?_⟩
  obtain ⟨b, off, h5, h6, h7⟩ := h4 hn
  refine ⟨b, off, h5, h6, fun i z hz => ?_⟩
  obtain ⟨cs, e, h9⟩ := h7 i z hz
  have e' : cs = #[.int .i64 z] := e
  subst e'
  have := h9 0 _ rfl
  rwa [Nat.add_zero, Nat.mul_one] at this
end Go.Proofs.YtohhojbeclbedaaGreatDoor

namespace Go.Proofs.YtohhojbeclbedaaGreatDoor
open Go.RowKit

def Keeps (w w' : World) : Prop := ∀ (a : Addr) (v : Value), w.cell? a = some v → w'.cell? a = some v
theorem Keeps.refl (w : World) : Keeps w w := fun _ _ h => h
theorem Keeps.trans {a b c : World} (h : Keeps a b) (k : Keeps b c) : Keeps a c := fun p v hp => k p v (h p v hp)
theorem KeepsCells.keeps {w w' : World} (h : KeepsCells w w') : Keeps w w' := fun _ _ hc => h.cell hc
theorem Keeps.grown {w w' : World} (h : w.grownBy w' none) : Keeps w w' := (KeepsCells.grown h).keeps
theorem Keeps.alloc (w : World) (o : Obj) : Keeps w (w.alloc o) := (KeepsCells.alloc w o).keeps
theorem Keeps.below {w w' : World} (h : Below w.heap.size w w') : Keeps w w' := fun a v hc => by
  have hlt : a.block < w.heap.size := by
    rcases Nat.lt_or_ge a.block w.heap.size with hl | hl
    · exact hl
    · unfold World.cell? at hc
      rw [Array.getElem?_eq_none hl] at hc
      simp at hc
  rw [h.cell hlt]; exact hc
theorem Keeps.drew {w w' : World} (h : Keeps w w') : Keeps w w'.drew := h

/-- A slice value that reads as a list of edges. -/
def Edges (w : World) (v : Value) (es : List Ed) : Prop := ∃ (A : Option Addr) (c : Nat), v = .slice A es.length c ∧ es.length ≤ 9223372036854775807 ∧
  (es ≠ [] → ∃ b off, A = some ⟨b, off, none⟩ ∧ ∀ i e, es[i]? = some e → w.cell? ⟨b, off + i * 2, none⟩ = some (.int .i64 e.1) ∧ w.cell? ⟨b, off + i * 2 + 1, none⟩ = some (.int .i64 e.2))
theorem Edges.keep {w w' : World} {v : Value} {es : List Ed} (h : Edges w v es) (hk : Keeps w w') : Edges w' v es := by
  obtain ⟨A, c, h1, hl, h2⟩ := h
  refine ⟨A, c, h1, hl, fun hn => ?_⟩
  obtain ⟨b, off, h3, h4⟩ := h2 hn
  exact ⟨b, off, h3, fun i e he => ⟨hk _ _ (h4 i e he).1, hk _ _ (h4 i e he).2⟩⟩
theorem Edges.nil_ (w : World) : Edges w (.slice none 0 0) [] := ⟨none, 0, rfl, by simp, fun h => absurd rfl h⟩

/-- A node's six cells. -/
def NdAt (w : World) (b off : Nat) (x : Nd) : Prop := ∃ v, Edges w v x.next ∧ w.cell? ⟨b, off, none⟩ = some (.int .i64 x.kind) ∧ w.cell? ⟨b, off + 1, none⟩ = some (.int .i64 x.prio) ∧ w.cell? ⟨b, off + 2, none⟩ = some (.bool x.chan) ∧
  w.cell? ⟨b, off + 3, none⟩ = some (.int .i64 x.pay.1) ∧ w.cell? ⟨b, off + 4, none⟩ = some (.int .i64 x.pay.2) ∧ w.cell? ⟨b, off + 5, none⟩ = some v
theorem NdAt.keep {w w' : World} {b off : Nat} {x : Nd} (h : NdAt w b off x) (hk : Keeps w w') : NdAt w' b off x := by
  obtain ⟨v, h0, h1, h2, h3, h4, h5, h6⟩ := h
  exact ⟨v, h0.keep hk, hk _ _ h1, hk _ _ h2, hk _ _ h3, hk _ _ h4, hk _ _ h5, hk _ _ h6⟩

/-- A slice value that reads as a table. -/
def Tbl (w : World) (v : Value) (xs : List Nd) : Prop := ∃ (A : Option Addr) (c : Nat), v = .slice A xs.length c ∧
  (xs ≠ [] → ∃ b off, A = some ⟨b, off, none⟩ ∧ ∀ i x, xs[i]? = some x → NdAt w b (off + i * 6) x)
theorem Tbl.keep {w w' : World} {v : Value} {xs : List Nd} (h : Tbl w v xs) (hk : Keeps w w') : Tbl w' v xs := by
  obtain ⟨A, c, h1, h2⟩ := h
  refine ⟨A, c, h1, fun hn => ?_⟩
  obtain ⟨b, off, h3, h4⟩ := h2 hn
  exact ⟨b, off, h3, fun i x he => (h4 i x he).keep hk⟩
theorem Tbl.nil_ (w : World) : Tbl w (.slice none 0 0) [] := ⟨none, 0, rfl, fun h => absurd rfl h⟩
end Go.Proofs.YtohhojbeclbedaaGreatDoor

namespace Go.Proofs.YtohhojbeclbedaaGreatDoor
open Go.RowKit

def AllOps (f : Nat → Oper → Prop) : List Oper → Nat → Prop
  | [], _ => True
  | o :: l, i => f i o ∧ AllOps f l (i + 1)
theorem AllOps.at_ {f : Nat → Oper → Prop} : ∀ {l : List Oper} {k : Nat}, AllOps f l k → ∀ (i : Nat) (o : Oper), l[i]? = some o → f (k + i) o
  | [], _, _, i, o, h => by simp at h
  | x :: l, k, ⟨h1, h2⟩, i, o, h => by
    cases i with
    | zero =>
      simp only [List.getElem?_cons_zero, Option.some.injEq] at h
      subst h
      exact h1
    | succ i =>
      rw [List.getElem?_cons_succ] at h
      have := AllOps.at_ h2 i o h
      rwa [show k + (i + 1) = k + 1 + i by omega]
theorem nodup_at {α β : Type} {f : α → Option β} : ∀ {l : List α} {i j : Nat} {x y : α} {t : β}, (l.filterMap f).Nodup → l[i]? = some x → l[j]? = some y → f x = some t → f y = some t → i = j
  | [], i, _, _, _, _, _, h, _, _, _ => by simp at h
  | z :: l, i, j, x, y, t, hn, hi, hj, hx, hy => by
    have mem : ∀ (k : Nat) (u : α), l[k]? = some u → f u = some t → t ∈ l.filterMap f := fun k u hk hu => List.mem_filterMap.2 ⟨u, List.mem_of_getElem? hk, hu⟩
    cases i with
    | zero =>
      simp only [List.getElem?_cons_zero, Option.some.injEq] at hi
      subst hi
      cases j with
      | zero => rfl
      | succ j =>
        rw [List.getElem?_cons_succ] at hj
        rw [List.filterMap_cons_some hx] at hn
        exact absurd (mem j y hj hy) (List.nodup_cons.1 hn).1
    | succ i =>
      rw [List.getElem?_cons_succ] at hi
      cases j with
      | zero =>
        simp only [List.getElem?_cons_zero, Option.some.injEq] at hj
        subst hj
        rw [List.filterMap_cons_some hy] at hn
        exact absurd (mem i x hi hx) (List.nodup_cons.1 hn).1
      | succ j =>
        rw [List.getElem?_cons_succ] at hj
        have hn' : (l.filterMap f).Nodup := by
          cases hz : f z with
          | none => rwa [List.filterMap_cons_none hz] at hn
          | some u => rw [List.filterMap_cons_some hz] at hn; exact (List.nodup_cons.1 hn).2
        rw [nodup_at hn' hi hj hx hy]
theorem lookup_mem {l : List (Nat × Value)} {t : Nat} {v : Value} (h : l.lookup t = some v) : (t, v) ∈ l := by
  induction l with
  | nil => cases h
  | cons q l ih =>
    obtain ⟨t', d'⟩ := q
    rw [List.lookup_cons] at h
    split at h
    · rename_i e
      simp only [Option.some.injEq] at h
      subst h
      rw [eq_of_beq e]
      exact List.mem_cons_self
    · exact List.mem_cons_of_mem _ (ih h)

/-- What an operation is in a region that makes two boxes. -/
inductive IsOp (P : Program) (vals : List (Tmp × Value)) (w : World) (x y : Bx) : Nat → Oper → Prop where
  | val {i : Nat} {o : Oper} (t : Tmp) (c : Value) : o.dst = some t → vals.lookup t = some c → (x.slot != t && y.slot != t && x.al != i && y.al != i && x.st != i && y.st != i) = true → OpVal P o vals w c → IsOp P vals w x y i o
  | al1 {i : Nat} {o : Oper} : x.al = i → o.op = .alloc x.ty → o.dst = some x.slot → IsOp P vals w x y i o
  | al2 {i : Nat} {o : Oper} : y.al = i → o.op = .alloc y.ty → o.dst = some y.slot → IsOp P vals w x y i o
  | st1 {i : Nat} {o : Oper} : x.st = i → o.op = .store x.ty (.tmp x.slot) (.tmp x.src) → o.dst = none → IsOp P vals w x y i o
  | st2 {i : Nat} {o : Oper} : y.st = i → o.op = .store y.ty (.tmp y.slot) (.tmp y.src) → o.dst = none → IsOp P vals w x y i o

theorem region_two {P : Program} {ops : Array Oper} {Q : Exit → Act → World → Prop} {id : Nat} {a : Act} {w : World} (hm : P.follows .mixedOrders = true) (hok : regOkB ops = true) (ds : List Tmp) (hds : dstsOf ops = ds) (hlt : (ds.all fun t => decide (t < a.tmps.size)) = true) (hnd : ds.Nodup)
    (vals : List (Tmp × Value)) (x y : Bx) (h0 : ∀ p ∈ vals, p.1 ∉ ds → a.tmps.getD p.1 undef = p.2)
    (hx : Boxed P x) (hy : Boxed P y) (hxs : vals.lookup x.src = some (.agg x.cs)) (hys : vals.lookup y.src = some (.agg y.cs))
    (hxn : (vals.lookup x.slot).isNone = true) (hyn : (vals.lookup y.slot).isNone = true)
    (hne : x.al ≠ y.al ∧ x.st ≠ y.st ∧ x.slot ≠ y.slot ∧ x.al ≠ x.st ∧ x.al ≠ y.st ∧ y.al ≠ x.st ∧ y.al ≠ y.st)
    (hax : (ops[x.al]?).bind (·.dst) = some x.slot) (hay : (ops[y.al]?).bind (·.dst) = some y.slot) (hsx : (ops[x.st]?).isSome = true) (hsy : (ops[y.st]?).isSome = true)
    (hops : AllOps (IsOp P vals w x y) ops.toList 0)
    (hQ : ∀ (vs : Tmp → Value) (W : World) (B1 B2 : Nat), w.grownBy W none → vs x.slot = .pointer (some ⟨B1, 0, none⟩) → vs y.slot = .pointer (some ⟨B2, 0, none⟩) → B1 ≠ B2 → w.heap.size ≤ B1 → w.heap.size ≤ B2 → Blk W B1 x.ty x.cs → Blk W B2 y.ty y.cs →
      Q .normal { a with tmps := ds.foldl (fun (ts : Array Value) t => ts.setIfInBounds t (vs t)) a.tmps } W) :
    (Code.region id ops true).wp P Q a w := by
  subst hds
  obtain ⟨oax, hoax, hdax⟩ := Option.bind_eq_some_iff.1 hax
  obtain ⟨oay, hoay, hday⟩ := Option.bind_eq_some_iff.1 hay
  obtain ⟨osx, hosx⟩ := Option.isSome_iff_exists.1 hsx
  obtain ⟨osy, hosy⟩ := Option.isSome_iff_exists.1 hsy
  obtain ⟨n1, n2, n3, n4, n5, n6, n7⟩ := hne
  have hu : ∀ (i j : Nat) (oi oj : Oper) (t : Tmp), ops[i]? = some oi → ops[j]? = some oj → oi.dst = some t → oj.dst = some t → i = j := fun i j oi oj t hi hj ei ej =>
    nodup_at hnd (by rw [Array.getElem?_toList]; exact hi) (by rw [Array.getElem?_toList]; exact hj) ei ej
  refine region_boxes hm hok hlt hu vals [x, y] (fun t v hv ht => h0 (t, v) (lookup_mem hv) ht) (fun i o ho => ?_) (fun z hz => ?_) (fun z hz t c e hl => ?_) (fun z hz u hu' => ?_) (fun vs W hg hv hb hap => ?_)
  · have h := hops.at_ i o (by rw [Array.getElem?_toList]; exact ho)
    rw [Nat.zero_add] at h
    cases h with
    | val t c h1 h2 h3 h4 =>
      simp only [Bool.and_eq_true, bne_iff_ne, ne_eq] at h3
      obtain ⟨⟨⟨⟨⟨a1, a2⟩, a3⟩, a4⟩, a5⟩, a6⟩ := h3
      refine .inl ⟨t, c, h1, h2, fun z hz => ?_, h4⟩
      simp only [List.mem_cons, List.not_mem_nil, or_false] at hz
      rcases hz with rfl | rfl
      · exact ⟨a1, a3, a5⟩
      · exact ⟨a2, a4, a6⟩
    | al1 h1 h2 h3 => exact .inr (.inl ⟨x, by simp, h1, h2, h3⟩)
    | al2 h1 h2 h3 => exact .inr (.inl ⟨y, by simp, h1, h2, h3⟩)
    | st1 h1 h2 h3 => exact .inr (.inr ⟨x, by simp, h1, h2, h3, oax, hoax, hdax⟩)
    | st2 h1 h2 h3 => exact .inr (.inr ⟨y, by simp, h1, h2, h3, oay, hoay, hday⟩)
  · simp only [List.mem_cons, List.not_mem_nil, or_false] at hz
    rcases hz with rfl | rfl
    · exact ⟨hx, hxs⟩
    · exact ⟨hy, hys⟩
  · simp only [List.mem_cons, List.not_mem_nil, or_false] at hz
    rcases hz with rfl | rfl
    · rw [e, hl] at hxn; cases hxn
    · rw [e, hl] at hyn; cases hyn
  · simp only [List.mem_cons, List.not_mem_nil, or_false] at hz hu'
    rcases hz with rfl | rfl <;> rcases hu' with rfl | rfl
    · exact ⟨fun _ => rfl, fun _ => rfl, fun _ => rfl, n4⟩
    · exact ⟨fun e => absurd e n1, fun e => absurd e n2, fun e => absurd e n3, n5⟩
    · exact ⟨fun e => absurd e.symm n1, fun e => absurd e.symm n2, fun e => absurd e.symm n3, n6⟩
    · exact ⟨fun _ => rfl, fun _ => rfl, fun _ => rfl, n7⟩
  · obtain ⟨B1, e1, w1, k1⟩ := hb x (by simp) ⟨_, hoax⟩ ⟨_, hosx⟩
    obtain ⟨B2, e2, w2, k2⟩ := hb y (by simp) ⟨_, hoay⟩ ⟨_, hosy⟩
    refine hQ vs W B1 B2 hg e1 e2 (fun e => ?_) w1 w2 k1 k2
    subst e
    exact hap x (by simp) y (by simp) n1 ⟨_, hoax⟩ ⟨_, hoay⟩ B1 e1 e2

/-! ### What single operations answer -/
section
variable {vals : List (Tmp × Value)} {w : World} {o : Oper}
theorem ov_move {t : Tmp} {c : Value} (ho : o.op = .move (.tmp t)) (hv : vals.lookup t = some c) : OpVal Tryz.prog o vals w c := fun b W _ hr => by
  have e := hr t c (by rw [ho]; simp [Op.operands]) hv
  obtain ⟨dst, op, type, pos, after, guard⟩ := o
  dsimp only at ho
  subst ho
  exact .inl (by simp only [execOp, e, Sem.run_pure])
end
end Go.Proofs.YtohhojbeclbedaaGreatDoor

namespace Go.Proofs.YtohhojbeclbedaaGreatDoor
open Go.RowKit

/-- What serves outside of a round serves in one. -/
theorem oper_in {l n : Nat} {P : Program} {o : Oper} {a : Act} {w : World} {next : Act → World → Prop} {Q : Exit → Act → World → Prop} (hd : ∀ c, o.op ≠ .defer c) (h : o.wp P a w next Q) : o.wpIn (Fence.wide.inRound l) n P a w next Q := by
  refine ⟨fun _ _ => trivial, ?_⟩
  rw [Fence.inRound_round, Oper.semAt_eq _ _ _ hd]
  unfold Oper.wp at h
  generalize (execOp a.eval o).run P w = r at h ⊢
  have hin : ∀ {f args W R}, Calls P f args W R → CallsIn (Fence.wide.inRound l) (n - 1) P f args W R := fun h => (callsIn_wide (n := n - 1)).2 h
  cases r with
  | ok x w' =>
    cases x with
    | value v => exact h
    | skip => exact h
    | defer d => exact h
    | enter f args => exact ⟨fun h => (by cases h), hin h⟩
    | row row args => exact ⟨fun h => (by cases h), fun c cs _ => by
        obtain ⟨v, w'', r, s⟩ := h c cs
        exact ⟨v, w'', r, stepsIn_wide.2 s⟩⟩
    | _ => exact h.elim
  | halt x w' => cases x <;> exact h

section
variable {F : Fence} {n : Nat} {P : Program} {ops : Array Oper} {Q : Exit → Act → World → Prop} {md : Region.Mode}
/-- All orders, by what holds between two operations, in a fence. -/
theorem wpAnyIn_inv (I : Array Bool → Act → World → Prop)
    (hstep : ∀ listed a w, listed.size = ops.size → I listed a w → ∀ i ∈ Region.ready md ops listed, wpOpIn F n P ops Q i (I (listed.setIfInBounds i true)) a w)
    (hdone : ∀ listed a w, listed.size = ops.size → I listed a w → Region.ready md ops listed = [] → Q .normal a w) :
    ∀ (fuel : Nat) (listed : Array Bool) (a : Act) (w : World), listed.size = ops.size → listed.toList.countP (! ·) ≤ fuel → I listed a w → wpAnyIn F n P md ops Q fuel listed a w
  | 0, listed, a, w, hs, hc, h => by
    have hr : Region.ready md ops listed = [] := by
      rw [List.eq_nil_iff_forall_not_mem]
      intro i hi
      obtain ⟨h0, _⟩ := mem_ready.1 hi
      rcases Nat.lt_or_ge i listed.size with hlt | hge
      · have h1 : listed[i] = false := by simpa [hlt] using h0
        have h2 : 0 < listed.toList.countP (! ·) := List.countP_pos_iff.2 ⟨false, by rw [← h1]; exact Array.getElem_mem_toList hlt, rfl⟩
        omega
      · simp [Array.getElem?_eq_none hge] at h0
    exact ⟨hr, hdone _ _ _ hs h hr⟩
  | fuel + 1, listed, a, w, hs, hc, h => by
    refine ⟨hdone _ _ _ hs h, fun i hi => wpOpIn_mono (fun a' w' h' => wpAnyIn_inv I hstep hdone fuel _ _ _ (by simpa using hs) ?_ h') (hstep _ _ _ hs h i hi)⟩
    obtain ⟨h0, _⟩ := mem_ready.1 hi
    rcases Nat.lt_or_ge i listed.size with hlt | hge
    · have h1 : listed.toList[i]? = some false := by
        have : listed[i] = false := by simpa [hlt] using h0
        rw [Array.getElem?_toList, Array.getElem?_eq_getElem hlt, this]
      have h2 := count_set h1
      rw [← Array.toList_setIfInBounds] at h2
      omega
    · simp [Array.getElem?_eq_none hge] at h0
end

/-- The chain's operations hang on one another. -/
def chainOk (ops : Array Oper) : List Nat → Bool
  | i :: k :: l => (match ops[k]? with | some o => o.after.toList.any fun e => Region.binds .any e && e.on == i | none => false) && chainOk ops (k :: l)
  | _ => true
theorem chainOk_at {ops : Array Oper} : ∀ {ch : List Nat} (j : Nat) {i k : Nat} {o : Oper}, chainOk ops ch = true → ch[j]? = some i → ch[j + 1]? = some k → ops[k]? = some o → ∃ e ∈ o.after, Region.binds .any e = true ∧ e.on = i
  | [], _, _, _, _, _, h, _, _ => by simp at h
  | [x], 0, _, _, _, _, _, h, _ => by simp at h
  | [x], j + 1, _, _, _, _, h, _, _ => by simp at h
  | x :: y :: l, 0, i, k, o, h, hi, hk, ho => by
    simp only [List.getElem?_cons_zero, Option.some.injEq] at hi
    simp only [Nat.zero_add, List.getElem?_cons_succ, List.getElem?_cons_zero, Option.some.injEq] at hk
    subst hi hk
    unfold chainOk at h
    rw [ho] at h
    simp only [Bool.and_eq_true, List.any_eq_true, beq_iff_eq] at h
    obtain ⟨⟨e, he, hb, hx⟩, _⟩ := h
    exact ⟨e, Array.mem_toList_iff.1 he, hb, hx⟩
  | x :: y :: l, j + 1, i, k, o, h, hi, hk, ho => by
    unfold chainOk at h
    simp only [Bool.and_eq_true] at h
    rw [List.getElem?_cons_succ] at hi hk
    exact chainOk_at j h.2 hi hk ho

/-- Each read is asked for by one of the chain. -/
def neededOk (ops : Array Oper) (ch : List Nat) : Bool := (List.range ops.size).all fun i => ch.contains i || ch.any fun k => match ops[k]? with | some o => o.after.toList.any fun e => Region.binds .any e && e.on == i | none => false
theorem neededOk_at {ops : Array Oper} {ch : List Nat} (h : neededOk ops ch = true) {i : Nat} (hi : i < ops.size) (hn : i ∉ ch) : ∃ k ∈ ch, ∃ o, ops[k]? = some o ∧ ∃ e ∈ o.after, Region.binds .any e = true ∧ e.on = i := by
  unfold neededOk at h
  rw [List.all_eq_true] at h
  have h1 := h i (List.mem_range.2 hi)
  simp only [Bool.or_eq_true, List.contains_iff_mem, List.any_eq_true] at h1
  rcases h1 with h1 | ⟨k, hk, h2⟩
  · exact absurd h1 hn
  · cases ho : ops[k]? with
    | none => rw [ho] at h2; cases h2
    | some o =>
      rw [ho] at h2
      simp only [List.any_eq_true, Bool.and_eq_true, beq_iff_eq] at h2
      obtain ⟨e, he, hb, hx⟩ := h2
      exact ⟨k, hk, o, ho, e, Array.mem_toList_iff.1 he, hb, hx⟩

theorem region_chain {l n : Nat} {P : Program} {ops : Array Oper} {Q : Exit → Act → World → Prop} {id : Nat} {a : Act} {w : World} (hm : P.follows .mixedOrders = true) (hok : regOkB ops = true) (hdef : (ops.toList.all fun o => match o.op with | .defer _ => false | _ => true) = true) (ds : List Tmp) (hds : dstsOf ops = ds) (hlt : (ds.all fun t => decide (t < a.tmps.size)) = true) (hdn : ds.Nodup)
    (vals : List (Tmp × Value)) (h0 : ∀ p ∈ vals, p.1 ∉ ds → a.tmps.getD p.1 undef = p.2)
    (ch : List Nat) (hch : chainOk ops ch = true) (hnee : neededOk ops ch = true) (hnd : ch.Nodup) (hin : (ch.all fun i => decide (i < ops.size)) = true)
    (T : Nat → (Tmp → Value) → World → Prop) (hT : ∀ j f g W, T j f W → (∀ (k i : Nat) (o : Oper) (t : Tmp), k < j → ch[k]? = some i → ops[i]? = some o → o.dst = some t → f t = g t) → T j g W)
    (hreads : ∀ (i : Nat) (o : Oper), ops[i]? = some o → i ∉ ch → ∃ t c, o.dst = some t ∧ vals.lookup t = some c ∧ ∀ j f (b : Act) W, j < ch.length → T j f W → (∀ t v, Operand.tmp t ∈ o.op.operands → vals.lookup t = some v → b.eval (.tmp t) = v) → (execOp b.eval o).run P W = .ok (.value c) W)
    (hsteps : ∀ (j i : Nat) (o : Oper), ch[j]? = some i → ops[i]? = some o → (∀ t, o.dst = some t → vals.lookup t = none) ∧ ∀ (b : Act) W, b.tmps.size = a.tmps.size → T j (fun t => b.tmps.getD t undef) W → (∀ t v, Operand.tmp t ∈ o.op.operands → vals.lookup t = some v → b.eval (.tmp t) = v) →
      o.wp P b W (fun b' W' => ∃ x, b' = b.put o.dst x ∧ T (j + 1) (fun t => (b.put o.dst x).tmps.getD t undef) W') Q)
    (hT0 : T 0 (fun t => a.tmps.getD t undef) w.drew)
    (hQ : ∀ (vs : Tmp → Value) (W : World), (∀ t v, vals.lookup t = some v → t ∈ ds → vs t = v) → T ch.length vs W →
      Q .normal { a with tmps := ds.foldl (fun (ts : Array Value) t => ts.setIfInBounds t (vs t)) a.tmps } W) :
    (Code.region id ops true).wpIn (Fence.wide.inRound l) n P Q a w := by
  subst hds
  have hu : ∀ (i j : Nat) (oi oj : Oper) (t : Tmp), ops[i]? = some oi → ops[j]? = some oj → oi.dst = some t → oj.dst = some t → i = j := fun i j oi oj t hi hj ei ej =>
    nodup_at hdn (by rw [Array.getElem?_toList]; exact hi) (by rw [Array.getElem?_toList]; exact hj) ei ej
  have hdl : ∀ t ∈ dstsOf ops, t < a.tmps.size := fun t ht => by simpa using List.all_eq_true.1 hlt t ht
  have chlt : ∀ (j j' i : Nat), ch[j]? = some i → ch[j']? = some i → j = j' := fun j j' i h1 h2 => by
    obtain ⟨l1, e1⟩ := List.getElem?_eq_some_iff.1 h1
    obtain ⟨l2, e2⟩ := List.getElem?_eq_some_iff.1 h2
    exact (List.getElem_inj hnd).1 (e1.trans e2.symm)
  refine wpIn_region_any hm (wpAnyIn_inv (fun listed b W => b.defers = a.defers ∧ b.tmps.size = a.tmps.size ∧ (∀ t, t ∉ dstsOf ops → b.tmps[t]? = a.tmps[t]?) ∧
    (∀ (i : Nat) (o : Oper) (t : Tmp) (c : Value), listed.getD i false = true → ops[i]? = some o → o.dst = some t → vals.lookup t = some c → b.tmps.getD t undef = c) ∧
    (∀ (k : Nat) (o : Oper) (e : Edge), listed.getD k false = true → ops[k]? = some o → e ∈ o.after → Region.binds .any e = true → listed.getD e.on false = true) ∧
    ∃ j, j ≤ ch.length ∧ (∀ k i, ch[k]? = some i → i < ops.size → (listed.getD i false = true ↔ k < j)) ∧ T j (fun t => b.tmps.getD t undef) W) ?_ ?_ ops.size _ _ _ (by simp) (by
      have := List.countP_le_length (p := (! ·)) (l := (Array.replicate ops.size false).toList)
      simpa using this) ?_)
  · rintro listed b W hs ⟨i2, i3, i4, i5, i7, j, hjl, i6, hTj⟩ i hi
    obtain ⟨hni, o, ho, hall⟩ := mem_ready.1 hi
    have hil : i < ops.size := (Array.getElem?_eq_some_iff.1 ho).1
    have hni' : listed.getD i false = false := by
      have hl : i < listed.size := by omega
      simpa [hl] using hni
    obtain ⟨g1, g2, g3⟩ := regOkB_at hok ho
    have henv : ∀ t v, Operand.tmp t ∈ o.op.operands → vals.lookup t = some v → b.eval (.tmp t) = v := fun t v ht hv => by
      unfold depsOk at g3
      rw [List.all_eq_true] at g3
      have h1 := g3 (.tmp t) (Array.mem_toList_iff.2 ht)
      simp only [Bool.or_eq_true, List.all_eq_true, List.any_eq_true, Bool.and_eq_true, bne_iff_ne, ne_eq, beq_iff_eq] at h1
      rcases h1 with h1 | ⟨e, he, hb, hx⟩
      · have h4 : t ∉ dstsOf ops := fun hm => by
          obtain ⟨i, oi, hi, e⟩ := mem_dsts.1 hm
          exact h1 oi (List.mem_iff_getElem?.2 ⟨i, by rw [Array.getElem?_toList]; exact hi⟩) e
        have h5 := i4 t h4
        show b.tmps.getD t undef = v
        rw [Array.getD_eq_getD_getElem?, h5, ← Array.getD_eq_getD_getElem?]
        exact h0 (t, v) (lookup_mem hv) h4
      · obtain ⟨oj, hoj, e1⟩ := Option.bind_eq_some_iff.1 hx
        exact i5 e.on oj t v (hall e (Array.mem_toList_iff.1 he) hb) hoj e1 hv
    have hset : ∀ j, i ≠ j → (listed.setIfInBounds i true).getD j false = listed.getD j false := fun j hij => getD_set_ne false hij
    have hseti : (listed.setIfInBounds i true).getD i false = true := getD_set_at (by omega)
    have hnd' : ∀ c, o.op ≠ .defer c := fun c e => by
      rw [List.all_eq_true] at hdef
      have := hdef o (List.mem_iff_getElem?.2 ⟨i, by rw [Array.getElem?_toList]; exact ho⟩)
      rw [e] at this
      cases this
    unfold wpOpIn
    simp only [ho]
    rw [if_pos (by simp [Region.wanted, g1])]
    have other : ∀ (x : Value) (t' : Tmp), o.dst ≠ some t' → (b.put o.dst x).tmps[t']? = b.tmps[t']? := fun x t' hne => by
      cases hd : o.dst with
      | none => rfl
      | some t =>
        rw [hd] at hne
        simp only [Act.put]
        rw [Array.getElem?_setIfInBounds_ne (fun e => hne (by rw [e]))]
    have otherD : ∀ (x : Value) (t' : Tmp), o.dst ≠ some t' → (b.put o.dst x).tmps.getD t' undef = b.tmps.getD t' undef := fun x t' hne => by
      rw [Array.getD_eq_getD_getElem?, other x t' hne, ← Array.getD_eq_getD_getElem?]
    have basic : ∀ x : Value, (b.put o.dst x).defers = a.defers ∧ (b.put o.dst x).tmps.size = a.tmps.size ∧ (∀ t, t ∉ dstsOf ops → (b.put o.dst x).tmps[t]? = a.tmps[t]?) := fun x => by
      refine ⟨?_, ?_, fun t ht => ?_⟩
      · cases o.dst <;> exact i2
      · cases o.dst <;> simp [Act.put, i3]
      · rw [other x t (fun e => ht (mem_dsts.2 ⟨i, o, ho, e⟩))]
        exact i4 t ht
    have closed : ∀ (k : Nat) (ok : Oper) (e : Edge), (listed.setIfInBounds i true).getD k false = true → ops[k]? = some ok → e ∈ ok.after → Region.binds .any e = true → (listed.setIfInBounds i true).getD e.on false = true := fun k ok e hl hok he hb => by
      by_cases hie : i = e.on
      · rw [← hie]; exact hseti
      · rw [hset _ hie]
        by_cases hik : i = k
        · subst hik
          rw [ho] at hok
          obtain rfl := Option.some.inj hok
          exact hall e he hb
        · rw [hset _ hik] at hl
          exact i7 k ok e hl hok he hb
    by_cases hmem : i ∈ ch
    · obtain ⟨j', hj'⟩ := List.mem_iff_getElem?.1 hmem
      have hjj : ¬ j' < j := fun h => by
        have := (i6 j' i hj' hil).2 h
        rw [hni'] at this
        cases this
      have hej : j' = j := by
        rcases Nat.lt_or_ge j j' with h | h
        · obtain ⟨m, rfl⟩ : ∃ m, j' = m + 1 := ⟨j' - 1, by omega⟩
          have hml : m < ch.length := by have := (List.getElem?_eq_some_iff.1 hj').1; omega
          obtain ⟨k, hk⟩ : ∃ k, ch[m]? = some k := ⟨_, List.getElem?_eq_getElem hml⟩
          obtain ⟨e, he, hb, hx⟩ := chainOk_at m hch hk hj' ho
          have hon := hall e he hb
          rw [hx] at hon
          have hkl : k < ops.size := by
            rcases Nat.lt_or_ge k ops.size with h' | h'
            · exact h'
            · have hk2 : ¬ k < listed.size := by omega
              simp [Array.getD_eq_getD_getElem?, hk2] at hon
          have := (i6 m k hk hkl).1 hon
          omega
        · omega
      subst hej
      obtain ⟨hv, hstep⟩ := hsteps j' i o hj' ho
      refine oper_in hnd' (Oper.wp_mono ?_ (hstep b W i3 hTj henv))
      rintro b' W' ⟨x, rfl, hT'⟩
      refine ⟨(basic x).1, (basic x).2.1, (basic x).2.2, fun m om t' c' hl hom e1 e2 => ?_, closed, j' + 1, (List.getElem?_eq_some_iff.1 hj').1, fun k m hk hm => ?_, hT'⟩
      · have hne : o.dst ≠ some t' := fun e => by rw [hv t' e] at e2; cases e2
        have him : i ≠ m := fun e => by subst e; rw [ho] at hom; cases hom; exact hne e1
        rw [hset m him] at hl
        rw [otherD x t' hne]
        exact i5 m om t' c' hl hom e1 e2
      · by_cases him : i = m
        · subst him
          have := chlt _ _ _ hj' hk
          exact ⟨fun _ => by omega, fun _ => hseti⟩
        · rw [hset m him, i6 k m hk hm]
          have : k ≠ j' := fun e => by subst e; rw [hj'] at hk; exact him (Option.some.inj hk)
          omega
    · obtain ⟨t, c, b1, b2, b3⟩ := hreads i o ho hmem
      refine oper_in hnd' ?_
      unfold Oper.wp
      have hjlt : j < ch.length := by
        rcases Nat.lt_or_ge j ch.length with h | h
        · exact h
        · obtain ⟨k, hk, ok, hok', e, he, hb, hx⟩ := neededOk_at hnee hil hmem
          obtain ⟨m, hm'⟩ := List.mem_iff_getElem?.1 hk
          have hml := (List.getElem?_eq_some_iff.1 hm').1
          have hkl := (i6 m k hm' (Array.getElem?_eq_some_iff.1 hok').1).2 (by omega)
          have := i7 k ok e hkl hok' he hb
          rw [hx, hni'] at this
          cases this
      rw [b3 j _ b W hjlt hTj henv, Oper.upon_value]
      refine ⟨(basic c).1, (basic c).2.1, (basic c).2.2, fun m om t' c' hl hom e1 e2 => ?_, closed, j, hjl, fun k m hk hm => ?_, hT _ _ _ _ hTj fun k m om t' hkj hk hom e1 => ?_⟩
      · by_cases him : i = m
        · subst him
          rw [ho] at hom
          obtain rfl := Option.some.inj hom
          rw [b1] at e1
          obtain rfl := Option.some.inj e1
          rw [b2] at e2
          obtain rfl := Option.some.inj e2
          have : t < b.tmps.size := by rw [i3]; exact hdl t (mem_dsts.2 ⟨i, o, ho, b1⟩)
          rw [b1]
          simp [Act.put, this]
        · have hne : o.dst ≠ some t' := fun e => him (hu i m o om t' ho hom e e1)
          rw [hset m him] at hl
          rw [otherD c t' hne]
          exact i5 m om t' c' hl hom e1 e2
      · have him : i ≠ m := fun e => by subst e; exact hmem (List.mem_of_getElem? hk)
        rw [hset m him]
        exact i6 k m hk hm
      · have hne : o.dst ≠ some t' := fun e => by
          have := hu i m o om t' ho hom e e1
          subst this
          exact hmem (List.mem_of_getElem? hk)
        exact (otherD c t' hne).symm
  · rintro listed b W hs ⟨i2, i3, i4, i5, i7, j, hjl, i6, hTj⟩ hr
    have hl := all_listedB hok hs hr
    have hlo : ∀ {i o}, ops[i]? = some o → listed.getD i false = true := fun h => hl _ (Array.getElem?_eq_some_iff.1 h).1
    have hj : j = ch.length := by
      rcases Nat.lt_or_ge j ch.length with h | h
      · obtain ⟨i, hi⟩ : ∃ i, ch[j]? = some i := ⟨_, List.getElem?_eq_getElem h⟩
        have hil : i < ops.size := by simpa using List.all_eq_true.1 hin i (List.mem_of_getElem? hi)
        have := (i6 j i hi hil).1 (hl _ hil)
        omega
      · omega
    subst hj
    have hb : b = { a with tmps := (dstsOf ops).foldl (fun (ts : Array Value) t => ts.setIfInBounds t (b.tmps.getD t undef)) a.tmps } := by
      obtain ⟨bt, bd⟩ := b
      obtain ⟨at_, ad⟩ := a
      simp only [Act.mk.injEq]
      refine ⟨?_, i2⟩
      apply Array.ext_getElem?
      intro t
      dsimp only at i3 i4
      rw [foldSet]
      by_cases h1 : t ∈ dstsOf ops
      · by_cases h2 : t < at_.size
        · have : t < bt.size := by omega
          simp [h1, h2, this]
        · simp [h2, i3]
      · simp only [h1, false_and, if_false]
        exact i4 t h1
    rw [hb]
    refine hQ (fun t => b.tmps.getD t undef) W (fun t v hv ht => ?_) hTj
    obtain ⟨i, o, ho, e⟩ := mem_dsts.1 ht
    exact i5 i o t v (hlo ho) ho e hv
  · have hno : ∀ j, (Array.replicate ops.size false).getD j false = false := fun j => by
      simp only [Array.getD_eq_getD_getElem?, Array.getElem?_replicate]
      split <;> rfl
    refine ⟨rfl, rfl, fun _ _ => rfl, fun i o t d hl => ?_, fun k o e hl => ?_, 0, Nat.zero_le _, fun k i _ _ => ?_, hT0⟩
    · rw [hno] at hl; cases hl
    · rw [hno] at hl; cases hl
    · rw [hno]; simp
end Go.Proofs.YtohhojbeclbedaaGreatDoor

namespace Go.Proofs.YtohhojbeclbedaaGreatDoor
open Go.RowKit

/-- The chapter's module, as it is read. -/
def leastM : Mo := ⟨[⟨0, 0, false, ⟨0, 0⟩, []⟩], [⟨[], [⟨24, 0, 0, 0, 0, []⟩], [14]⟩], [], [⟨0, []⟩], [8], [12], [], [19]⟩
theorem read_least : readT 7 11 17 [1, 0] [1, 0, 1, 24] [0, 1, 0, 0] = .ok leastM := by kernel_rfl
theorem read_mul : readT 7 11 17 [1, 0] [1, 0, 1, 6] [0, 1, 0, 0] = .ok ⟨[⟨0, 0, false, ⟨0, 0⟩, []⟩], [⟨[], [⟨6, 0, 0, 0, 0, []⟩], [14]⟩], [], [⟨0, []⟩], [8], [12], [], [19]⟩ := by kernel_rfl
theorem read_25 : readT 7 11 17 [1, 0] [1, 0, 1, 25] [0, 1, 0, 0] = .flt 11 14 := by kernel_rfl
theorem read_3 : readT 7 11 17 [1, 3] [1, 0, 1, 24] [0, 1, 0, 0] = .flt 3 9 := by kernel_rfl
theorem joined_l (a b : UInt8) : joined [1, a] [1, 0, 1, b] [0, 1, 0, 0] = [67, 76, 81, 89, 1, 1, 2, 1, a, 2, 4, 1, 0, 1, b, 3, 4, 0, 1, 0, 0] := by
  unfold joined sec
  have e2 : sev 2 = [2] := sev_2
  have e4 : sev 4 = [4] := by rw [sev_lt (by omega)]; rfl
  simp [hd5, e2, e4]
theorem parts_l (a b : UInt8) : (partsOf [1, a] [1, 0, 1, b] [0, 1, 0, 0]).p1 = 7 ∧ (partsOf [1, a] [1, 0, 1, b] [0, 1, 0, 0]).p2 = 11 ∧ (partsOf [1, a] [1, 0, 1, b] [0, 1, 0, 0]).p3 = 17 := by
  have e2 : sev 2 = [2] := sev_2
  have e4 : sev 4 = [4] := by rw [sev_lt (by omega)]; rfl
  simp [partsOf, e2, e4]
end Go.Proofs.YtohhojbeclbedaaGreatDoor

/- Texts joined for the claim's sake: GNod, GTab. -/
import Derived.Test.YtmhbmeckdbdhpaaZSKnwRow0
namespace Go.Proofs.Ytmhbmeckdbdhpaa
open Go.RowKit

/-- An edge (to, shift), or a type (node, offset). -/
abbrev Ed := Int × Int
structure Nd where
  kind : Int
  prio : Int
  chan : Bool
  pay : Ed
  next : List Ed

def withinB (n lo hi : Int) : Bool := decide (lo ≤ n) && decide (n ≤ hi)
def leastN (k : Int) : Int := if k = 0 then 0 else 1
def mostN (k : Int) : Int := if k = 0 then 0 else if k = 3 ∨ k = 4 then 8 else 1
def paysB (k : Int) : Bool := decide (k = 1 ∨ k = 2)
def mostP (k : Int) : Int := if k = 1 ∨ k = 2 ∨ k = 3 ∨ k = 4 then 1000 else 0
def kindB (k : Int) : Bool := withinB k 0 5
def payB (x : Nd) (pays : Bool) : Bool := if x.chan then pays else decide (x.pay = (0, 0))
def edgesL (x : Nd) : List Ed := (if x.chan then [x.pay] else []) ++ x.next
def headB (x : Nd) : Bool := kindB x.kind && withinB x.next.length (leastN x.kind) (mostN x.kind) && withinB x.prio 0 (mostP x.kind) && payB x (paysB x.kind)
def shiftB (e : Ed) : Bool := withinB e.2 0 1000
def shapeB (x : Nd) : Bool := headB x && (edgesL x).all shiftB
def nodeB (n : Nat) (i : Int) : Bool := withinB i 0 ((n : Int) - 1)
def inB (n : Nat) (e : Ed) : Bool := nodeB n e.1
/-- What is wrong with a node by itself: 0, 7 or 8. -/
def illN (n : Nat) (x : Nd) : Int := if shapeB x then (if (edgesL x).all (inB n) then 0 else 8) else 7
def firstIll (n : Nat) : List Nd → Nat → Int × Int
  | [], _ => (0, 0)
  | x :: xs, k => if illN n x = 0 then firstIll n xs (k + 1) else ((k : Int), illN n x)

def nodeAt (xs : List Nd) (i : Int) : Option Nd := if 0 ≤ i then xs[i.toNat]? else none
def onlyNext (x : Nd) : Option Ed := if x.kind = 5 then (match x.next with | [e] => some e | _ => none) else none
def stepT (t e : Ed) : Ed := (e.1, wrap64 (t.2 + e.2))
/-- The way of a type, as far as the table is long. -/
def wayL (xs : List Nd) : Nat → Ed → List Ed
  | 0, _ => []
  | f + 1, t => match nodeAt xs t.1 with
    | none => []
    | some x => t :: (match onlyNext x with | some e => wayL xs f (stepT t e) | none => [])
def isAl (xs : List Nd) (t : Ed) : Bool := match nodeAt xs t.1 with | some x => decide (x.kind = 5) | none => false
def pickL (xs : List Nd) : List Ed → Ed
  | [] => (-1, 0)
  | t :: ts => if isAl xs t then pickL xs ts else t
def resolveL (xs : List Nd) (t : Ed) : Ed := pickL xs (wayL xs xs.length t)
/-- Whether the way of node i comes to nothing. -/
def lostB (xs : List Nd) (i : Nat) : Bool := (wayL xs xs.length ((i : Int), 0)).all (isAl xs)
/-- From node k on, f nodes. -/
def firstLost (xs : List Nd) : Nat → Nat → Int
  | 0, _ => -1
  | f + 1, k => if lostB xs k then (k : Int) else firstLost xs f (k + 1)
def checkL (xs : List Nd) : Int × Int :=
  if xs.length = 0 then (-1, 2)
  else if 64 < xs.length then (-1, 4)
  else if (firstIll xs.length xs 0).2 = 0 then
    (if firstLost xs xs.length 0 < 0 then (-1, 0) else (firstLost xs xs.length 0, 9))
  else firstIll xs.length xs 0

theorem nodeAt_some {xs : List Nd} {i : Int} {x : Nd} (h : nodeAt xs i = some x) : 0 ≤ i ∧ i < xs.length ∧ xs[i.toNat]? = some x := by
  unfold nodeAt at h
  by_cases hi : 0 ≤ i
  · rw [if_pos hi] at h
    have := (List.getElem?_eq_some_iff.1 h).1
    exact ⟨hi, by omega, h⟩
  · rw [if_neg hi] at h; cases h
theorem nodeAt_none {xs : List Nd} {i : Int} (h : nodeAt xs i = none) : nodeB xs.length i = false := by
  unfold nodeAt at h
  by_cases hi : 0 ≤ i
  · rw [if_pos hi] at h
    have := List.getElem?_eq_none_iff.1 h
    simp [nodeB, withinB]
    omega
  · simp [nodeB, withinB]; omega
theorem nodeB_true {n : Nat} {i : Int} : nodeB n i = true ↔ 0 ≤ i ∧ i < n := by
  simp [nodeB, withinB]; omega
theorem nodeAt_nat {xs : List Nd} {i : Nat} : nodeAt xs (i : Int) = xs[i]? := by
  unfold nodeAt
  rw [if_pos (by omega)]
  simp
theorem nodeAt_of {xs : List Nd} {i : Int} (h : nodeB xs.length i = true) : ∃ x, nodeAt xs i = some x ∧ xs[i.toNat]? = some x := by
  have := nodeB_true.1 h
  unfold nodeAt
  rw [if_pos this.1]
  have hl : i.toNat < xs.length := by omega
  exact ⟨xs[i.toNat], List.getElem?_eq_getElem hl, List.getElem?_eq_getElem hl⟩
theorem pickL_nil_of_all {xs : List Nd} {L : List Ed} (h : L.all (isAl xs) = true) : pickL xs L = (-1, 0) := by
  induction L with
  | nil => rfl
  | cons t L ih =>
    simp only [List.all_cons, Bool.and_eq_true] at h
    simp only [pickL, h.1, if_true]
    exact ih h.2
theorem pickL_at {xs : List Nd} {pre rest : List Ed} {t : Ed} (h : pre.all (isAl xs) = true) (ht : isAl xs t = false) : pickL xs (pre ++ t :: rest) = t := by
  induction pre with
  | nil => simp [pickL, ht]
  | cons s pre ih =>
    simp only [List.all_cons, Bool.and_eq_true] at h
    simp only [List.cons_append, pickL, h.1, if_true]
    exact ih h.2
end Go.Proofs.Ytmhbmeckdbdhpaa

namespace Go.Proofs.Ytmhbmeckdbdhpaa
open Go.RowKit

def Keeps (w w' : World) : Prop := ∀ (a : Addr) (v : Value), w.cell? a = some v → w'.cell? a = some v
theorem Keeps.refl (w : World) : Keeps w w := fun _ _ h => h
theorem Keeps.trans {a b c : World} (h : Keeps a b) (k : Keeps b c) : Keeps a c := fun p v hp => k p v (h p v hp)
theorem KeepsCells.keeps {w w' : World} (h : KeepsCells w w') : Keeps w w' := fun _ _ hc => h.cell hc
theorem Keeps.grown {w w' : World} (h : w.grownBy w' none) : Keeps w w' := (KeepsCells.grown h).keeps
theorem Keeps.alloc (w : World) (o : Obj) : Keeps w (w.alloc o) := (KeepsCells.alloc w o).keeps
theorem Keeps.below {w w' : World} (h : Below w.heap.size w w') : Keeps w w' := fun a v hc => by
  have hlt : a.block < w.heap.size := by
    rcases Nat.lt_or_ge a.block w.heap.size with hl | hl
    · exact hl
    · unfold World.cell? at hc
      rw [Array.getElem?_eq_none hl] at hc
      simp at hc
  rw [h.cell hlt]; exact hc
theorem cell_lt {w : World} {a : Addr} {v : Value} (hc : w.cell? a = some v) : a.block < w.heap.size := by
  rcases Nat.lt_or_ge a.block w.heap.size with hl | hl
  · exact hl
  · unfold World.cell? at hc
    rw [Array.getElem?_eq_none hl] at hc
    simp at hc
theorem Keeps.setNew {w w' : World} (h : Keeps w w') {p : Addr} (hp : w.heap.size ≤ p.block) (u : Value) : Keeps w (w'.setCell p u) := fun a v hc => by
  have hl := cell_lt hc
  rw [World.cell?_setCell_other w' p a u (fun e => by subst e; omega)]
  exact h a v hc
theorem Keeps.drew {w w' : World} (h : Keeps w w') : Keeps w w'.drew := h

abbrev edV (e : Ed) : Value := .agg #[.int .i64 e.1, .int .i64 e.2]
abbrev edCells (e : Ed) : Array Value := #[.int .i64 e.1, .int .i64 e.2]
abbrev ndCells (x : Nd) (v : Value) : Array Value := #[.int .i64 x.kind, .int .i64 x.prio, .bool x.chan, .int .i64 x.pay.1, .int .i64 x.pay.2, v]
abbrev ndV (x : Nd) (v : Value) : Value := .agg #[.int .i64 x.kind, .int .i64 x.prio, .bool x.chan, .int .i64 x.pay.1, .int .i64 x.pay.2, v]

/-- A slice value that reads as a list of edges. -/
def Edges (w : World) (v : Value) (es : List Ed) : Prop := ∃ (A : Option Addr) (c : Nat), v = .slice A es.length c ∧ es.length ≤ 9223372036854775807 ∧
  (es ≠ [] → ∃ b off, A = some ⟨b, off, none⟩ ∧ ∀ i e, es[i]? = some e → w.cell? ⟨b, off + i * 2, none⟩ = some (.int .i64 e.1) ∧ w.cell? ⟨b, off + i * 2 + 1, none⟩ = some (.int .i64 e.2))
theorem Edges.keep {w w' : World} {v : Value} {es : List Ed} (h : Edges w v es) (hk : Keeps w w') : Edges w' v es := by
  obtain ⟨A, c, h1, hl, h2⟩ := h
  refine ⟨A, c, h1, hl, fun hn => ?_⟩
  obtain ⟨b, off, h3, h4⟩ := h2 hn
  exact ⟨b, off, h3, fun i e he => ⟨hk _ _ (h4 i e he).1, hk _ _ (h4 i e he).2⟩⟩
theorem Edges.nil_ (w : World) : Edges w (.slice none 0 0) [] := ⟨none, 0, rfl, by simp, fun h => absurd rfl h⟩

/-- A node's six cells. -/
def NdAt (w : World) (b off : Nat) (x : Nd) : Prop := ∃ v, Edges w v x.next ∧ w.cell? ⟨b, off, none⟩ = some (.int .i64 x.kind) ∧ w.cell? ⟨b, off + 1, none⟩ = some (.int .i64 x.prio) ∧ w.cell? ⟨b, off + 2, none⟩ = some (.bool x.chan) ∧
  w.cell? ⟨b, off + 3, none⟩ = some (.int .i64 x.pay.1) ∧ w.cell? ⟨b, off + 4, none⟩ = some (.int .i64 x.pay.2) ∧ w.cell? ⟨b, off + 5, none⟩ = some v
theorem NdAt.keep {w w' : World} {b off : Nat} {x : Nd} (h : NdAt w b off x) (hk : Keeps w w') : NdAt w' b off x := by
  obtain ⟨v, h0, h1, h2, h3, h4, h5, h6⟩ := h
  exact ⟨v, h0.keep hk, hk _ _ h1, hk _ _ h2, hk _ _ h3, hk _ _ h4, hk _ _ h5, hk _ _ h6⟩

/-- A slice value that reads as a table. -/
def Tbl (w : World) (v : Value) (xs : List Nd) : Prop := ∃ (A : Option Addr) (c : Nat), v = .slice A xs.length c ∧
  (xs ≠ [] → ∃ b off, A = some ⟨b, off, none⟩ ∧ ∀ i x, xs[i]? = some x → NdAt w b (off + i * 6) x)
theorem Tbl.keep {w w' : World} {v : Value} {xs : List Nd} (h : Tbl w v xs) (hk : Keeps w w') : Tbl w' v xs := by
  obtain ⟨A, c, h1, h2⟩ := h
  refine ⟨A, c, h1, fun hn => ?_⟩
  obtain ⟨b, off, h3, h4⟩ := h2 hn
  exact ⟨b, off, h3, fun i x he => (h4 i x he).keep hk⟩
theorem Tbl.nil_ (w : World) : Tbl w (.slice none 0 0) [] := ⟨none, 0, rfl, fun h => absurd rfl h⟩
end Go.Proofs.Ytmhbmeckdbdhpaa

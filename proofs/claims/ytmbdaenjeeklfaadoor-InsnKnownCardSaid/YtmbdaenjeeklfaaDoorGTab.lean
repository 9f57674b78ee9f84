/- Tables of types in memory: edges, nodes, tables, as they read; and that they read so as long as cells lie as they lay. -/
import Derived.Test.YtmbdaenjeeklfaaDoorGLaw
import Derived.Test.YtmbdaenjeeklfaaDoorGNod
namespace Go.Proofs.YtmbdaenjeeklfaaDoor
open Go.RowKit

def Keeps (w w' : World) : Prop := ∀ (a : Addr) (v : Value), w.cell? a = some v → w'.cell? a = some v
theorem Keeps.refl (w : World) : Keeps w w := fun _ _ h => h
theorem Keeps.trans {a b c : World} (h : Keeps a b) (k : Keeps b c) : Keeps a c := fun p v hp => k p v (h p v hp)
theorem KeepsCells.keeps {w w' : World} (h : KeepsCells w w') : Keeps w w' := fun _ _ hc => h.cell hc
theorem Keeps.grown {w w' : World} (h : w.grownBy w' none) : Keeps w w' := (KeepsCells.grown h).keeps
theorem Keeps.alloc (w : World) (o : Obj) : Keeps w (w.alloc o) := (KeepsCells.alloc w o).keeps
theorem Keeps.below {w w' : World} (h : Below w.heap.size w w') : Keeps w w' := fun a v hc => by
  have hlt : a.block < w.heap.size := by
    rcases Nat.lt_or_ge a.block w.heap.size with hl | hl
    · exact hl
    · unfold World.cell? at hc
      rw [Array.getElem?_eq_none hl] at hc
      simp at hc
  rw [h.cell hlt]; exact hc
theorem cell_lt {w : World} {a : Addr} {v : Value} (hc : w.cell? a = some v) : a.block < w.heap.size := by
  rcases Nat.lt_or_ge a.block w.heap.size with hl | hl
  · exact hl
  · unfold World.cell? at hc
    rw [Array.getElem?_eq_none hl] at hc
    simp at hc
theorem Keeps.setNew {w w' : World} (h : Keeps w w') {p : Addr} (hp : w.heap.size ≤ p.block) (u : Value) : Keeps w (w'.setCell p u) := fun a v hc => by
  have hl := cell_lt hc
  rw [World.cell?_setCell_other w' p a u (fun e => by subst e; omega)]
  exact h a v hc
theorem Keeps.drew {w w' : World} (h : Keeps w w') : Keeps w w'.drew := h

abbrev edV (e : Ed) : Value := .agg #[.int .i64 e.1, .int .i64 e.2]
abbrev edCells (e : Ed) : Array Value := #[.int .i64 e.1, .int .i64 e.2]
abbrev ndCells (x : Nd) (v : Value) : Array Value := #[.int .i64 x.kind, .int .i64 x.prio, .bool x.chan, .int .i64 x.pay.1, .int .i64 x.pay.2, v]
abbrev ndV (x : Nd) (v : Value) : Value := .agg #[.int .i64 x.kind, .int .i64 x.prio, .bool x.chan, .int .i64 x.pay.1, .int .i64 x.pay.2, v]

/-- A slice value that reads as a list of edges. -/
def Edges (w : World) (v : Value) (es : List Ed) : Prop := ∃ (A : Option Addr) (c : Nat), v = .slice A es.length c ∧ es.length ≤ 9223372036854775807 ∧
  (es ≠ [] → ∃ b off, A = some ⟨b, off, none⟩ ∧ ∀ i e, es[i]? = some e → w.cell? ⟨b, off + i * 2, none⟩ = some (.int .i64 e.1) ∧ w.cell? ⟨b, off + i * 2 + 1, none⟩ = some (.int .i64 e.2))
theorem Edges.keep {w w' : World} {v : Value} {es : List Ed} (h : Edges w v es) (hk : Keeps w w') : Edges w' v es := by
  obtain ⟨A, c, h1, hl, h2⟩ := h
  refine ⟨A, c, h1, hl, fun hn => ?_⟩
  obtain ⟨b, off, h3, h4⟩ := h2 hn
  exact ⟨b, off, h3, fun i e he => ⟨hk _ _ (h4 i e he).1, hk _ _ (h4 i e he).2⟩⟩
theorem Edges.nil_ (w : World) : Edges w (.slice none 0 0) [] := ⟨none, 0, rfl, by simp, fun h => absurd rfl h⟩

/-- A node's six cells. -/
def NdAt (w : World) (b off : Nat) (x : Nd) : Prop := ∃ v, Edges w v x.next ∧ w.cell? ⟨b, off, none⟩ = some (.int .i64 x.kind) ∧ w.cell? ⟨b, off + 1, none⟩ = some (.int .i64 x.prio) ∧ w.cell? ⟨b, off + 2, none⟩ = some (.bool x.chan) ∧
  w.cell? ⟨b, off + 3, none⟩ = some (.int .i64 x.pay.1) ∧ w.cell? ⟨b, off + 4, none⟩ = some (.int .i64 x.pay.2) ∧ w.cell? ⟨b, off + 5, none⟩ = some v
theorem NdAt.keep {w w' : World} {b off : Nat} {x : Nd} (h : NdAt w b off x) (hk : Keeps w w') : NdAt w' b off x := by
  obtain ⟨v, h0, h1, h2, h3, h4, h5, h6⟩ := h
  exact ⟨v, h0.keep hk, hk _ _ h1, hk _ _ h2, hk _ _ h3, hk _ _ h4, hk _ _ h5, hk _ _ h6⟩

/-- A slice value that reads as a table. -/
def Tbl (w : World) (v : Value) (xs : List Nd) : Prop := ∃ (A : Option Addr) (c : Nat), v = .slice A xs.length c ∧
  (xs ≠ [] → ∃ b off, A = some ⟨b, off, none⟩ ∧ ∀ i x, xs[i]? = some x → NdAt w b (off + i * 6) x)
theorem Tbl.keep {w w' : World} {v : Value} {xs : List Nd} (h : Tbl w v xs) (hk : Keeps w w') : Tbl w' v xs := by
  obtain ⟨A, c, h1, h2⟩ := h
  refine ⟨A, c, h1, fun hn => ?_⟩
  obtain ⟨b, off, h3, h4⟩ := h2 hn
  exact ⟨b, off, h3, fun i x he => (h4 i x he).keep hk⟩
theorem Tbl.nil_ (w : World) : Tbl w (.slice none 0 0) [] := ⟨none, 0, rfl, fun h => absurd rfl h⟩
end Go.Proofs.YtmbdaenjeeklfaaDoor

/- What GraphKnown's rows read as, and what Check says of each. -/
import Derived.Test.YthjkgjkiikomdaaGTab
import Derived.Test.YthjkgjkiikomdaaAny
namespace Go.Proofs.Ythjkgjkiikomdaa
open Go.RowKit

theorem flat_at {α β : Type} {f : α → List β} {m : Nat} (hf : ∀ x, (f x).length = m) {x : α} : ∀ {xs : List α} {i : Nat}, xs[i]? = some x → ∀ j, j < m → (xs.flatMap f)[i * m + j]? = (f x)[j]?
  | [], _, h, _, _ => by simp at h
  | y :: ys, 0, h, j, hj => by
    simp only [List.getElem?_cons_zero, Option.some.injEq] at h
    subst h
    rw [List.flatMap_cons, List.getElem?_append_left (by rw [hf]; omega), Nat.zero_mul, Nat.zero_add]
  | y :: ys, i + 1, h, j, hj => by
    rw [List.getElem?_cons_succ] at h
    have : m ≤ (i + 1) * m := Nat.le_mul_of_pos_left m (by omega)
    rw [List.flatMap_cons, List.getElem?_append_right (by rw [hf]; omega), hf, show (i + 1) * m + j - m = i * m + j by rw [Nat.succ_mul]; omega]
    exact flat_at hf h j hj
/-- A cell of a row. -/
theorem row_cell {W : World} {b : Nat} {e : TypeId} {us : Array Value} {cs : List Cl} (hb : Blk W b e us) (hc : Cells W cs us.toList) {i : Nat} {c : Cl} (h : cs[i]? = some c) : ∃ u, W.cell? ⟨b, i, none⟩ = some u ∧ Cell W c u := by
  obtain ⟨u, h1, h2⟩ := hc.at_ i c h
  exact ⟨u, by rw [hb.cell, ← Array.getElem?_toList]; exact h1, h2⟩
theorem row_val {W : World} {b : Nat} {e : TypeId} {us : Array Value} {cs : List Cl} (hb : Blk W b e us) (hc : Cells W cs us.toList) {i : Nat} {x : Value} (h : cs[i]? = some (.v x)) : W.cell? ⟨b, i, none⟩ = some x := by
  obtain ⟨u, h1, h2⟩ := row_cell hb hc h
  rw [h1, show u = x from h2]

abbrev edCl (e : Ed) : List Cl := [.v (.int .i64 e.1), .v (.int .i64 e.2)]
abbrev ndCl (p : Nd × Cl) : List Cl := [.v (.int .i64 p.1.kind), .v (.int .i64 p.1.prio), .v (.bool p.1.chan), .v (.int .i64 p.1.pay.1), .v (.int .i64 p.1.pay.2), p.2]
abbrev edsCl (es : List Ed) : Cl := .s 32 (es.flatMap edCl) es.length
abbrev tabCl (xs : List (Nd × Cl)) : Cl := .s 35 (xs.flatMap ndCl) xs.length
theorem edges_of_cl {W : World} {u : Value} {es : List Ed} (h : Cell W (edsCl es) u) (hl : es.length ≤ 9223372036854775807) : Edges W u es := by
  obtain ⟨b, us, rfl, hb, hc⟩ := h
  refine ⟨_, _, rfl, hl, fun _ => ⟨b, 0, rfl, fun i e he => ?_⟩⟩
  have h1 := flat_at (f := edCl) (m := 2) (fun _ => rfl) he
  rw [Nat.zero_add]
  exact ⟨row_val hb hc (h1 0 (by omega)), row_val hb hc (h1 1 (by omega))⟩
theorem tbl_of_cl {W : World} {u : Value} {xs : List (Nd × Cl)} (h : Cell W (tabCl xs) u) (he : ∀ p ∈ xs, ∀ v, Cell W p.2 v → Edges W v p.1.next) : Tbl W u (xs.map (·.1)) := by
  obtain ⟨b, us, rfl, hb, hc⟩ := h
  refine ⟨_, _, by rw [List.length_map], fun _ => ⟨b, 0, rfl, fun i x hx => ?_⟩⟩
  rw [List.getElem?_map] at hx
  obtain ⟨p, hp, rfl⟩ := Option.map_eq_some_iff.1 hx
  have h1 := flat_at (f := ndCl) (m := 6) (fun _ => rfl) hp
  obtain ⟨v, h2, h3⟩ := row_cell hb hc (h1 5 (by omega))
  rw [Nat.zero_add]
  exact ⟨v, he p (List.mem_of_getElem? hp) v h3, row_val hb hc (h1 0 (by omega)), row_val hb hc (h1 1 (by omega)), row_val hb hc (h1 2 (by omega)), row_val hb hc (h1 3 (by omega)), row_val hb hc (h1 4 (by omega)), h2⟩

/-! ### The rows -/
abbrev nilC : Cl := .v (.slice none 0 0)
abbrev ptrC (g : Nat) : Cl := .v (.slice (some ⟨g, 0, none⟩) 1 1)
abbrev endP : Nd × Cl := (⟨0, 0, false, (0, 0), []⟩, nilC)
abbrev sendP (g : Nat) : Nd × Cl := (⟨1, 1000, false, (0, 0), [(0, 1000)]⟩, ptrC g)
abbrev giveP (g : Nat) : Nd × Cl := (⟨2, 0, true, (0, 1000), [(0, 0)]⟩, ptrC g)
abbrev farP (g : Nat) : Nd × Cl := (⟨2, 0, true, (2, 1000), [(0, 0)]⟩, ptrC g)
abbrev wideP (g : Nat) : Nd × Cl := (⟨2, 0, true, (0, 1001), [(0, 0)]⟩, ptrC g)
abbrev backP (g : Nat) : Nd × Cl := (⟨5, 0, false, (0, 0), [(0, 0)]⟩, ptrC g)
abbrev litP (x : Nd) : Nd × Cl := (x, edsCl x.next)
abbrev bareP (x : Nd) : Nd × Cl := (x, nilC)
abbrev roundL : List Nd := [⟨5, 0, false, (0, 0), [(1, 2)]⟩, ⟨5, 0, false, (0, 0), [(0, 0)]⟩]
abbrev rowC (c : Cl) (k e : Int) : List Cl := [c, .v (.int .i64 k), .v (.int .i64 e)]
def rowsL (g1 g3 g8 R : Nat) : List Cl :=
  rowC nilC (-1) 2 ++ (rowC (tabCl (List.replicate 65 endP)) (-1) 4 ++ (rowC (tabCl (List.replicate 64 endP)) (-1) 0 ++ (rowC (tabCl [endP, sendP g1]) (-1) 0 ++
  (rowC (tabCl [endP, giveP g3]) (-1) 0 ++ (rowC (tabCl [endP, farP g3]) 1 8 ++ (rowC (tabCl [endP, wideP g3]) 1 7 ++ (rowC (tabCl [litP ⟨1, 0, false, (0, 0), [(1, 0)]⟩]) 0 8 ++
  (rowC (.v (.slice (some ⟨R, 0, none⟩) 2 2)) 0 9 ++ (rowC (tabCl [endP, backP g8]) (-1) 0 ++ (rowC (tabCl [litP ⟨5, 1, false, (0, 0), [(0, 0)]⟩]) 0 7 ++ (rowC (tabCl [litP ⟨0, 0, false, (0, 0), [(0, 0)]⟩]) 0 7 ++
  (rowC (tabCl [bareP ⟨5, 0, false, (0, 0), []⟩]) 0 7 ++ (rowC (tabCl [farP g3, bareP ⟨0, 1, false, (0, 0), []⟩]) 0 8 ++ (rowC (tabCl [litP ⟨4, 0, false, (0, 0), List.replicate 8 (0, 0)⟩]) (-1) 0 ++
  rowC (tabCl [litP ⟨4, 0, false, (0, 0), List.replicate 9 (0, 0)⟩]) 0 7))))))))))))))

/-- What lay ahead of the rows. -/
structure KB (g1 g3 g8 R : Nat) (W : World) : Prop where
  b1 : Blk W g1 32 (edCells (0, 1000))
  b3 : Blk W g3 32 (edCells (0, 0))
  b8 : Blk W g8 32 (edCells (0, 0))
  rd : Tbl W (.slice (some ⟨R, 0, none⟩) 2 2) roundL
section
variable {g1 g3 g8 R : Nat} {W W' : World}
theorem KB.kept (h : KB g1 g3 g8 R W) (hg : W.grownBy W' none) : KB g1 g3 g8 R W' := ⟨h.b1.kept hg, h.b3.kept hg, h.b8.kept hg, h.rd.keep (.grown hg)⟩
theorem edges_ptr {g : Nat} {e : Ed} {v : Value} (hb : Blk W g 32 (edCells e)) (h : Cell W (ptrC g) v) : Edges W v [e] := by
  obtain rfl : v = _ := h
  exact ⟨_, _, rfl, by simp, fun _ => ⟨g, 0, rfl, fun i x hx => by
    match i, hx with
    | 0, hx => cases hx; exact ⟨hb.cell 0, hb.cell 1⟩
    | i + 1, hx => simp at hx⟩⟩
theorem edges_nilC {v : Value} (h : Cell W nilC v) : Edges W v [] := by
  obtain rfl : v = _ := h
  exact Edges.nil_ W
/-- A node's edges are known. -/
def PK (W : World) (p : Nd × Cl) : Prop := ∀ v, Cell W p.2 v → Edges W v p.1.next
theorem pk_nil {x : Nd} (h : x.next = []) : PK W (bareP x) := fun v hv => by
  show Edges W v x.next
  rw [h]; exact edges_nilC hv
theorem pk_lit {x : Nd} (h : x.next.length ≤ 100) : PK W (litP x) := fun _ hv => edges_of_cl hv (by show x.next.length ≤ _; omega)
theorem rows_at {k : Nat} (hk : k < 16) : ∃ (V : Cl) (xs : List Nd) (K E : Int), (rowsL g1 g3 g8 R)[k * 3]? = some V ∧ (rowsL g1 g3 g8 R)[k * 3 + 1]? = some (.v (.int .i64 K)) ∧ (rowsL g1 g3 g8 R)[k * 3 + 2]? = some (.v (.int .i64 E)) ∧
    checkL xs = (K, E) ∧ xs.length ≤ 65 ∧ ∀ W u, KB g1 g3 g8 R W → Cell W V u → Tbl W u xs := by
  have two : ∀ {W : World} {p q : Nd × Cl} {u : Value}, Cell W (tabCl [p, q]) u → PK W p → PK W q → Tbl W u [p.1, q.1] := fun h hp hq => tbl_of_cl h (fun x hx => by
    rcases List.mem_cons.1 hx with rfl | hx
    · exact hp
    · obtain rfl := List.mem_singleton.1 hx
      exact hq)
  have one : ∀ {W : World} {p : Nd × Cl} {u : Value}, Cell W (tabCl [p]) u → PK W p → Tbl W u [p.1] := fun h hp => tbl_of_cl h (fun x hx => by
    obtain rfl := List.mem_singleton.1 hx
    exact hp)
  have all : ∀ {W : World} {n : Nat} {u : Value}, Cell W (tabCl (List.replicate n endP)) u → Tbl W u (List.replicate n endP.1) := fun {W n u} h => by
    have := tbl_of_cl h (fun p hp v hv => by
      obtain rfl := (List.mem_replicate.1 hp).2
      exact edges_nilC hv)
    rwa [List.map_replicate] at this
  rcases (by omega : k = 0 ∨ k = 1 ∨ k = 2 ∨ k = 3 ∨ k = 4 ∨ k = 5 ∨ k = 6 ∨ k = 7 ∨ k = 8 ∨ k = 9 ∨ k = 10 ∨ k = 11 ∨ k = 12 ∨ k = 13 ∨ k = 14 ∨ k = 15) with rfl | rfl | rfl | rfl | rfl | rfl | rfl | rfl | rfl | rfl | rfl | rfl | rfl | rfl | rfl | rfl
  · exact ⟨_, [], _, _, rfl, rfl, rfl, by kernel_rfl, by first | decide | simp, fun W u _ h => by obtain rfl : u = _ := h; exact Tbl.nil_ W⟩
  · exact ⟨_, _, _, _, rfl, rfl, rfl, by kernel_rfl, by first | decide | simp, fun W u _ h => all h⟩
  · exact ⟨_, _, _, _, rfl, rfl, rfl, by kernel_rfl, by first | decide | simp, fun W u _ h => all h⟩
  · exact ⟨_, _, _, _, rfl, rfl, rfl, by kernel_rfl, by first | decide | simp, fun W u b h => two h (pk_nil rfl) (fun _ hv => edges_ptr b.b1 hv)⟩
  · exact ⟨_, _, _, _, rfl, rfl, rfl, by kernel_rfl, by first | decide | simp, fun W u b h => two h (pk_nil rfl) (fun _ hv => edges_ptr b.b3 hv)⟩
  · exact ⟨_, _, _, _, rfl, rfl, rfl, by kernel_rfl, by first | decide | simp, fun W u b h => two h (pk_nil rfl) (fun _ hv => edges_ptr b.b3 hv)⟩
  · exact ⟨_, _, _, _, rfl, rfl, rfl, by kernel_rfl, by first | decide | simp, fun W u b h => two h (pk_nil rfl) (fun _ hv => edges_ptr b.b3 hv)⟩
  · exact ⟨_, _, _, _, rfl, rfl, rfl, by kernel_rfl, by first | decide | simp, fun W u _ h => one h (pk_lit (by decide))⟩
  · exact ⟨_, roundL, _, _, rfl, rfl, rfl, by kernel_rfl, by first | decide | simp, fun W u b h => by obtain rfl : u = _ := h; exact b.rd⟩
  · exact ⟨_, _, _, _, rfl, rfl, rfl, by kernel_rfl, by first | decide | simp, fun W u b h => two h (pk_nil rfl) (fun _ hv => edges_ptr b.b8 hv)⟩
  · exact ⟨_, _, _, _, rfl, rfl, rfl, by kernel_rfl, by first | decide | simp, fun W u _ h => one h (pk_lit (by decide))⟩
  · exact ⟨_, _, _, _, rfl, rfl, rfl, by kernel_rfl, by first | decide | simp, fun W u _ h => one h (pk_lit (by decide))⟩
  · exact ⟨_, _, _, _, rfl, rfl, rfl, by kernel_rfl, by first | decide | simp, fun W u _ h => one h (pk_nil rfl)⟩
  · exact ⟨_, _, _, _, rfl, rfl, rfl, by kernel_rfl, by first | decide | simp, fun W u b h => two h (fun _ hv => edges_ptr b.b3 hv) (pk_nil rfl)⟩
  · exact ⟨_, _, _, _, rfl, rfl, rfl, by kernel_rfl, by first | decide | simp, fun W u _ h => one h (pk_lit (by decide))⟩
  · exact ⟨_, _, _, _, rfl, rfl, rfl, by kernel_rfl, by first | decide | simp, fun W u _ h => one h (pk_lit (by decide))⟩
end
end Go.Proofs.Ythjkgjkiikomdaa

/- Rows of nodes, and of edges, that are written at once. No program. -/
import Derived.Test.YtoklaajiajilhaaDoorGOwn
import Derived.Test.YtoklaajiajilhaaDoorGEdg
namespace Go.Proofs.YtoklaajiajilhaaDoor
open Go.RowKit

/-- A row of nodes written at once. -/
theorem rows_tbl {W : World} {g : Nat} {ns : List (Nd × Value)} (hb : Blk W g 39 (ndAll ns).toArray) (he : ∀ p ∈ ns, Edges W p.2 p.1.next) : Tbl W (.slice (some ⟨g, 0, none⟩) ns.length ns.length) (ns.map (·.1)) := by
  refine ⟨_, ns.length, by rw [List.length_map], fun _ => ⟨g, 0, rfl, fun i x hx => ?_⟩⟩
  rw [List.getElem?_map] at hx
  obtain ⟨p, hp, rfl⟩ := Option.map_eq_some_iff.1 hx
  have at_ : ∀ j u, j < 6 → (ndCells p.1 p.2).toList[j]? = some u → W.cell? ⟨g, i * 6 + j, none⟩ = some u := fun j u hj hu => by
    rw [hb.cell, List.getElem?_toArray, ndAll_at hp j hj, hu]
  refine ⟨p.2, he p (List.mem_of_getElem? hp), ?_⟩
  rw [Nat.zero_add]
  exact ⟨at_ 0 _ (by omega) rfl, at_ 1 _ (by omega) rfl, at_ 2 _ (by omega) rfl, at_ 3 _ (by omega) rfl, at_ 4 _ (by omega) rfl, at_ 5 _ (by omega) rfl⟩
/-- One edge in a block of its own. -/
theorem one_edge {W : World} {g : Nat} {t : TypeId} {e : Ed} {c : Nat} (h : Blk W g t (edCells e)) : Edges W (.slice (some ⟨g, 0, none⟩) 1 c) [e] :=
  ⟨_, _, rfl, by simp, fun _ => ⟨g, 0, rfl, fun i x hx => by
    match i, hx with
    | 0, hx => cases hx; exact ⟨h.cell 0, h.cell 1⟩
    | i + 1, hx => simp at hx⟩⟩
/-- Two edges in a block of their own. -/
theorem two_edges {W : World} {g : Nat} {t : TypeId} {e f : Ed} {c : Nat} (h : Blk W g t (edCells e ++ edCells f)) : Edges W (.slice (some ⟨g, 0, none⟩) 2 c) [e, f] :=
  ⟨_, _, rfl, by simp, fun _ => ⟨g, 0, rfl, fun i x hx => by
    match i, hx with
    | 0, hx => cases hx; exact ⟨h.cell 0, h.cell 1⟩
    | 1, hx => cases hx; exact ⟨h.cell 2, h.cell 3⟩
    | i + 2, hx => simp at hx⟩⟩
end Go.Proofs.YtoklaajiajilhaaDoor

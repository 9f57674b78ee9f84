/- Texts joined for the claim's sake: GOm, GMadA. -/
import Derived.Test.YtmhbmeckdbdhpaaZSKnwRow6
import Derived.Deep.RegionLaw
namespace Go.Proofs.Ytmhbmeckdbdhpaa
open Go.RowKit

theorem edge_info : (Try.prog.info? 67).map (fun i => (i.zero, i.size, i.bytes)) = some (some (.agg #[.int .i64 0, .int .i64 0]), 2, 16) := by kernel_rfl
def edAll (es : List Ed) : List Value := es.flatMap fun e => (edCells e).toList
theorem edAll_len (es : List Ed) : (edAll es).length = es.length * 2 := by
  induction es with
  | nil => rfl
  | cons e es ih => simp only [edAll, List.flatMap_cons, List.length_append] at ih ⊢; rw [ih]; simp; omega
theorem edAll_snoc (es : List Ed) (e : Ed) : edAll (es ++ [e]) = edAll es ++ (edCells e).toList := by simp [edAll]
theorem edAll_at {es : List Ed} {i : Nat} {e : Ed} (h : es[i]? = some e) (j : Nat) (hj : j < 2) : (edAll es)[i * 2 + j]? = (edCells e).toList[j]? := by
  induction es generalizing i with
  | nil => simp at h
  | cons q es ih =>
    have hq : (edCells q).toList.length = 2 := rfl
    cases i with
    | zero =>
      simp only [List.getElem?_cons_zero, Option.some.injEq] at h
      subst h
      simp only [edAll, List.flatMap_cons]
      rw [List.getElem?_append_left (by rw [hq]; omega), Nat.zero_mul, Nat.zero_add]
    | succ i =>
      rw [List.getElem?_cons_succ] at h
      simp only [edAll, List.flatMap_cons]
      rw [List.getElem?_append_right (by rw [hq]; omega), hq, show (i + 1) * 2 + j - 2 = i * 2 + j by omega]
      exact ih h
/-- A row of edges of the call's own. -/
def EOwn (base : Nat) (W : World) (v : Value) (es : List Ed) : Prop := W.ownsRow base 67 2 v es.length (edAll es)
section
variable {base : Nat} {W W' : World} {v : Value} {es : List Ed}
theorem EOwn.nil_ (base : Nat) (W : World) : EOwn base W (.slice none 0 0) [] := World.ownsRow_nil _ _ _ _
theorem EOwn.edges (h : EOwn base W v es) (hl : es.length ≤ 1000) : EdgesO base W v es := by
  rcases h.2 with ⟨rfl, he⟩ | ⟨g, cap, cur, rfl, hb, hh, _⟩
  · have h0 : es = [] := by
      have := edAll_len es
      rw [he] at this
      exact List.eq_nil_of_length_eq_zero (by simp at this; omega)
    subst h0
    exact EdgesO.nil_
  · refine ⟨_, cap, rfl, by omega, fun _ => ⟨g, 0, rfl, .inr ⟨cur, hh⟩, fun i e he => ?_⟩⟩
    have hc := h.cells (g := g) rfl
    have at_ : ∀ j u, j < 2 → (edCells e).toList[j]? = some u → W.cell? ⟨g, i * 2 + j, none⟩ = some u := fun j u hj hu => by
      have := hc (i * 2 + j) u ((edAll_at he j hj).trans hu)
      rwa [addr_plain, Nat.zero_add] at this
    rw [Nat.zero_add]
    exact ⟨at_ 0 _ (by omega) rfl, at_ 1 _ (by omega) rfl⟩
theorem EOwn.kept {row : Option Nat} (h : EOwn base W v es) (hg : W.grownBy W' row) (hr : ∀ g, v.ownBlock = some g → row ≠ some g) : EOwn base W' v es := by
  refine World.ownsRow.kept h hg ?_
  cases hb : v.ownBlock with
  | none => exact .inl rfl
  | some g => exact .inr (fun e => hr g hb e.symm)
theorem EOwn.kept0 (h : EOwn base W v es) (hg : W.grownBy W' none) : EOwn base W' v es := h.kept hg (fun _ _ e => by cases e)
theorem EOwn.one {g : Nat} {e : Ed} (h : Blk W g 67 (edCells e)) (hb : base ≤ g) : EOwn base W (.slice (some ⟨g, 0, none⟩) 1 1) [e] :=
  ⟨rfl, .inr ⟨g, 1, edCells e, rfl, hb, h, Nat.le_refl _, by unfold maxLen; omega, rfl, rfl⟩⟩
theorem EOwn.len (h : EOwn base W v es) : ∃ A c, v = .slice A es.length c := by
  rcases h.2 with ⟨rfl, he⟩ | ⟨g, cap, cur, rfl, _⟩
  · have h0 : es = [] := by
      have := edAll_len es
      rw [he] at this
      exact List.eq_nil_of_length_eq_zero (by simp at this; omega)
    subst h0
    exact ⟨none, 0, rfl⟩
  · exact ⟨_, _, rfl⟩
end

/-- A table that is owned, its edges, too, each node's in a row of its own. -/
structure OM (base : Nat) (W : World) (v : Value) (ns : List (Nd × Value)) : Prop where
  row : W.ownsRow base 70 6 v ns.length (ndAll ns)
  eds : ∀ p ∈ ns, EOwn base W p.2 p.1.next ∧ p.1.next.length ≤ 1000
  apart : ns.Pairwise fun p q => ∀ g, p.2.ownBlock = some g → q.2.ownBlock ≠ some g
section
variable {base : Nat} {W W' : World} {v : Value} {ns : List (Nd × Value)}
theorem OM.ot (h : OM base W v ns) : OT base W v ns := ⟨h.row, fun p hp => (h.eds p hp).1.edges (h.eds p hp).2⟩
theorem OM.start (base : Nat) (W : World) : OM base W (.slice none 0 0) [] := ⟨World.ownsRow_nil _ _ _ _, (fun p hp => by cases hp), List.Pairwise.nil⟩
/-- Another block is turned: neither the table's, nor its edges'. -/
theorem OM.far {row : Option Nat} (h : OM base W v ns) (hg : W.grownBy W' row) (hr : ∀ g, row = some g → v.ownBlock ≠ some g ∧ ∀ p ∈ ns, p.2.ownBlock ≠ some g) : OM base W' v ns := by
  refine ⟨h.row.kept hg ?_, fun p hp => ⟨(h.eds p hp).1.kept hg (fun g e e' => (hr g e').2 p hp e), (h.eds p hp).2⟩, h.apart⟩
  cases hb : v.ownBlock with
  | none => exact .inl rfl
  | some g => exact .inr (fun e => (hr g e.symm).1 hb)
theorem OM.kept (h : OM base W v ns) (hg : W.grownBy W' none) : OM base W' v ns := h.far hg (fun _ e => by cases e)
end
end Go.Proofs.Ytmhbmeckdbdhpaa

namespace Go.Proofs.Ytmhbmeckdbdhpaa
open Go.RowKit

/-- As it may be, with no more than eight edges. -/
def Good (n : Nat) (x : Nd) : Prop := illN n x = 0 ∧ x.next.length ≤ 8
def edOk (n : Nat) (e : Ed) : Prop := 0 ≤ e.1 ∧ e.1 < n ∧ 0 ≤ e.2 ∧ e.2 ≤ 1000
theorem EOwn.base_ {base base' : Nat} {W : World} {v : Value} {es : List Ed} (h : EOwn base W v es) (hb : base' ≤ base) : EOwn base' W v es :=
  ⟨h.1, h.2.imp id (fun ⟨g, cap, cur, h1, h2, h3⟩ => ⟨g, cap, cur, h1, Nat.le_trans hb h2, h3⟩)⟩
theorem edAll_one (es : List Ed) : ∀ u ∈ edAll es, u.oneCell' = true := by
  intro u hu
  simp only [edAll, List.mem_flatMap] at hu
  obtain ⟨e, _, hu⟩ := hu
  simp only [List.mem_cons, List.not_mem_nil, or_false] at hu
  rcases hu with rfl | rfl <;> rfl
/-- One edge more, appended, in a region that draws. -/
theorem step_append_edge {ops : Array Oper} {o : Oper} {a : Act} {W : World} {K : Act → World → Prop} {Q : Exit → Act → World → Prop} {E : Prop} (hgd : o.guard = none) (s x : Operand)
    (ho : o.op = .call { callee := .builtin .append, args := #[s, x], argTypes := #[68, 68] })
    {base : Nat} {v : Value} {es : List Ed} {e : Ed} {g : Nat} (hs : a.eval s = v) (hx : a.eval x = .slice (some ⟨g, 0, none⟩) 1 1)
    (hot : EOwn base W v es) (hb : Blk W g 67 (edCells e)) (hn : es.length ≤ 1000) (hbase : base ≤ W.heap.size)
    (h : ∀ v' W', EOwn base W' v' (es ++ [e]) → W.grownBy W' v.ownBlock → K (a.put o.dst v') W') : if Region.wanted o (yielded ops a.tmps) = true then Oper.wp Try.prog o a W K Q else E := by
  have hw : Region.wanted o (yielded ops a.tmps) = true := by simp [Region.wanted, hgd]
  rw [if_pos hw]
  obtain ⟨i0, hi, hz0, hz1, hz2⟩ := info_parts edge_info
  refine wp_append_own W s x 68 ho base 67 i0 _ 2 16 Try.underlying68 hi hz0 hz1 hz2 rfl (by decide) v es.length (edAll es) hs hot
    ⟨g, 0, none⟩ 1 1 (edCells e).toList hx rfl (fun j u hu => ?_) (fun u hu => ?_) (by unfold maxLen; omega) (by omega) hbase (fun v' W' hr hg _ => h v' W' ?_ hg)
  · rw [addr_plain, Nat.zero_add, hb.cell j, ← hu]; simp
  · exact edAll_one [e] u (by simpa [edAll] using hu)
  · show World.ownsRow _ _ _ _ _ _ _
    rw [List.length_append, edAll_snoc]; exact hr
end Go.Proofs.Ytmhbmeckdbdhpaa

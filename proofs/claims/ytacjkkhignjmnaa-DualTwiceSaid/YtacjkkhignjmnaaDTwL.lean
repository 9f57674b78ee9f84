/- DualTwice: what its walk stands on: rows of edges that a call owns, and their Tos taken back. -/
import Derived.Test.YtacjkkhignjmnaaDWalks
import Derived.Deep.CutBlock
import Derived.Deep.RegionHeld3
namespace Go.Proofs.Ytacjkkhignjmnaa
open Go.RowKit Go.Shelf

/-- What stands behind i rounds of the first loop. -/
def BK (w0 : World) (ys : List Nd) (i : Nat) (v : Value) (W : World) : Prop := ∃ ns, ns.length = i ∧ ns.map (·.1) = (ys.take i).map turnN ∧ OT w0.heap.size W v ns ∧ w0.grownBy W none
theorem check_is {xs : List Nd} {v : Value} {w : World} {a e : Int} (h : checkL xs = (a, e)) (hT : Tbl w v xs) (hl : xs.length ≤ 1000) : Calls Try.prog 13 #[v] w fun en w' => en = .returned (.tuple #[.int .i64 a, .int .i64 e]) ∧ w.grownBy w' none := by
  have h2 := check_any xs v w hT (by omega)
  rw [h] at h2
  exact h2

theorem EOwn.empty {base g : Nat} {W : World} (h : Blk W g 26 #[]) (hb : base ≤ g) : EOwn base W (.slice (some ⟨g, 0, none⟩) 0 0) [] :=
  ⟨rfl, .inr ⟨g, 0, #[], rfl, hb, h, Nat.le_refl _, by unfold maxLen; omega, rfl, rfl⟩⟩
theorem edge_cellsD {w : World} {b off : Nat} {es : List Ed} (h : ∀ (i : Nat) (e : Ed), es[i]? = some e → w.cell? ⟨b, off + i * 2, none⟩ = some (.int .i64 e.1) ∧ w.cell? ⟨b, off + i * 2 + 1, none⟩ = some (.int .i64 e.2)) :
    ∀ j u, (edAll es)[j]? = some u → w.cell? ((⟨b, off, none⟩ : Addr).add j) = some u := fun j u hu => by
  rw [addr_plain]
  have hj : j < es.length * 2 := by rw [← edAll_len]; exact (List.getElem?_eq_some_iff.1 hu).1
  have hi : j / 2 < es.length := by omega
  have hx := h (j / 2) _ (List.getElem?_eq_getElem hi)
  have ha := edAll_at (List.getElem?_eq_getElem hi) (j % 2) (by omega)
  rw [show j / 2 * 2 + j % 2 = j by omega, hu] at ha
  rcases (by omega : j % 2 = 0 ∨ j % 2 = 1) with e | e
  · rw [e] at ha
    rw [show off + j = off + j / 2 * 2 by omega, hx.1]
    exact ha.symm
  · rw [e] at ha
    rw [show off + j = off + j / 2 * 2 + 1 by omega, hx.2]
    exact ha.symm
theorem edAll_set0 {e : Ed} {t : Int} : ∀ {es : List Ed} {q : Nat}, es[q]? = some e → (edAll es).set (q * 2) (.int .i64 t) = edAll (es.set q (t, e.2))
  | [], q, h => by simp at h
  | f :: es, 0, h => by
    simp only [List.getElem?_cons_zero, Option.some.injEq] at h
    subst h
    rfl
  | f :: es, q + 1, h => by
    have ih := edAll_set0 (t := t) (es := es) (q := q) (by simpa using h)
    have hl : (edCells f).toList.length = 2 := rfl
    simp only [edAll, List.flatMap_cons, List.set_cons_succ] at ih ⊢
    rw [List.set_append, if_neg (by rw [hl]; omega), hl, show (q + 1) * 2 - 2 = q * 2 by omega, ih]
/-- An edge of a row of the call's own: its cells; its To is written. -/
theorem EOwn.at_ {base g n cap q : Nat} {W : World} {es : List Ed} {e : Ed} (h : EOwn base W (.slice (some ⟨g, 0, none⟩) n cap) es) (hn : es.length = n) (he : es[q]? = some e) :
    W.cell? ⟨g, q * 2, none⟩ = some (.int .i64 e.1) ∧ W.cell? ⟨g, q * 2 + 1, none⟩ = some (.int .i64 e.2) ∧ W.frozen? ⟨g, q * 2, none⟩ = false := by
  subst hn
  have hc := h.cells (g := g) rfl
  have at_ : ∀ j u, j < 2 → (edCells e).toList[j]? = some u → W.cell? ⟨g, q * 2 + j, none⟩ = some u := fun j u hj hu => by
    have := hc (q * 2 + j) u ((edAll_at he j hj).trans hu)
    rwa [addr_plain, Nat.zero_add] at this
  exact ⟨at_ 0 _ (by omega) rfl, at_ 1 _ (by omega) rfl, h.frozenAt _⟩
theorem EOwn.put0 {base g n cap q : Nat} {W : World} {es : List Ed} {e : Ed} (h : EOwn base W (.slice (some ⟨g, 0, none⟩) n cap) es) (hn : es.length = n) (he : es[q]? = some e) (t : Int) :
    EOwn base (W.setCell ⟨g, q * 2, none⟩ (.int .i64 t)) (.slice (some ⟨g, 0, none⟩) n cap) (es.set q (t, e.2)) ∧ W.grownBy (W.setCell ⟨g, q * 2, none⟩ (.int .i64 t)) (some g) := by
  subst hn
  obtain ⟨h1, h2⟩ := World.ownsRow.stored h (q * 2) (.int .i64 t)
  refine ⟨?_, h2⟩
  show World.ownsRow _ _ _ _ _ _ _
  rw [List.length_set, ← edAll_set0 he]
  exact h1
/-- A whole list of edges, appended to an empty row of the call's own; the list may be none. -/
theorem wpList_append_edgesD {ops : Array Oper} {rest : List Oper} {o : Oper} {a : Act} {W : World} {Q : Exit → Act → World → Prop} (hgd : o.guard = none) (s x : Operand)
    (ho : o.op = .call { callee := .builtin .append, args := #[s, x], argTypes := #[27, 27] })
    {base g : Nat} {es : List Ed} {u : Value} (hs : a.eval s = .slice (some ⟨g, 0, none⟩) 0 0) (hx : a.eval x = u) (hown : EOwn base W (.slice (some ⟨g, 0, none⟩) 0 0) []) (hE : Edges W u es) (hl : es.length ≤ 1000) (hbase : base ≤ W.heap.size)
    (h : ∀ v' W', EOwn base W' v' es → W.grownBy W' (some g) → wpList Try.prog ops Q rest (a.put o.dst v') W') : wpList Try.prog ops Q (o :: rest) a W := by
  obtain ⟨i0, hi, hz0, hz1, hz2⟩ := info_parts edge_info
  obtain ⟨A, c, rfl, _, hcl⟩ := hE
  by_cases hn : es = []
  · subst hn
    cases A with
    | some ad =>
      refine wpList_append_own W hgd s x 27 ho base 26 i0 _ 2 16 Try.underlying27 hi hz0 hz1 hz2 rfl (by decide) _ 0 [] hs hown
        ad 0 c [] hx rfl (fun j u hu => by simp at hu) (fun u hu => by cases hu) (by unfold maxLen; omega) (by omega) hbase (fun v' W' hr hg _ => h v' W' ?_ hg)
      exact hr
    | none =>
      have hr : (Builtin.append_ #[27, 27] o.type #[.slice (some ⟨g, 0, none⟩) 0 0, .slice none 0 c]).run Try.prog W = .ok (.slice (some ⟨g, 0, none⟩) 0 0) W := by
        simp [Builtin.append_, run_underlying Try.underlying27, sizeOf, typeInfo, hi, Builtin.lenOf, Builtin.firstCells, storeCells]
      refine wpList_plain hgd fun K hK => ?_
      unfold Oper.wp execOp
      simp only [ho, resolve, invoke, builtin, Sem.run_bind, Sem.run_pure, Result.andThen_ok, List.map_toArray, List.map_cons, List.map_nil, hs, hx, List.length_nil, hr]
      exact hK _ _ (h _ _ hown (World.grownBy.refl W _))
  · obtain ⟨b, off, rfl, hce⟩ := hcl hn
    refine wpList_append_own W hgd s x 27 ho base 26 i0 _ 2 16 Try.underlying27 hi hz0 hz1 hz2 rfl (by decide) _ 0 [] hs hown
      ⟨b, off, none⟩ es.length c (edAll es) hx (edAll_len es) (edge_cellsD hce) (edAll_one es) (by unfold maxLen; omega) (by omega) hbase (fun v' W' hr hg _ => h v' W' ?_ hg)
    rw [Nat.zero_add, List.nil_append] at hr
    exact hr

theorem EOwn.form {base : Nat} {W : World} {A : Option Addr} {n c : Nat} {es : List Ed} (h : EOwn base W (.slice A n c) es) (hn : 0 < es.length) : ∃ g, A = some ⟨g, 0, none⟩ ∧ base ≤ g := by
  rcases h.2 with ⟨h1, h2⟩ | ⟨g, cap, cur, h1, h2, _⟩
  · simp only [Value.slice.injEq] at h1
    have := edAll_len es
    rw [h2] at this
    simp at this
    omega
  · simp only [Value.slice.injEq] at h1
    exact ⟨g, h1.1, h2⟩
/-- What stands as the edges of a copy are taken back: the copy's box, its own row. -/
structure IN (w0 : World) (Bn n : Nat) (x : Nd) (v : Value) (q : Nat) (W : World) : Prop where
  gr : w0.grownBy W none
  bn : Blk W Bn 29 (ndCells (turnN x) v)
  hb : w0.heap.size ≤ Bn
  own : EOwn w0.heap.size W v (x.next.take q ++ (x.next.map (upE n)).drop q)
section
variable {w0 W W' : World} {Bn n q : Nat} {x : Nd} {v : Value}
theorem IN.kept (h : IN w0 Bn n x v q W) (hg : W.grownBy W' none) : IN w0 Bn n x v q W' := ⟨only_trans h.gr hg, h.bn.kept hg, h.hb, h.own.kept0 hg⟩
theorem in_len (x : Nd) (n q : Nat) (hq : q ≤ x.next.length) : (x.next.take q ++ (x.next.map (upE n)).drop q).length = x.next.length := by
  rw [List.length_append, List.length_take, List.length_drop, List.length_map]; omega
theorem in_at {x : Nd} {e : Ed} (n : Nat) {q : Nat} (he : x.next[q]? = some e) : (x.next.take q ++ (x.next.map (upE n)).drop q)[q]? = some (upE n e) := by
  have hq := (List.getElem?_eq_some_iff.1 he).1
  rw [List.getElem?_append_right (by rw [List.length_take]; omega), List.length_take, List.getElem?_drop, show q + (q - min q x.next.length) = q by omega, List.getElem?_map, he]
  rfl
theorem in_set {x : Nd} {e : Ed} (n : Nat) {q : Nat} (he : x.next[q]? = some e) : (x.next.take q ++ (x.next.map (upE n)).drop q).set q e = x.next.take (q + 1) ++ (x.next.map (upE n)).drop (q + 1) := by
  have hq := (List.getElem?_eq_some_iff.1 he).1
  apply List.ext_getElem?
  intro j
  have hl : (x.next.take q).length = q := by rw [List.length_take]; omega
  have hl2 : (x.next.take (q + 1)).length = q + 1 := by rw [List.length_take]; omega
  by_cases h1 : j = q
  · subst h1
    rw [List.getElem?_set, if_pos rfl, if_pos (by rw [in_len x n j (by omega)]; exact hq), List.getElem?_append_left (by omega), List.getElem?_take, if_pos (by omega), he]
  · rw [List.getElem?_set, if_neg (fun e => h1 e.symm)]
    rcases Nat.lt_or_ge j q with h2 | h2
    · rw [List.getElem?_append_left (by omega), List.getElem?_append_left (by omega), List.getElem?_take, List.getElem?_take, if_pos h2, if_pos (by omega)]
    · rw [List.getElem?_append_right (by omega), List.getElem?_append_right (by omega), List.getElem?_drop, List.getElem?_drop, hl, hl2, show q + (j - q) = q + 1 + (j - (q + 1)) by omega]
theorem IN.put {g c : Nat} {e : Ed} (h : IN w0 Bn n x (.slice (some ⟨g, 0, none⟩) x.next.length c) q W) (he : x.next[q]? = some e) : IN w0 Bn n x (.slice (some ⟨g, 0, none⟩) x.next.length c) (q + 1) (W.setCell ⟨g, q * 2, none⟩ (.int .i64 e.1)) := by
  have hq := (List.getElem?_eq_some_iff.1 he).1
  obtain ⟨h1, h2⟩ := h.own.put0 (in_len x n q (by omega)) (in_at n he) e.1
  have hgb := (World.ownsRow.lt h.own g rfl).1
  refine ⟨only_setNew h.gr hgb _, h.bn.far (p := ⟨g, q * 2, none⟩) (fun e' => ?_) _, h.hb, ?_⟩
  · obtain ⟨_, cs, hb⟩ := own_row h.own g rfl
    exact Blk.ne_ h.bn hb (by decide) e'
  · rw [show ((e.1, (upE n e).2) : Ed) = e from rfl, in_set n he] at h1
    exact h1
end

end Go.Proofs.Ytacjkkhignjmnaa

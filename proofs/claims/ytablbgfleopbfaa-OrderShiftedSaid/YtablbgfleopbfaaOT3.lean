/- OrderShifted's three tables, side by side: what an append to one leaves of the others. -/
import Derived.Test.YtablbgfleopbfaaOChecks
import Derived.Test.YtablbgfleopbfaaORCh
import Derived.Test.YtablbgfleopbfaaOShQ
namespace Go.Proofs.Ytablbgfleopbfaa
open Go.RowKit Go.Shelf

theorem tmod500 (p : Int) : -500 < p.tmod 500 ∧ p.tmod 500 < 500 := by
  rcases Int.le_total 0 p with h | h
  · rw [Int.tmod_eq_emod_of_nonneg h]; omega
  · have e : p.tmod 500 = -((-p).tmod 500) := by rw [Int.neg_tmod, Int.neg_neg]
    rw [e, Int.tmod_eq_emod_of_nonneg (by omega)]; omega
/-- The block that an append answers with is the one it was, or a new one. -/
theorem append_block {W : World} {ty e t : TypeId} {i : TypeInfo} {z : Value} (ht : Try.prog.underlying t = some (.slice e)) (hi : Try.prog.info? e = some i) (hz : i.zero = some z) (hsz : 0 < i.size)
    {base : Nat} {v : Value} {n : Nat} {xs : List Value} (hown : W.ownsRow base e i.size v n xs) {a : Addr} {m c : Nat} {news : List Value} (hl : news.length = m * i.size) (hnews : ∀ j u, news[j]? = some u → W.cell? (a.add j) = some u) (h1 : ∀ u ∈ news, u.oneCell' = true)
    (hzs : z.cells.size = i.size) (h63 : n + m ≤ maxLen) (hbytes : (n + m) * i.bytes ≤ 140737488355328) {v' : Value} {W' : World}
    (hr : (Builtin.append_ #[t, t] ty #[v, .slice (some a) m c]).run Try.prog W = .ok v' W') : ∀ g, v'.ownBlock = some g → v.ownBlock = some g ∨ W.heap.size ≤ g := by
  intro g hg
  have hsmall : n + m ≤ 9223372036854775807 := Nat.le_trans h63 (by decide)
  rcases hown.2 with ⟨rfl, rfl⟩ | ⟨g0, cap, cur, rfl, hbg, hb, hnc, hcm, hcs, htake⟩
  · obtain ⟨v2, W2, hr2, ho2, _, _⟩ := run_append_own (P := Try.prog) W W.heap.size t ty e i z i.size i.bytes ht hi hz rfl rfl hzs hsz _ 0 xs ⟨by simpa using hown.1, .inl ⟨rfl, rfl⟩⟩ a m c news hl hnews h1 h63 hbytes (Nat.le_refl _)
    rw [hr] at hr2
    cases hr2
    exact .inr (World.ownsRow.lt ho2 g hg).1
  · by_cases hroom : n + m ≤ cap
    · have hfit : n * i.size + news.length ≤ cur.size := by rw [hl, hcs, ← Nat.add_mul]; exact Nat.mul_le_mul_right _ hroom
      have hr2 := run_append_room (P := Try.prog) W t ty e i ht hi g0 n cap cur hb a m c news hl hnews h1 hroom hfit
      rw [hr] at hr2
      cases hr2
      exact .inl hg
    · have hr2 := run_append_grow (P := Try.prog) W t ty e i z ht hi hz ⟨g0, 0, none⟩ n cap xs hown.1 (hown.cells (g := g0) rfl) a m c news hl hnews (by omega) (by omega) (growslice_fits (by omega) hbytes)
      rw [hr] at hr2
      cases hr2
      have : W.heap.size = g := by simpa [Value.ownBlock] using hg
      exact .inr (by omega)
/-- One node more, appended; and where the row lies then. -/
theorem wpList_append_nodeF {ops : Array Oper} {rest : List Oper} {o : Oper} {a : Act} {W : World} {Q : Exit → Act → World → Prop} (hgd : o.guard = none) (s x : Operand)
    (ho : o.op = .call { callee := .builtin .append, args := #[s, x], argTypes := #[22, 22] })
    {base : Nat} {v : Value} {ns : List (Nd × Value)} {nd : Nd} {e : Value} {g : Nat} (hs : a.eval s = v) (hx : a.eval x = .slice (some ⟨g, 0, none⟩) 1 1)
    (hot : OT base W v ns) (hb : Blk W g 41 (ndCells nd e)) (hE : EdgesO base W e nd.next) (hn : ns.length ≤ 1000) (hbase : base ≤ W.heap.size)
    (h : ∀ v' W', OT base W' v' (ns ++ [(nd, e)]) → W.grownBy W' v.ownBlock → (∀ g, v'.ownBlock = some g → v.ownBlock = some g ∨ W.heap.size ≤ g) → wpList Try.prog ops Q rest (a.put o.dst v') W') : wpList Try.prog ops Q (o :: rest) a W := by
  obtain ⟨i0, hi, hz0, hz1, hz2⟩ := info_parts node_info
  have hE2 := hE
  obtain ⟨A2, c2, he, _⟩ := hE2
  have hnews : ∀ j u, (ndCells nd e).toList[j]? = some u → W.cell? ((⟨g, 0, none⟩ : Addr).add j) = some u := fun j u hu => by rw [addr_plain, Nat.zero_add, hb.cell j, ← hu]; simp
  have hone : ∀ u ∈ (ndCells nd e).toList, u.oneCell' = true := fun u hu => by
    rw [he] at hu
    simp only [List.mem_cons, List.not_mem_nil, or_false] at hu
    rcases hu with rfl | rfl | rfl | rfl | rfl | rfl <;> rfl
  have hown := hot.row
  rw [← hz1] at hown
  have hbk := fun {v' : Value} {W' : World} => append_block (W := W) (ty := o.type) (t := 22) Try.underlying22 hi hz0 (by rw [hz1]; decide) hown (a := ⟨g, 0, none⟩) (m := 1) (c := 1) (by rw [hz1]; rfl) hnews hone (by rw [hz1]; rfl) (by unfold maxLen; omega) (by rw [hz2]; omega) (v' := v') (W' := W')
  refine wpList_plain hgd fun K hK => ?_
  obtain ⟨v', W', hr, h2, h3, _⟩ := run_append_own (P := Try.prog) W base 22 o.type 41 i0 _ 6 64 Try.underlying22 hi hz0 hz1 hz2 rfl (by decide) v ns.length (ndAll ns) hot.row ⟨g, 0, none⟩ 1 1 (ndCells nd e).toList rfl hnews hone (by unfold maxLen; omega) (by omega) hbase
  have hbl := hbk hr
  unfold Oper.wp execOp
  simp only [ho, resolve, invoke, builtin, Sem.run_bind, Sem.run_pure, Result.andThen_ok, List.map_toArray, List.map_cons, List.map_nil, hs, hx, hr]
  refine hK _ _ (h v' W' ⟨?_, ?_⟩ h3 hbl)
  · rw [List.length_append, ndAll_snoc]; exact h2
  · intro p hp
    rcases List.mem_append.1 hp with hp | hp
    · refine (hot.eds p hp).grown h3 (fun g' e' => ?_)
      obtain ⟨hb', cs, hblk⟩ := own_row hot.row g' e'
      exact ⟨hb', cs, _, hblk, by decide⟩
    · obtain rfl := List.mem_singleton.1 hp
      refine hE.grown h3 (fun g' e' => ?_)
      obtain ⟨hb', cs, hblk⟩ := own_row hot.row g' e'
      exact ⟨hb', cs, _, hblk, by decide⟩

theorem OT.far {base n : Nat} {W W' : World} {u v : Value} {ns : List (Nd × Value)} {ys : List Value} (h : OT base W v ns) (hu : W.ownsRow base 41 6 u n ys) (hg : W.grownBy W' u.ownBlock) (ne : ∀ g, u.ownBlock = some g → v.ownBlock ≠ some g) : OT base W' v ns := by
  refine ⟨h.row.kept hg ?_, fun p hp => (h.eds p hp).grown hg (fun g' e' => ?_)⟩
  · cases hb : v.ownBlock with
    | none => exact .inl rfl
    | some g => exact .inr (fun e => ne g e.symm hb)
  · obtain ⟨hb', cs, hblk⟩ := own_row hu g' e'
    exact ⟨hb', cs, _, hblk, by decide⟩

/-- Three tables, each in a row of its own. -/
structure T3 (base : Nat) (W : World) (u v s : Value) (a b c : List (Nd × Value)) : Prop where
  o1 : OT base W u a
  o2 : OT base W v b
  o3 : OT base W s c
  n1 : ∀ g, u.ownBlock = some g → v.ownBlock ≠ some g
  n2 : ∀ g, v.ownBlock = some g → s.ownBlock ≠ some g
  n3 : ∀ g, s.ownBlock = some g → u.ownBlock ≠ some g
section
variable {base : Nat} {W W' : World} {u v s u' : Value} {a b c : List (Nd × Value)} {p : Nd × Value}
theorem T3.start (base : Nat) (W : World) : T3 base W (.slice none 0 0) (.slice none 0 0) (.slice none 0 0) [] [] [] := ⟨OT.start _ _, OT.start _ _, OT.start _ _, (fun _ h => by cases h), (fun _ h => by cases h), (fun _ h => by cases h)⟩
theorem T3.rot (h : T3 base W u v s a b c) : T3 base W v s u b c a := ⟨h.o2, h.o3, h.o1, h.n2, h.n3, h.n1⟩
theorem T3.kept (h : T3 base W u v s a b c) (hg : W.grownBy W' none) : T3 base W' u v s a b c := ⟨h.o1.kept hg, h.o2.kept hg, h.o3.kept hg, h.n1, h.n2, h.n3⟩
theorem T3.put1 (h : T3 base W u v s a b c) (hg : W.grownBy W' u.ownBlock) (ho : OT base W' u' (a ++ [p])) (hb : ∀ g, u'.ownBlock = some g → u.ownBlock = some g ∨ W.heap.size ≤ g) : T3 base W' u' v s (a ++ [p]) b c := by
  refine ⟨ho, h.o2.far h.o1.row hg h.n1, h.o3.far h.o1.row hg (fun g e e' => h.n3 g e' e), fun g e e' => ?_, h.n2, fun g e e' => ?_⟩
  · rcases hb g e with h1 | h1
    · exact h.n1 g h1 e'
    · have := (World.ownsRow.lt h.o2.row g e').2
      omega
  · rcases hb g e' with h1 | h1
    · exact h.n3 g e h1
    · have := (World.ownsRow.lt h.o3.row g e).2
      omega
/-- The first's row is none of what stood at an older world. -/
theorem T3.step {w0 : World} (h : T3 base W u v s a b c) (hw : w0.grownBy W none) (hb : w0.heap.size ≤ base) (hg : W.grownBy W' u.ownBlock) : w0.grownBy W' none :=
  grown_own hw (fun g e => Nat.le_trans hb (own_row h.o1.row g e).1) hg
end

/-- What stands within a round: the tables, the node at hand in its box, its edges. -/
structure RN (w1 W : World) (B : Nat) (y : Nd) (vx u v s : Value) (a b c : List (Nd × Value)) : Prop where
  t : T3 w1.heap.size W u v s a b c
  g : w1.grownBy W none
  n : Blk W B 41 (ndCells y vx)
  e : EdgesO w1.heap.size W vx y.next
  l1 : ∀ g, u.ownBlock = some g → g ≠ B
  l2 : ∀ g, v.ownBlock = some g → g ≠ B
  l3 : ∀ g, s.ownBlock = some g → g ≠ B
section
variable {w1 W W' : World} {B : Nat} {y : Nd} {vx u v s u' : Value} {a b c : List (Nd × Value)} {p : Nd × Value}
theorem RN.start {wr : World} (h : T3 w1.heap.size wr u v s a b c) (hg : w1.grownBy wr none) (he : EdgesO w1.heap.size wr vx y.next) (hg2 : wr.grownBy W none) (hb : Blk W wr.heap.size 41 (ndCells y vx)) : RN w1 W wr.heap.size y vx u v s a b c :=
  ⟨h.kept hg2, only_trans hg hg2, hb, he.kept hg2, (fun g e => by have := (World.ownsRow.lt h.o1.row g e).2; omega), (fun g e => by have := (World.ownsRow.lt h.o2.row g e).2; omega), (fun g e => by have := (World.ownsRow.lt h.o3.row g e).2; omega)⟩
theorem RN.rot (h : RN w1 W B y vx u v s a b c) : RN w1 W B y vx v s u b c a := ⟨h.t.rot, h.g, h.n, h.e, h.l2, h.l3, h.l1⟩
theorem RN.kept (h : RN w1 W B y vx u v s a b c) (hg : W.grownBy W' none) : RN w1 W' B y vx u v s a b c := ⟨h.t.kept hg, only_trans h.g hg, h.n.kept hg, h.e.kept hg, h.l1, h.l2, h.l3⟩
theorem RN.put1 (h : RN w1 W B y vx u v s a b c) (hg : W.grownBy W' u.ownBlock) (ho : OT w1.heap.size W' u' (a ++ [p])) (hb : ∀ g, u'.ownBlock = some g → u.ownBlock = some g ∨ W.heap.size ≤ g) : RN w1 W' B y vx u' v s (a ++ [p]) b c := by
  have hB := h.n.lt
  refine ⟨h.t.put1 hg ho hb, h.t.step h.g (Nat.le_refl _) hg, h.n.grown hg (fun e => h.l1 B e.symm rfl), h.e.grown hg (fun g' e' => ?_), fun g e => ?_, h.l2, h.l3⟩
  · obtain ⟨hb', cs, hblk⟩ := own_row h.t.o1.row g' e'
    exact ⟨hb', cs, _, hblk, by decide⟩
  · rcases hb g e with h1 | h1
    · exact h.l1 g h1
    · omega
end

/-- Within the loop over the edges: the steeper node in its box, its edges in a row of their own. -/
structure SB (W3 : World) (y : Nd) (ev : Value) (W : World) : Prop where
  step : W3.grownBy W none
  box : Blk W W3.heap.size 41 (ndCells y ev)
  own : EOwn (W3.heap.size + 1) W ev y.next
section
variable {W3 W W' : World} {y : Nd} {ev ev' : Value}
theorem SB.start (W3 : World) (k p : Int) (ch : Bool) (pay : Ed) : SB W3 ⟨k, p, ch, pay, []⟩ (.slice none 0 0) (W3.alloc (.cells (ndCells ⟨k, p, ch, pay, []⟩ (.slice none 0 0)) 41)) :=
  ⟨only_alloc (only_refl _ _) _, Blk.new _ _ _, EOwn.nil_ _ _⟩
theorem SB.kept (h : SB W3 y ev W) (hg : W.grownBy W' none) : SB W3 y ev W' := ⟨only_trans h.step hg, h.box.kept hg, h.own.kept0 hg⟩
theorem SB.grown (h : SB W3 y ev W) (hg : W.grownBy W' ev.ownBlock) : W3.grownBy W' none ∧ Blk W' W3.heap.size 41 (ndCells y ev) := by
  have hf : ∀ g, ev.ownBlock = some g → W3.heap.size + 1 ≤ g := fun g e => (World.ownsRow.lt h.own g e).1
  exact ⟨grown_own h.step (fun g e => by have := hf g e; omega) hg, h.box.grown hg (fun e => by have := hf _ e.symm; omega)⟩
theorem SB.next {e : Ed} (h : SB W3 y ev W) (hg : W.grownBy W' ev.ownBlock) (ho : EOwn (W3.heap.size + 1) W' ev' (y.next ++ [e])) : SB W3 { y with next := y.next ++ [e] } ev' (W'.setCell ⟨W3.heap.size, 5, none⟩ ev') := by
  obtain ⟨g1, g2⟩ := h.grown hg
  refine ⟨only_setNew g1 (p := ⟨W3.heap.size, 5, none⟩) (Nat.le_refl _) _, g2.set_ 5 ev', ho.kept (only_setCell (only_refl _ (some W3.heap.size)) rfl _) (fun g e' e2 => ?_)⟩
  have := (World.ownsRow.lt ho g e').1
  simp only [Option.some.injEq] at e2
  omega
end
theorem steep_take {next : List Ed} {q : Nat} {e : Ed} (h : next[q]? = some e) : (next.take (q + 1)).map steepE = (next.take q).map steepE ++ [steepE e] := by
  rw [take_len h, List.map_append]; rfl
end Go.Proofs.Ytablbgfleopbfaa

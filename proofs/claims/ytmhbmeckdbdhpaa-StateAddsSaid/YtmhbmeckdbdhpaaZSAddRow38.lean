/- Texts joined for the claim's sake: CLyA, CPtA, CPtB. -/
import Derived.Test.YtmhbmeckdbdhpaaZSAddRow26
import Derived.Test.YtmhbmeckdbdhpaaZSAddRow35
import Derived.Great.BuildSlice
import Derived.Deep.MidRow
import Derived.Test.YtmhbmeckdbdhpaaZSAddRow24
namespace Go.Proofs.Ytmhbmeckdbdhpaa
open Go.RowKit Go.Shelf

section
variable {o : Oper} {b : Act} {W : World} {K : Act → World → Prop} {Q : Exit → Act → World → Prop}
theorem wp_buildI {t : Tmp} {z : Int} (ho : o.op = .buildSlice 26 1 #[(0, .tmp t)]) (h : b.eval (.tmp t) = .int .i64 z)
    (hK : K (b.put o.dst (.slice (some ⟨W.heap.size, 0, none⟩) 1 1)) (W.alloc (.cells #[.int .i64 z] 3))) : o.wp Try.prog b W K Q := by
  obtain ⟨dst, op, type, pos, after, guard⟩ := o
  dsimp only at ho
  subst ho
  have h' : b.tmps[t]?.getD undef = .int .i64 z := by simpa [Act.eval] using h
  unfold Oper.wp
  simp only [execOp]
  go_simp
  exact hK
theorem wp_appendI (s x : Operand) (ho : o.op = .call { callee := .builtin .append, args := #[s, x], argTypes := #[26, 26] })
    {base : Nat} {v : Value} {zs : List Int} {z : Int} {g : Nat} (hs : b.eval s = v) (hx : b.eval x = .slice (some ⟨g, 0, none⟩) 1 1)
    (hot : IOwn base W v zs) (hb : Blk W g 3 #[.int .i64 z]) (hn : zs.length ≤ 1000) (hbase : base ≤ W.heap.size)
    (h : ∀ v' W', IOwn base W' v' (zs ++ [z]) → W.grownBy W' v.ownBlock → (∀ g, v'.ownBlock = some g → v.ownBlock = some g ∨ W.heap.size ≤ g) → K (b.put o.dst v') W') : o.wp Try.prog b W K Q := by
  obtain ⟨i0, hi, hz0, hz1, hz2⟩ := info_parts intI_info
  have hnews : ∀ j u, [Value.int .i64 z][j]? = some u → W.cell? ((⟨g, 0, none⟩ : Addr).add j) = some u := fun j u hu => by rw [addr_plain, Nat.zero_add, hb.cell j, ← hu]; simp
  have hone : ∀ u ∈ [Value.int .i64 z], u.oneCell' = true := fun u hu => by obtain rfl := List.mem_singleton.1 hu; rfl
  have hown : W.ownsRow base 3 i0.size v zs.length (inAll zs) := by rw [hz1]; exact hot
  have hbk := fun {v' : Value} {W' : World} => append_blockG (W := W) (ty := o.type) (t := 26) Try.underlying26 hi hz0 (by rw [hz1]; decide) hown (a := ⟨g, 0, none⟩) (m := 1) (c := 1) (by rw [hz1]; rfl) hnews hone (by rw [hz1]; rfl) (by unfold maxLen; omega) (by rw [hz2]; omega) (v' := v') (W' := W')
  obtain ⟨v', W', hr, h2, h3, _⟩ := run_append_own (P := Try.prog) W base 26 o.type 3 i0 _ 1 8 Try.underlying26 hi hz0 hz1 hz2 rfl (by decide) v zs.length (inAll zs) hot ⟨g, 0, none⟩ 1 1 [Value.int .i64 z] rfl hnews hone (by unfold maxLen; omega) (by omega) hbase
  have hbl := hbk hr
  unfold Oper.wp execOp
  simp only [ho, resolve, invoke, builtin, Sem.run_bind, Sem.run_pure, Result.andThen_ok, List.map_toArray, List.map_cons, List.map_nil, hs, hx, hr]
  refine h v' W' ?_ h3 hbl
  show World.ownsRow _ _ _ _ _ _ _
  have e : inAll (zs ++ [z]) = inAll zs ++ [.int .i64 z] := by unfold inAll; simp
  rw [List.length_append, e]; exact h2
theorem wp_storeIs {t u : Tmp} {g k : Nat} {ty : TypeId} {cs : Array Value} {A0 A : Option Addr} {n0 c0 n c : Nat} (ho : o.op = .store 26 (.tmp t) (.tmp u)) (ht : b.eval (.tmp t) = .pointer (some ⟨g, k, none⟩)) (h : b.eval (.tmp u) = .slice A n c)
    (hb : Blk W g ty cs) (hc : cs[k]? = some (.slice A0 n0 c0)) (hK : K (b.put o.dst undef) (W.setCell ⟨g, k, none⟩ (.slice A n c))) : o.wp Try.prog b W K Q := by
  obtain ⟨dst, op, type, pos, after, guard⟩ := o
  dsimp only at ho
  subst ho
  have c5 : W.cell? ⟨g, k, none⟩ = some (.slice A0 n0 c0) := (hb.cell k).trans hc
  have f5 := hb.frozen k
  unfold Oper.wp
  simp only [execOp, h, ht]
  go_simp
  exact hK
theorem rv_laid1 {g : Nat} {t : Tmp} (ho : o.op = .fieldAddr 90 (.tmp t) 1) (h1 : b.eval (.tmp t) = .pointer (some ⟨g, 0, none⟩)) : (execOp b.eval o).run Try.prog W = .ok (.value (.pointer (some ⟨g, 1, none⟩))) W := by
  obtain ⟨dst, op, type, pos, after, guard⟩ := o
  dsimp only at ho
  subst ho
  simp only [execOp, h1]
  go_simp
theorem rv_laid2 {g : Nat} {t : Tmp} (ho : o.op = .fieldAddr 90 (.tmp t) 2) (h1 : b.eval (.tmp t) = .pointer (some ⟨g, 0, none⟩)) : (execOp b.eval o).run Try.prog W = .ok (.value (.pointer (some ⟨g, 2, none⟩))) W := by
  obtain ⟨dst, op, type, pos, after, guard⟩ := o
  dsimp only at ho
  subst ho
  simp only [execOp, h1]
  go_simp
theorem rv_type0 {g : Nat} {t : Tmp} (ho : o.op = .fieldAddr 59 (.tmp t) 0) (h1 : b.eval (.tmp t) = .pointer (some ⟨g, 0, none⟩)) : (execOp b.eval o).run Try.prog W = .ok (.value (.pointer (some ⟨g, 0, none⟩))) W := by
  obtain ⟨dst, op, type, pos, after, guard⟩ := o
  dsimp only at ho
  subst ho
  simp only [execOp, h1]
  go_simp
end

/-- What stands: the box, the two rows that grow. -/
structure LZ (w1 : World) (bx : Array Value) (ut up : Value) (zs ys : List Int) (W : World) : Prop where
  gr : w1.grownBy W none
  bl : Blk W w1.heap.size 90 bx
  it : IOwn w1.heap.size W ut zs
  ip : IOwn w1.heap.size W up ys
  ne : ∀ g, ut.ownBlock = some g → up.ownBlock ≠ some g
section
variable {w1 W W' : World} {bx : Array Value} {ut up u : Value} {zs ys ls : List Int}
theorem LZ.kept (h : LZ w1 bx ut up zs ys W) (hg : W.grownBy W' none) : LZ w1 bx ut up zs ys W' := ⟨only_trans h.gr hg, h.bl.kept hg, h.it.kept0 hg, h.ip.kept0 hg, h.ne⟩
theorem LZ.putT (h : LZ w1 bx ut up zs ys W) (hg : W.grownBy W' ut.ownBlock) (ho : IOwn w1.heap.size W' u ls) (hb : ∀ g, u.ownBlock = some g → ut.ownBlock = some g ∨ W.heap.size ≤ g) : LZ w1 bx u up ls ys W' := by
  refine ⟨grown_own h.gr (fun g e => (World.ownsRow.lt h.it g e).1) hg, own_blk h.it hg h.bl (by decide), ho, h.ip.kept hg (fun g e e' => h.ne g e' e), fun g e e' => ?_⟩
  rcases hb g e with h3 | h3
  · exact h.ne g h3 e'
  · have := (World.ownsRow.lt h.ip g e').2; omega
theorem LZ.putP (h : LZ w1 bx ut up zs ys W) (hg : W.grownBy W' up.ownBlock) (ho : IOwn w1.heap.size W' u ls) (hb : ∀ g, u.ownBlock = some g → up.ownBlock = some g ∨ W.heap.size ≤ g) : LZ w1 bx ut u zs ls W' := by
  refine ⟨grown_own h.gr (fun g e => (World.ownsRow.lt h.ip g e).1) hg, own_blk h.ip hg h.bl (by decide), h.it.kept hg (fun g e e' => h.ne g e e'), ho, fun g e e' => ?_⟩
  rcases hb g e' with h3 | h3
  · exact h.ne g e h3
  · have := (World.ownsRow.lt h.it g e).2; omega
theorem LZ.box (h : LZ w1 bx ut up zs ys W) (k : Nat) (u : Value) : LZ w1 (bx.setIfInBounds k u) ut up zs ys (W.setCell ⟨w1.heap.size, k, none⟩ u) := by
  have hs : W.grownBy (W.setCell ⟨w1.heap.size, k, none⟩ u) (some w1.heap.size) := only_setCell (only_refl _ _) rfl _
  have hne : ∀ g, some w1.heap.size = some g → ∃ t cs, Blk W g t cs ∧ t ≠ 3 := fun g e => by injection e with e; subst e; exact ⟨_, _, h.bl, by decide⟩
  exact ⟨only_setNew h.gr (Nat.le_refl _) _, h.bl.set_ k u, h.it.other hs hne, h.ip.other hs hne, h.ne⟩
end
/-- A row that is built of one int, apart from another row. -/
def NewI (f : Tmp → Value) (t : Tmp) (z : Int) (v : Value) (W : World) : Prop := ∃ g, f t = .slice (some ⟨g, 0, none⟩) 1 1 ∧ Blk W g 3 #[.int .i64 z] ∧ v.ownBlock ≠ some g
/-- What stands as two rows grow by one in a region. -/
def TLy (w1 : World) (v2 vt vp : Value) (zs ys : List Int) (Bg : Nat) (z y s : Int) (d : Nat → Bool) (f : Tmp → Value) (W : World) : Prop :=
  if d 14 then ∃ t' p', LZ w1 #[v2, t', p'] t' p' (zs ++ [z]) (ys ++ [y]) W
  else if d 12 then ∃ t' p', f 46 = p' ∧ LZ w1 #[v2, t', vp] t' p' (zs ++ [z]) (ys ++ [y]) W
  else if d 10 then ∃ t' p', f 41 = t' ∧ f 46 = p' ∧ LZ w1 #[v2, vt, vp] t' p' (zs ++ [z]) (ys ++ [y]) W
  else if d 5 then (∃ t', f 41 = t' ∧ LZ w1 #[v2, vt, vp] t' vp (zs ++ [z]) ys W) ∧ (d 9 = true → NewI f 45 y vp W)
  else LZ w1 #[v2, vt, vp] vt vp zs ys W ∧ Blk W Bg 59 #[.int .i64 z, .int .i64 s] ∧ (d 4 = true → NewI f 40 z vt W) ∧ (d 9 = true → NewI f 45 y vp W ∧ NewI f 45 y vt W)
section
variable {w1 W : World} {v2 vt vp : Value} {zs ys : List Int} {Bg : Nat} {z y s : Int} {d d' : Nat → Bool} {f g : Tmp → Value}
theorem TLy.congr (h : TLy w1 v2 vt vp zs ys Bg z y s d f W) (h40 : f 40 = g 40) (h41 : f 41 = g 41) (h45 : f 45 = g 45) (h46 : f 46 = g 46) : TLy w1 v2 vt vp zs ys Bg z y s d g W := by
  unfold TLy NewI at h ⊢
  rw [h40, h41, h45, h46] at h
  exact h
theorem TLy.same (h : TLy w1 v2 vt vp zs ys Bg z y s d f W) (h4 : d 4 = d' 4) (h5 : d 5 = d' 5) (h9 : d 9 = d' 9) (h10 : d 10 = d' 10) (h12 : d 12 = d' 12) (h14 : d 14 = d' 14) : TLy w1 v2 vt vp zs ys Bg z y s d' f W := by
  unfold TLy at h ⊢
  rw [h4, h5, h9, h10, h12, h14] at h
  exact h
theorem tly_a (h5 : d 5 = false) (h10 : d 10 = false) (h12 : d 12 = false) (h14 : d 14 = false) : TLy w1 v2 vt vp zs ys Bg z y s d f W ↔ LZ w1 #[v2, vt, vp] vt vp zs ys W ∧ Blk W Bg 59 #[.int .i64 z, .int .i64 s] ∧ (d 4 = true → NewI f 40 z vt W) ∧ (d 9 = true → NewI f 45 y vp W ∧ NewI f 45 y vt W) := by
  unfold TLy
  rw [h5, h10, h12, h14]
  simp only [Bool.false_eq_true, if_false]
theorem tly_b (h5 : d 5 = true) (h10 : d 10 = false) (h12 : d 12 = false) (h14 : d 14 = false) : TLy w1 v2 vt vp zs ys Bg z y s d f W ↔ (∃ t', f 41 = t' ∧ LZ w1 #[v2, vt, vp] t' vp (zs ++ [z]) ys W) ∧ (d 9 = true → NewI f 45 y vp W) := by
  unfold TLy
  rw [h5, h10, h12, h14]
  simp only [Bool.false_eq_true, if_false, if_true]
theorem tly_c (h10 : d 10 = true) (h12 : d 12 = false) (h14 : d 14 = false) : TLy w1 v2 vt vp zs ys Bg z y s d f W ↔ ∃ t' p', f 41 = t' ∧ f 46 = p' ∧ LZ w1 #[v2, vt, vp] t' p' (zs ++ [z]) (ys ++ [y]) W := by
  unfold TLy
  rw [h10, h12, h14]
  simp only [Bool.false_eq_true, if_false, if_true]
theorem tly_d (h12 : d 12 = true) (h14 : d 14 = false) : TLy w1 v2 vt vp zs ys Bg z y s d f W ↔ ∃ t' p', f 46 = p' ∧ LZ w1 #[v2, t', vp] t' p' (zs ++ [z]) (ys ++ [y]) W := by
  unfold TLy
  rw [h12, h14]
  simp only [Bool.false_eq_true, if_false, if_true]
theorem tly_e (h14 : d 14 = true) : TLy w1 v2 vt vp zs ys Bg z y s d f W ↔ ∃ t' p', LZ w1 #[v2, t', p'] t' p' (zs ++ [z]) (ys ++ [y]) W := by
  unfold TLy
  rw [h14]
  simp only [if_true]
end
theorem not_done {b : Bool} (h : b = true → False) : b = false := by cases b with
  | false => rfl
  | true => exact (h rfl).elim
theorem doneD_at (d : Nat → Bool) (i : Nat) : doneD d i i = true := by unfold doneD; rw [if_pos rfl]
theorem doneD_ne (d : Nat → Bool) {i j : Nat} (h : j ≠ i) : doneD d i j = d j := by unfold doneD; rw [if_neg h]
theorem act_put_ne {b : Act} {o : Option Tmp} {t : Tmp} (x : Value) (h : o ≠ some t) : (b.put o x).tmps.getD t undef = b.tmps.getD t undef := by
  cases o with
  | none => rfl
  | some s =>
    have : s ≠ t := fun e => h (by rw [e])
    simp [Act.put, Array.getD_eq_getD_getElem?, Array.getElem?_setIfInBounds_ne this]
theorem NewI.kept {f g : Tmp → Value} {t : Tmp} {z : Int} {v : Value} {W W' : World} (h : NewI f t z v W) (hg : W.grownBy W' none) (hf : f t = g t) : NewI g t z v W' := by
  obtain ⟨k, h1, h2, h3⟩ := h
  exact ⟨k, hf ▸ h1, h2.kept hg, h3⟩
theorem NewI.grown {f g : Tmp → Value} {t : Tmp} {z : Int} {v u : Value} {W W' : World} (h : NewI f t z v W) (h' : NewI f t z u W) (hg : W.grownBy W' u.ownBlock) (hf : f t = g t) : NewI g t z v W' := by
  obtain ⟨k, h1, h2, h3⟩ := h
  obtain ⟨k', h1', _, h3'⟩ := h'
  rw [h1] at h1'
  simp only [Value.slice.injEq, Option.some.injEq, Addr.mk.injEq, and_true] at h1'
  subst h1'
  exact ⟨k, hf ▸ h1, h2.grown hg (fun e => h3' e.symm), h3⟩
theorem NewI.made {b : Act} {t : Tmp} {z : Int} {v : Value} {W : World} {base : Nat} {zs : List Int} (ht : t < b.tmps.size) (hv : IOwn base W v zs) : NewI (fun s => (b.put (some t) (.slice (some ⟨W.heap.size, 0, none⟩) 1 1)).tmps.getD s undef) t z v (W.alloc (.cells #[.int .i64 z] 3)) :=
  ⟨W.heap.size, act_put_atC _ ht, Blk.new _ _ _, fun e => by have := (World.ownsRow.lt hv _ e).2; omega⟩
/-- A block that holds an int is kept. -/
def KeepsI (W W' : World) : Prop := ∀ g o q z, W.cell? ⟨g, o, none⟩ = some (.int q z) → ∀ o' u, W.cell? ⟨g, o', none⟩ = some u → W'.cell? ⟨g, o', none⟩ = some u
theorem Edges.keepI {W W' : World} {v : Value} {es : List Ed} (h : Edges W v es) (hk : KeepsI W W') : Edges W' v es := by
  obtain ⟨A, c, h1, hl, h2⟩ := h
  refine ⟨A, c, h1, hl, fun hn => ?_⟩
  obtain ⟨b, off, h3, h4⟩ := h2 hn
  exact ⟨b, off, h3, fun i e he => ⟨hk _ _ _ _ (h4 i e he).1 _ _ (h4 i e he).1, hk _ _ _ _ (h4 i e he).1 _ _ (h4 i e he).2⟩⟩
theorem Ints.keepI {W W' : World} {v : Value} {zs : List Int} (h : Ints W v zs) (hk : KeepsI W W') : Ints W' v zs := by
  obtain ⟨A, c, h1, hl, h2⟩ := h
  refine ⟨A, c, h1, hl, fun hn => ?_⟩
  obtain ⟨b, off, h3, h4⟩ := h2 hn
  exact ⟨b, off, h3, fun i z hz => hk _ _ _ _ (h4 i z hz) _ _ (h4 i z hz)⟩
theorem Tbl.keepI {W W' : World} {v : Value} {xs : List Nd} (h : Tbl W v xs) (hk : KeepsI W W') : Tbl W' v xs := by
  obtain ⟨A, c, h1, h2⟩ := h
  refine ⟨A, c, h1, fun hn => ?_⟩
  obtain ⟨b, off, h3, h4⟩ := h2 hn
  refine ⟨b, off, h3, fun i x hx => ?_⟩
  obtain ⟨e, hE, m0, m1, m2, m3, m4, m5⟩ := h4 i x hx
  have k := hk _ _ _ _ m0
  exact ⟨e, hE.keepI hk, k _ _ m0, k _ _ m1, k _ _ m2, k _ _ m3, k _ _ m4, k _ _ m5⟩
/-- Three slices in a box are turned. -/
theorem three_set {W : World} {g : Nat} {t : TypeId} {A0 A1 A2 : Option Addr} {n0 n1 n2 c0 c1 c2 : Nat} (h : Blk W g t #[.slice A0 n0 c0, .slice A1 n1 c1, .slice A2 n2 c2]) (a0 a1 a2 : Value) :
    Blk (((W.setCell ⟨g, 0, none⟩ a0).setCell ⟨g, 1, none⟩ a1).setCell ⟨g, 2, none⟩ a2) g t #[a0, a1, a2] ∧ W.grownBy (((W.setCell ⟨g, 0, none⟩ a0).setCell ⟨g, 1, none⟩ a1).setCell ⟨g, 2, none⟩ a2) (some g) ∧ KeepsI W (((W.setCell ⟨g, 0, none⟩ a0).setCell ⟨g, 1, none⟩ a1).setCell ⟨g, 2, none⟩ a2) := by
  have h0 : W.grownBy (W.setCell ⟨g, 0, none⟩ a0) (some g) := only_setCell (only_refl _ _) rfl _
  have b0 := h.set_ 0 a0
  generalize W.setCell ⟨g, 0, none⟩ a0 = W0 at *
  have h1 : W.grownBy (W0.setCell ⟨g, 1, none⟩ a1) (some g) := only_setCell h0 rfl _
  have b1 := b0.set_ 1 a1
  generalize W0.setCell ⟨g, 1, none⟩ a1 = W1 at *
  have h2 : W.grownBy (W1.setCell ⟨g, 2, none⟩ a2) (some g) := only_setCell h1 rfl _
  refine ⟨b1.set_ 2 a2, h2, fun k o q z hc o' u hu => ?_⟩
  have hne : k ≠ g := fun e => by
    subst e
    rw [h.cell o] at hc
    match o, hc with
    | 0, hc => cases hc
    | 1, hc => cases hc
    | 2, hc => cases hc
    | o + 3, hc => simp at hc
  exact (World.cell?_of_block (a := ⟨k, o', none⟩) (h2.block k (cell_lt hu) (fun e => hne (Option.some.inj e)))).trans hu
end Go.Proofs.Ytmhbmeckdbdhpaa

namespace Go.Proofs.Ytmhbmeckdbdhpaa
open Go.RowKit Go.Shelf Go.Maps

theorem known_info : (Try.prog.info? 97).map (fun i => (i.zero, i.size, i.bytes)) = some (some (.agg (knC 0 false (0, 0) 0 [])), 21, 168) := by kernel_rfl
theorem wpList_make_ints {ops : Array Oper} {rest : List Oper} {o : Oper} {a : Act} {W : World} {Q : Exit → Act → World → Prop} (hgd : o.guard = none) (l c : Operand) (ho : o.op = .makeSlice 26 l c)
    {N : Int} {n : Nat} (hl : a.eval l = .int .i64 N) (hc : a.eval c = .int .i64 N) (hN : N = (n : Int)) (hn : n ≤ 1000)
    (h : ∀ W', Blk W' W.heap.size 3 (Array.replicate n (.int .i64 0)) → W.grownBy W' none → W'.heap.size = W.heap.size + 1 → wpList Try.prog ops Q rest (a.put o.dst (.slice (some ⟨W.heap.size, 0, none⟩) n n)) W') : wpList Try.prog ops Q (o :: rest) a W := by
  obtain ⟨i0, hi, hz0, hz1, hz2⟩ := info_parts intI_info
  refine wpList_plain hgd fun K hK => ?_
  have hr := run_make (P := Try.prog) W 26 3 i0 _ Try.underlying26 hi hz0 .i64 .i64 (n : Int) (n : Int) (by omega) (Int.le_refl _) (by rw [hz2]; omega) (by omega)
  simp only [Int.toNat_natCast] at hr
  subst hN
  unfold Oper.wp
  simp [execOp, ho, hl, hc, hr, Result.andThen]
  refine hK _ _ (h _ ?_ (World.grownBy_alloc W _ none) (by simp))
  rw [hz1, made_one _ rfl]
  exact Blk.new _ _ _
/-- A row of ints of a fixed length: the first ones are written, the others are 0. -/
def rowN (n : Nat) (os : List Nat) : Array Value := ((List.range n).map fun i => Value.int .i64 ((os.getD i 0 : Nat) : Int)).toArray
theorem rowN_nil (n : Nat) : Array.replicate n (Value.int .i64 0) = rowN n [] := by
  unfold rowN
  apply Array.ext
  · simp
  · intro i h1 h2; simp
theorem rowN_set {n : Nat} {os : List Nat} (h : os.length < n) (c : Nat) : (rowN n os).setIfInBounds os.length (.int .i64 (c : Int)) = rowN n (os ++ [c]) := by
  apply Array.ext_getElem?
  intro i
  unfold rowN
  rw [Array.getElem?_setIfInBounds]
  simp only [List.getElem?_toArray, List.getElem?_map, List.size_toArray, List.length_map, List.length_range]
  by_cases e : os.length = i
  · subst e
    rw [if_pos rfl, if_pos h, List.getElem?_range h, Option.map_some, List.getD_eq_getElem?_getD, List.getElem?_append_right (Nat.le_refl _), Nat.sub_self]; rfl
  · rw [if_neg e]
    rcases Nat.lt_or_ge i n with hi | hi
    · rw [List.getElem?_range hi, Option.map_some, Option.map_some, List.getD_eq_getElem?_getD, List.getD_eq_getElem?_getD]
      rcases Nat.lt_or_ge i os.length with h3 | h3
      · rw [List.getElem?_append_left h3]
      · rw [List.getElem?_append_right h3, List.getElem?_eq_none h3, List.getElem?_eq_none (by simp; omega)]
    · rw [List.getElem?_eq_none (by simp; omega)]; rfl
theorem rowN_ints {W : World} {g : Nat} {n : Nat} {os : List Nat} (hb : Blk W g 3 (rowN n os)) (hl : os.length = n) (hn : n ≤ 1000) : Ints W (.slice (some ⟨g, 0, none⟩) n n) (os.map Int.ofNat) := by
  refine ⟨_, n, by rw [List.length_map, hl], by rw [List.length_map]; omega, fun _ => ⟨g, 0, rfl, fun i z hz => ?_⟩⟩
  rw [List.getElem?_map] at hz
  obtain ⟨c, hc, rfl⟩ := Option.map_eq_some_iff.1 hz
  have hi : i < n := by have := (List.getElem?_eq_some_iff.1 hc).1; omega
  rw [Nat.zero_add, hb.cell i]
  unfold rowN
  simp only [List.getElem?_toArray, List.getElem?_map, List.getElem?_range hi, Option.map_some]
  rw [getD_some hc]; rfl
theorem rowN_at {W : World} {g : Nat} {n i : Nat} {os : List Nat} (hb : Blk W g 3 (rowN n os)) (hi : i < n) : W.cell? ⟨g, i, none⟩ = some (.int .i64 ((os.getD i 0 : Nat) : Int)) := by
  rw [hb.cell i]
  unfold rowN
  simp only [List.getElem?_toArray, List.getElem?_map, List.getElem?_range hi, Option.map_some]

/-! ### Rows of what is known -/
def knAll (ks : List Nd) : List Value := ks.flatMap fun x => (knA x).toList
theorem knA_len (x : Nd) : (knA x).toList.length = 21 := rfl
theorem knAll_len : ∀ ks : List Nd, (knAll ks).length = ks.length * 21
  | [] => rfl
  | x :: ks => by
    have := knAll_len ks
    unfold knAll at this ⊢
    rw [List.flatMap_cons, List.length_append, knA_len, this, List.length_cons]
    omega
theorem knAll_snoc (ks : List Nd) (x : Nd) : knAll (ks ++ [x]) = knAll ks ++ (knA x).toList := by simp [knAll]
theorem knAll_one (ks : List Nd) : ∀ u ∈ knAll ks, u.oneCell' = true := fun u hu => by
  unfold knAll at hu
  obtain ⟨x, _, hx⟩ := List.mem_flatMap.1 hu
  exact Array.all_eq_true_iff_forall_mem.1 (knC_one x.kind x.chan x.pay (x.next.length : Int) x.next) u (Array.mem_toList_iff.1 hx)
theorem knAll_at {x : Nd} : ∀ {ks : List Nd} {i : Nat}, ks[i]? = some x → ∀ j, j < 21 → (knAll ks)[i * 21 + j]? = (knA x).toList[j]?
  | [], i, h, _, _ => by simp at h
  | y :: ks, 0, h, j, hj => by
    simp only [List.getElem?_cons_zero, Option.some.injEq] at h
    subst h
    unfold knAll
    rw [List.flatMap_cons, Nat.zero_mul, Nat.zero_add, List.getElem?_append_left (by rw [knA_len]; exact hj)]
  | y :: ks, i + 1, h, j, hj => by
    rw [List.getElem?_cons_succ] at h
    have := knAll_at h j hj
    unfold knAll at this ⊢
    rw [List.flatMap_cons, List.getElem?_append_right (by rw [knA_len]; omega), knA_len, ← this]
    congr 1
    omega
def KOwn (base : Nat) (W : World) (v : Value) (ks : List Nd) : Prop := W.ownsRow base 97 21 v ks.length (knAll ks)
/-- A slice that reads as a list of what is known. -/
def KRow (W : World) (v : Value) (ks : List Nd) : Prop := ∃ (A : Option Addr) (c : Nat), v = .slice A ks.length c ∧ (ks ≠ [] → ∃ b off, A = some ⟨b, off, none⟩ ∧ ∀ (i : Nat) (x : Nd), ks[i]? = some x → W.rangeAt b (off + i * 21) (knA x).toList)
theorem KRow.keep {W W' : World} {v : Value} {ks : List Nd} (h : KRow W v ks) (hk : Keeps W W') : KRow W' v ks := by
  obtain ⟨A, c, h1, h2⟩ := h
  refine ⟨A, c, h1, fun hn => ?_⟩
  obtain ⟨b, off, h3, h4⟩ := h2 hn
  exact ⟨b, off, h3, fun i x hx j u hu => hk _ _ (h4 i x hx j u hu)⟩
section
variable {base : Nat} {W W' : World} {v : Value} {ks : List Nd}
theorem KOwn.nil_ (base : Nat) (W : World) : KOwn base W (.slice none 0 0) [] := World.ownsRow_nil _ _ _ _
theorem KOwn.kept {row : Option Nat} (h : KOwn base W v ks) (hg : W.grownBy W' row) (hr : ∀ g, v.ownBlock = some g → row ≠ some g) : KOwn base W' v ks := by
  refine World.ownsRow.kept h hg ?_
  cases hb : v.ownBlock with
  | none => exact .inl rfl
  | some g => exact .inr (fun e => hr g hb e.symm)
theorem KOwn.kept0 (h : KOwn base W v ks) (hg : W.grownBy W' none) : KOwn base W' v ks := h.kept hg (fun _ _ e => by cases e)
theorem KOwn.other {row : Option Nat} (h : KOwn base W v ks) (hg : W.grownBy W' row) (hr : ∀ g, row = some g → ∃ o : Obj, W.heap[g]? = some o ∧ ∀ cs, o ≠ .cells cs 97 (0, 0)) : KOwn base W' v ks := h.kept hg (fun g e e' => by
  obtain ⟨o, hb, ht⟩ := hr g e'
  obtain ⟨_, cs', hb'⟩ := own_row h g e
  unfold Blk at hb'
  rw [hb'] at hb
  exact ht cs' (Option.some.inj hb).symm)
theorem KOwn.nil_of (hs : ks.length = 0 ∨ knAll ks = []) : ks = [] := by
  rcases hs with h | h
  · exact List.eq_nil_of_length_eq_zero h
  · have := knAll_len ks
    rw [h] at this
    exact List.eq_nil_of_length_eq_zero (by simp at this; omega)
theorem KOwn.row (h : KOwn base W v ks) : KRow W v ks := by
  rcases h.2 with ⟨rfl, he⟩ | ⟨g, cap, cur, rfl, hb, hh, _⟩
  · obtain rfl := KOwn.nil_of (.inl he)
    exact ⟨none, 0, rfl, fun h => absurd rfl h⟩
  · refine ⟨_, cap, rfl, fun _ => ⟨g, 0, rfl, fun i x hx j u hu => ?_⟩⟩
    have hj : j < 21 := by have := (List.getElem?_eq_some_iff.1 hu).1; rwa [knA_len] at this
    have := h.cells (g := g) rfl (i * 21 + j) u ((knAll_at hx j hj).trans hu)
    rw [addr_plain, Nat.zero_add] at this
    show W.cell? ⟨g, 0 + i * 21 + j, none⟩ = _
    rw [show 0 + i * 21 + j = i * 21 + j by omega]; exact this
theorem KOwn.len (h : KOwn base W v ks) : ∃ A c, v = .slice A ks.length c := by
  obtain ⟨A, c, h1, _⟩ := h.row
  exact ⟨A, c, h1⟩
end
section
variable {o : Oper} {b : Act} {W : World} {K : Act → World → Prop} {Q : Exit → Act → World → Prop}
theorem wp_buildK {t : Tmp} {x : Nd} (ho : o.op = .buildSlice 92 1 #[(0, .tmp t)]) (h : b.eval (.tmp t) = knV x)
    (hK : K (b.put o.dst (.slice (some ⟨W.heap.size, 0, none⟩) 1 1)) (W.alloc (.cells (knA x) 97))) : o.wp Try.prog b W K Q := by
  obtain ⟨dst, op, type, pos, after, guard⟩ := o
  dsimp only at ho
  subst ho
  have h'' : b.tmps[t]?.getD undef = knV x := by simpa [Act.eval] using h
  have h' : b.tmps[t]?.getD undef = .agg (knC x.kind x.chan x.pay (x.next.length : Int) x.next) := h''
  clear h''
  unfold Oper.wp
  simp only [execOp]
  go_simp
  exact hK
theorem wp_appendK (s y : Operand) (ho : o.op = .call { callee := .builtin .append, args := #[s, y], argTypes := #[92, 92] })
    {base : Nat} {v : Value} {ks : List Nd} {x : Nd} {g : Nat} (hs : b.eval s = v) (hx : b.eval y = .slice (some ⟨g, 0, none⟩) 1 1)
    (hot : KOwn base W v ks) (hb : Blk W g 97 (knA x)) (hn : ks.length ≤ 1000) (hbase : base ≤ W.heap.size)
    (h : ∀ v' W', KOwn base W' v' (ks ++ [x]) → W.grownBy W' v.ownBlock → K (b.put o.dst v') W') : o.wp Try.prog b W K Q := by
  obtain ⟨i0, hi, hz0, hz1, hz2⟩ := info_parts known_info
  refine wp_append_own W s y 92 ho base 97 i0 _ 21 168 Try.underlying92 hi hz0 hz1 hz2 rfl (by decide) v ks.length (knAll ks) hs hot
    ⟨g, 0, none⟩ 1 1 (knA x).toList hx rfl (fun j u hu => ?_) (fun u hu => ?_) (by unfold maxLen; omega) (by omega) hbase (fun v' W' hr hg _ => h v' W' ?_ hg)
  · rw [addr_plain, Nat.zero_add, hb.cell j, ← hu]; simp
  · exact knAll_one [x] u (by simpa [knAll] using hu)
  · show World.ownsRow _ _ _ _ _ _ _
    rw [List.length_append, knAll_snoc]; exact hr
end
end Go.Proofs.Ytmhbmeckdbdhpaa

namespace Go.Proofs.Ytmhbmeckdbdhpaa
open Go.RowKit Go.Shelf Go.Maps

/-- What stands in a round: the numbers so far, the map of what is known, the row of what was found. -/
structure IN (wr : World) (n BN BM : Nat) (vf : Value) (km kf : List Nd) (os : List Nat) (W : World) : Prop where
  gr : wr.grownBy W none
  bn : wr.heap.size ≤ BN
  bm : wr.heap.size ≤ BM
  nx : Blk W BN 3 (rowN n os)
  mp : KMap W BM km.length km
  fo : KOwn wr.heap.size W vf kf
section
variable {wr W W' : World} {n BN BM : Nat} {vf vf' : Value} {km kf kf' : List Nd} {os : List Nat}
theorem blk_map {g m : Nat} {t : TypeId} {cs : Array Value} {ks : List Nd} (h : Blk W g t cs) (hm : KMap W BM m ks) : g ≠ BM := fun e => by
  subst e
  obtain ⟨D, ⟨es, clock, h1, _⟩, _⟩ := hm
  unfold Blk at h
  rw [h] at h1
  cases h1
theorem KMap.obj {m : Nat} {ks : List Nd} (hm : KMap W BM m ks) : ∃ o : Obj, W.heap[BM]? = some o ∧ ∀ cs, o ≠ .cells cs 97 (0, 0) := by
  obtain ⟨D, ⟨es, clock, h1, _⟩, _⟩ := hm
  exact ⟨_, h1, fun cs e => by cases e⟩
theorem IN.kept (h : IN wr n BN BM vf km kf os W) (hg : W.grownBy W' none) : IN wr n BN BM vf km kf os W' :=
  ⟨only_trans h.gr hg, h.bn, h.bm, h.nx.kept hg, h.mp.kept hg (fun e => by cases e), h.fo.kept0 hg⟩
/-- One number more is stored. -/
theorem IN.num (h : IN wr n BN BM vf km kf os W) (hl : os.length < n) (c : Nat) : IN wr n BN BM vf km kf (os ++ [c]) (W.setCell ⟨BN, os.length, none⟩ (.int .i64 (c : Int))) := by
  have hs : W.grownBy (W.setCell ⟨BN, os.length, none⟩ (.int .i64 (c : Int))) (some BN) := only_setCell (only_refl _ _) rfl _
  refine ⟨only_new h.gr hs h.bn, h.bn, h.bm, by rw [← rowN_set hl]; exact h.nx.set_ _ _, h.mp.kept hs (fun e => blk_map h.nx h.mp (Option.some.inj e).symm), h.fo.other hs fun g e => ?_⟩
  injection e with e
  subst e
  exact ⟨_, h.nx, fun cs e => by simp at e⟩
/-- The map is turned. -/
theorem IN.key (h : IN wr n BN BM vf km kf os W) {km' : List Nd} (ht : W.mapTurned W' BM) (hm : KMap W' BM km'.length km') : IN wr n BN BM vf km' kf os W' := by
  have hg := ht.grown
  refine ⟨only_new h.gr hg h.bm, h.bn, h.bm, h.nx.grown hg (fun e => blk_map h.nx h.mp (Option.some.inj e)), hm, h.fo.other hg fun g e => ?_⟩
  injection e with e
  subst e
  exact h.mp.obj
/-- One more is found. -/
theorem IN.find (h : IN wr n BN BM vf km kf os W) (hg : W.grownBy W' vf.ownBlock) (ho : KOwn wr.heap.size W' vf' kf') : IN wr n BN BM vf' km kf' os W' := by
  have hne : ∀ {g : Nat} {o : Obj}, W.heap[g]? = some o → (∀ cs, o ≠ .cells cs 97 (0, 0)) → some g ≠ vf.ownBlock := fun hb ht e => by
    obtain ⟨_, cs', hb'⟩ := own_row h.fo _ e.symm
    unfold Blk at hb'
    rw [hb'] at hb
    exact ht cs' (Option.some.inj hb).symm
  refine ⟨grown_own h.gr (fun g e => (World.ownsRow.lt h.fo g e).1) hg, h.bn, h.bm, h.nx.grown hg (hne h.nx (fun cs e => by simp at e)), ?_, ho⟩
  obtain ⟨o, h1, h2⟩ := h.mp.obj
  exact h.mp.kept hg (hne h1 h2)
theorem box_beside {Bk : Nat} {cs : Array Value} (hb : Blk W Bk 97 cs) (hne : vf.ownBlock ≠ some Bk) (hg : W.grownBy W' vf.ownBlock) : Blk W' Bk 97 cs := hb.grown hg (fun e => hne e.symm)
end

section
variable {o : Oper} {b : Act} {W : World} {K : Act → World → Prop} {Q : Exit → Act → World → Prop}
theorem rv_loadK {t : Tmp} {g : Nat} {x : Nd} (ho : o.op = .load 97 (.tmp t)) (h1 : b.eval (.tmp t) = .pointer (some ⟨g, 0, none⟩)) (hb : Blk W g 97 (knA x)) : (execOp b.eval o).run Try.prog W = .ok (.value (knV x)) W := by
  have hr := run_loadVar_row (P := Try.prog) W g 97 97 (knA x) (0, 0) _ hb Try.underlying97 rfl (by rw [known_size]; rfl)
  unfold execOp
  simp only [ho, h1, Instr.loadAt, Instr.sureAddr, Sem.run_bind, Sem.run_pure, Result.andThen_ok, hr]
theorem rv_look {t1 t2 : Tmp} {BM : Nat} {x : Nd} {v : Value} (ho : o.op = .lookup 114 (.tmp t1) (.tmp t2) true) (h1 : b.eval (.tmp t1) = .map (some BM)) (h2 : b.eval (.tmp t2) = knV x) (hr : (Instr.lookup 114 (.map (some BM)) (knV x) true).run Try.prog W = .ok v W) : (execOp b.eval o).run Try.prog W = .ok (.value v) W := by
  unfold execOp
  simp only [ho, h1, h2, Sem.run_bind, Sem.run_pure, Result.andThen_ok, hr]
theorem wp_keyK {t1 t2 t3 : Tmp} {BM : Nat} {x : Nd} {ks : List Nd} (ho : o.op = .mapUpdate 114 (.tmp t1) (.tmp t2) (.tmp t3)) (h1 : b.eval (.tmp t1) = .map (some BM)) (h2 : b.eval (.tmp t2) = knV x) (h3 : b.eval (.tmp t3) = .int .i64 (ks.length : Int))
    (hm : KMap W BM ks.length ks) (hx : KN x) (hn : x ∉ ks) (hl : ks.length ≤ 1000000) (hK : ∀ W', KMap W' BM (ks ++ [x]).length (ks ++ [x]) → W.mapTurned W' BM → K (b.put o.dst undef) W') : o.wp Try.prog b W K Q := by
  obtain ⟨W', hrun, r1, r2⟩ := hm.put hx hn hl
  unfold Oper.wp execOp
  simp only [ho, h1, h2, h3, Sem.run_bind, Sem.run_pure, Result.andThen_ok, hrun]
  exact hK W' (by rw [List.length_append]; exact r1) r2
theorem wp_assign {t : Tmp} (ho : o.op = .assign (.tmp t)) (hK : K (b.put o.dst (b.eval (.tmp t))) W) : o.wp Try.prog b W K Q := by
  unfold Oper.wp execOp
  simp only [ho, Sem.run_pure]
  exact hK
theorem wpList_val {P : Program} {ops : Array Oper} {rest : List Oper} {a : Act} {v : Value} (hgd : o.guard = none) (hr : (execOp a.eval o).run P W = .ok (.value v) W) (h : wpList P ops Q rest (a.put o.dst v) W) : wpList P ops Q (o :: rest) a W :=
  wpList_plain hgd fun K hK => by
    unfold Oper.wp
    rw [hr]
    exact hK _ _ h
end
/-- What stands as one more is found. -/
def TPt (wr : World) (n BN BM : Nat) (vf : Value) (ks : List Nd) (os : List Nat) (Bk : Nat) (x : Nd) (d : Nat → Bool) (f : Tmp → Value) (W : World) : Prop :=
  if d 8 then ∃ vf', f 5 = vf' ∧ IN wr n BN BM vf' (ks ++ [x]) (ks ++ [x]) os W
  else if d 7 then ∃ vf', f 50 = vf' ∧ IN wr n BN BM vf' (ks ++ [x]) (ks ++ [x]) os W
  else if d 6 then (∃ vf', f 50 = vf' ∧ IN wr n BN BM vf' ks (ks ++ [x]) os W) ∧ Blk W Bk 97 (knA x)
  else IN wr n BN BM vf ks ks os W ∧ Blk W Bk 97 (knA x) ∧ f 5 = vf ∧ (d 5 = true → ∃ g, f 49 = .slice (some ⟨g, 0, none⟩) 1 1 ∧ Blk W g 97 (knA x))
section
variable {wr W : World} {n BN BM Bk : Nat} {vf : Value} {ks : List Nd} {os : List Nat} {x : Nd} {d d' : Nat → Bool} {f g : Tmp → Value}
theorem TPt.congr (h : TPt wr n BN BM vf ks os Bk x d f W) (h5 : f 5 = g 5) (h49 : f 49 = g 49) (h50 : f 50 = g 50) : TPt wr n BN BM vf ks os Bk x d g W := by
  unfold TPt at h ⊢
  rw [h5, h49, h50] at h
  exact h
theorem TPt.same (h : TPt wr n BN BM vf ks os Bk x d f W) (h5 : d 5 = d' 5) (h6 : d 6 = d' 6) (h7 : d 7 = d' 7) (h8 : d 8 = d' 8) : TPt wr n BN BM vf ks os Bk x d' f W := by
  unfold TPt at h ⊢
  rw [h5, h6, h7, h8] at h
  exact h
theorem tpt_a (h6 : d 6 = false) (h7 : d 7 = false) (h8 : d 8 = false) : TPt wr n BN BM vf ks os Bk x d f W ↔ IN wr n BN BM vf ks ks os W ∧ Blk W Bk 97 (knA x) ∧ f 5 = vf ∧ (d 5 = true → ∃ g, f 49 = .slice (some ⟨g, 0, none⟩) 1 1 ∧ Blk W g 97 (knA x)) := by
  unfold TPt
  rw [h6, h7, h8]
  simp only [Bool.false_eq_true, if_false]
theorem tpt_b (h6 : d 6 = true) (h7 : d 7 = false) (h8 : d 8 = false) : TPt wr n BN BM vf ks os Bk x d f W ↔ (∃ vf', f 50 = vf' ∧ IN wr n BN BM vf' ks (ks ++ [x]) os W) ∧ Blk W Bk 97 (knA x) := by
  unfold TPt
  rw [h6, h7, h8]
  simp only [Bool.false_eq_true, if_false, if_true]
theorem tpt_c (h7 : d 7 = true) (h8 : d 8 = false) : TPt wr n BN BM vf ks os Bk x d f W ↔ ∃ vf', f 50 = vf' ∧ IN wr n BN BM vf' (ks ++ [x]) (ks ++ [x]) os W := by
  unfold TPt
  rw [h7, h8]
  simp only [Bool.false_eq_true, if_false, if_true]
theorem tpt_d (h8 : d 8 = true) : TPt wr n BN BM vf ks os Bk x d f W ↔ ∃ vf', f 5 = vf' ∧ IN wr n BN BM vf' (ks ++ [x]) (ks ++ [x]) os W := by
  unfold TPt
  rw [h8]
  simp only [if_true]
end
/-- What is known of a node of a table is small. -/
theorem kn_small {L : List Nd} (hX : TX L) {os : List Nat} (hos : ∀ m, os.getD m 0 ≤ 1000) {a : Nat} {x : Nd} (hx : L[a]? = some x) : KN (knN L os a) := by
  have hm := List.mem_of_getElem? hx
  have hg := hX.tw.good x hm
  have hl : ∀ e, e ∈ allE x → (-1000000000 ≤ (linkL L os x e).1 ∧ (linkL L os x e).1 ≤ 1000000000) ∧ (-1000000000 ≤ (linkL L os x e).2 ∧ (linkL L os x e).2 ≤ 1000000000) := fun e he => by
    obtain ⟨m, y, s, hy, _, s0, s1, _, hp⟩ := hX.tw.goes hm he
    have gy := hX.tw.good y (List.mem_of_getElem? hy)
    unfold linkL
    rw [hp]
    dsimp only
    have := hos m
    split <;> omega
  unfold knN
  rw [hx]
  refine ⟨rfl, by rw [List.length_map]; exact hg.2.2, by dsimp only; omega, ?_, fun e he => ?_⟩
  · dsimp only
    cases hc : x.chan with
    | false => rw [if_neg (by decide)]; decide
    | true => rw [if_pos rfl]; exact hl _ (by unfold allE; rw [hc]; simp)
  · obtain ⟨e', he', rfl⟩ := List.mem_map.1 he
    exact hl e' (by unfold allE; exact List.mem_append_left _ he')
end Go.Proofs.Ytmhbmeckdbdhpaa

/- Texts joined for the claim's sake: Acts, CLyA. -/
import Derived.Test.YtepjkoegbehojaaZMgAD
import Derived.Test.YtepjkoegbehojaaZCLok
import Derived.Test.YtepjkoegbehojaaZMgAQ
/- A region that draws its order: reads that answer the same whenever they come, and operations that turn the world, in whatever order binds them: what stands is told by which of them are done. No program. -/
namespace Go.Proofs.Ytepjkoegbehojaa
open Go.RowKit

/-- What an operation asks for is there, as far as it is listed. -/
def depsV (vals : List (Tmp × Value)) (ops : Array Oper) (o : Oper) : Bool := o.op.operands.toList.all fun
  | .tmp t => (vals.lookup t).isNone || (ops.toList.all fun oj => oj.dst != some t) || o.after.toList.any fun e => Region.binds .any e && ((ops[e.on]?).bind (·.dst) == some t)
  | _ => true
def regOkV (vals : List (Tmp × Value)) (ops : Array Oper) : Bool := ops.toList.zipIdx.all fun (o, i) => o.guard.isNone && (o.after.toList.all fun e => !Region.binds .any e || decide (e.on < i)) && depsV vals ops o
theorem regOkV_at {vals : List (Tmp × Value)} {ops : Array Oper} (h : regOkV vals ops = true) {i : Nat} {o : Oper} (hi : ops[i]? = some o) : o.guard = none ∧ (∀ e ∈ o.after, Region.binds .any e = true → e.on < i) ∧ depsV vals ops o = true := by
  unfold regOkV at h
  rw [List.all_eq_true] at h
  have h1 := h (o, i) (List.mem_iff_getElem?.2 ⟨i, by rw [List.getElem?_zipIdx, Array.getElem?_toList, hi]; simp⟩)
  simp only [Bool.and_eq_true, List.all_eq_true, Bool.or_eq_true, Bool.not_eq_true', decide_eq_true_eq, Option.isNone_iff_eq_none] at h1
  refine ⟨h1.1.1, fun e he hb => ?_, h1.2⟩
  rcases h1.1.2 e (Array.mem_toList_iff.2 he) with h2 | h2
  · rw [hb] at h2; cases h2
  · exact h2
theorem all_listedV {vals : List (Tmp × Value)} {ops : Array Oper} (hok : regOkV vals ops = true) {listed : Array Bool} (hs : listed.size = ops.size) (hr : Region.ready .any ops listed = []) : ∀ i, i < ops.size → listed.getD i false = true := by
  intro i
  induction i using Nat.strongRecOn with
  | _ i ih =>
    intro hi
    cases hl : listed.getD i false with
    | true => rfl
    | false =>
      have ho : ops[i]? = some ops[i] := Array.getElem?_eq_getElem hi
      have hm : i ∈ Region.ready .any ops listed := mem_ready.2 ⟨by simpa [hs, hi] using hl, ops[i], ho, fun e he hb => by
        have := (regOkV_at hok ho).2.1 e he hb
        exact ih e.on this (by omega)⟩
      rw [hr] at hm; cases hm
def doneD (d : Nat → Bool) (i : Nat) : Nat → Bool := fun j => if j = i then true else d j

theorem region_acts {P : Program} {ops : Array Oper} {Q : Exit → Act → World → Prop} {id : Nat} {a : Act} {w : World} (hm : P.follows .mixedOrders = true) (vals : List (Tmp × Value)) (hok : regOkV vals ops = true) (ds : List Tmp) (hds : dstsOf ops = ds) (hlt : (ds.all fun t => decide (t < a.tmps.size)) = true) (hdn : ds.Nodup)
    (h0 : ∀ p ∈ vals, p.1 ∉ ds → a.tmps.getD p.1 undef = p.2)
    (acts : List Nat) (T : (Nat → Bool) → (Tmp → Value) → World → Prop) (hT : ∀ d f g W, T d f W → (∀ t, vals.lookup t = none → f t = g t) → T d g W) (hd : ∀ d i f W, i ∉ acts → T d f W → T (doneD d i) f W)
    (hreads : ∀ (i : Nat) (o : Oper), ops[i]? = some o → i ∉ acts → ∃ t c, o.dst = some t ∧ vals.lookup t = some c ∧ ∀ d (b : Act) W, d i = false → (∀ k o' e, d k = true → ops[k]? = some o' → e ∈ o'.after → Region.binds .any e = true → d e.on = true) → T d (fun t => b.tmps.getD t undef) W → (∀ t v, Operand.tmp t ∈ o.op.operands → vals.lookup t = some v → b.eval (.tmp t) = v) → (execOp b.eval o).run P W = .ok (.value c) W)
    (hsteps : ∀ (i : Nat) (o : Oper), ops[i]? = some o → i ∈ acts → (∀ t, o.dst = some t → vals.lookup t = none) ∧ ∀ d (b : Act) W, b.tmps.size = a.tmps.size → d i = false → (∀ e ∈ o.after, Region.binds .any e = true → d e.on = true) → (∀ k o' e, d k = true → ops[k]? = some o' → e ∈ o'.after → Region.binds .any e = true → d e.on = true) → T d (fun t => b.tmps.getD t undef) W → (∀ t v, Operand.tmp t ∈ o.op.operands → vals.lookup t = some v → b.eval (.tmp t) = v) →
      o.wp P b W (fun b' W' => ∃ x, b' = b.put o.dst x ∧ T (doneD d i) (fun t => (b.put o.dst x).tmps.getD t undef) W') Q)
    (hT0 : T (fun _ => false) (fun t => a.tmps.getD t undef) w.drew)
    (hQ : ∀ (d : Nat → Bool) (vs : Tmp → Value) (W : World), (∀ i, i < ops.size → d i = true) → (∀ t v, vals.lookup t = some v → t ∈ ds → vs t = v) → T d vs W →
      Q .normal { a with tmps := ds.foldl (fun (ts : Array Value) t => ts.setIfInBounds t (vs t)) a.tmps } W) :
    (Code.region id ops true).wp P Q a w := by
  subst hds
  have hu : ∀ (i j : Nat) (oi oj : Oper) (t : Tmp), ops[i]? = some oi → ops[j]? = some oj → oi.dst = some t → oj.dst = some t → i = j := fun i j oi oj t hi hj ei ej =>
    nodup_at hdn (by rw [Array.getElem?_toList]; exact hi) (by rw [Array.getElem?_toList]; exact hj) ei ej
  have hdl : ∀ t ∈ dstsOf ops, t < a.tmps.size := fun t ht => by simpa using List.all_eq_true.1 hlt t ht
  refine wp_region_any hm (wpAny_inv (fun listed b W => b.defers = a.defers ∧ b.tmps.size = a.tmps.size ∧ (∀ t, t ∉ dstsOf ops → b.tmps[t]? = a.tmps[t]?) ∧
    (∀ (i : Nat) (o : Oper) (t : Tmp) (c : Value), listed.getD i false = true → ops[i]? = some o → o.dst = some t → vals.lookup t = some c → b.tmps.getD t undef = c) ∧
    (∀ (k : Nat) (o : Oper) (e : Edge), listed.getD k false = true → ops[k]? = some o → e ∈ o.after → Region.binds .any e = true → listed.getD e.on false = true) ∧
    T (fun i => listed.getD i false) (fun t => b.tmps.getD t undef) W) ?_ ?_ ops.size _ _ _ (by simp) (by
      have := List.countP_le_length (p := (! ·)) (l := (Array.replicate ops.size false).toList)
      simpa using this) ?_)
  · rintro listed b W hs ⟨i2, i3, i4, i5, i7, hTj⟩ i hi
    obtain ⟨hni, o, ho, hall⟩ := mem_ready.1 hi
    have hil : i < ops.size := (Array.getElem?_eq_some_iff.1 ho).1
    have hni' : listed.getD i false = false := by
      have hl : i < listed.size := by omega
      simpa [hl] using hni
    obtain ⟨g1, g2, g3⟩ := regOkV_at hok ho
    have henv : ∀ t v, Operand.tmp t ∈ o.op.operands → vals.lookup t = some v → b.eval (.tmp t) = v := fun t v ht hv => by
      unfold depsV at g3
      rw [List.all_eq_true] at g3
      have h1 := g3 (.tmp t) (Array.mem_toList_iff.2 ht)
      simp only [hv, Option.isNone_some, Bool.false_or, Bool.or_eq_true, List.all_eq_true, List.any_eq_true, Bool.and_eq_true, bne_iff_ne, ne_eq, beq_iff_eq] at h1
      rcases h1 with h1 | ⟨e, he, hb, hx⟩
      · have h4 : t ∉ dstsOf ops := fun hm => by
          obtain ⟨i, oi, hi, e⟩ := mem_dsts.1 hm
          exact h1 oi (List.mem_iff_getElem?.2 ⟨i, by rw [Array.getElem?_toList]; exact hi⟩) e
        have h5 := i4 t h4
        show b.tmps.getD t undef = v
        rw [Array.getD_eq_getD_getElem?, h5, ← Array.getD_eq_getD_getElem?]
        exact h0 (t, v) (lookup_mem hv) h4
      · obtain ⟨oj, hoj, e1⟩ := Option.bind_eq_some_iff.1 hx
        exact i5 e.on oj t v (hall e (Array.mem_toList_iff.1 he) hb) hoj e1 hv
    have hset : ∀ j, i ≠ j → (listed.setIfInBounds i true).getD j false = listed.getD j false := fun j hij => getD_set_ne false hij
    have hseti : (listed.setIfInBounds i true).getD i false = true := getD_set_at (by omega)
    have hdone : (fun j => (listed.setIfInBounds i true).getD j false) = doneD (fun j => listed.getD j false) i := funext fun j => by
      unfold doneD
      by_cases e : j = i
      · rw [if_pos e, e]; exact hseti
      · rw [if_neg e]; exact hset j fun e' => e e'.symm
    unfold wpOp
    simp only [ho]
    rw [if_pos (by simp [Region.wanted, g1])]
    have other : ∀ (x : Value) (t' : Tmp), o.dst ≠ some t' → (b.put o.dst x).tmps[t']? = b.tmps[t']? := fun x t' hne => by
      cases hd : o.dst with
      | none => rfl
      | some t =>
        rw [hd] at hne
        simp only [Act.put]
        rw [Array.getElem?_setIfInBounds_ne (fun e => hne (by rw [e]))]
    have otherD : ∀ (x : Value) (t' : Tmp), o.dst ≠ some t' → (b.put o.dst x).tmps.getD t' undef = b.tmps.getD t' undef := fun x t' hne => by
      rw [Array.getD_eq_getD_getElem?, other x t' hne, ← Array.getD_eq_getD_getElem?]
    have basic : ∀ x : Value, (b.put o.dst x).defers = a.defers ∧ (b.put o.dst x).tmps.size = a.tmps.size ∧ (∀ t, t ∉ dstsOf ops → (b.put o.dst x).tmps[t]? = a.tmps[t]?) := fun x => by
      refine ⟨?_, ?_, fun t ht => ?_⟩
      · cases o.dst <;> exact i2
      · cases o.dst <;> simp [Act.put, i3]
      · rw [other x t (fun e => ht (mem_dsts.2 ⟨i, o, ho, e⟩))]
        exact i4 t ht
    have closed : ∀ (k : Nat) (ok : Oper) (e : Edge), (listed.setIfInBounds i true).getD k false = true → ops[k]? = some ok → e ∈ ok.after → Region.binds .any e = true → (listed.setIfInBounds i true).getD e.on false = true := fun k ok e hl hok he hb => by
      by_cases hie : i = e.on
      · rw [← hie]; exact hseti
      · rw [hset _ hie]
        by_cases hik : i = k
        · subst hik
          rw [ho] at hok
          obtain rfl := Option.some.inj hok
          exact hall e he hb
        · rw [hset _ hik] at hl
          exact i7 k ok e hl hok he hb
    by_cases hmem : i ∈ acts
    · obtain ⟨hv, hstep⟩ := hsteps i o ho hmem
      refine .inl (Oper.wp_mono ?_ (hstep _ b W i3 hni' hall i7 hTj henv))
      rintro b' W' ⟨x, rfl, hT'⟩
      refine ⟨(basic x).1, (basic x).2.1, (basic x).2.2, fun m om t' c' hl hom e1 e2 => ?_, closed, by rw [hdone]; exact hT'⟩
      have hne : o.dst ≠ some t' := fun e => by rw [hv t' e] at e2; cases e2
      have him : i ≠ m := fun e => by subst e; rw [ho] at hom; cases hom; exact hne e1
      rw [hset m him] at hl
      rw [otherD x t' hne]
      exact i5 m om t' c' hl hom e1 e2
    · obtain ⟨t, c, b1, b2, b3⟩ := hreads i o ho hmem
      refine .inl ?_
      unfold Oper.wp
      rw [b3 _ b W hni' i7 hTj henv, Oper.upon_value]
      refine ⟨(basic c).1, (basic c).2.1, (basic c).2.2, fun m om t' c' hl hom e1 e2 => ?_, closed, by
        rw [hdone]
        refine hd _ _ _ _ hmem (hT _ _ _ _ hTj fun t' ht' => ?_)
        have hne : o.dst ≠ some t' := fun e => by
          rw [b1] at e
          obtain rfl := Option.some.inj e
          rw [b2] at ht'
          cases ht'
        exact (otherD c t' hne).symm⟩
      by_cases him : i = m
      · subst him
        rw [ho] at hom
        obtain rfl := Option.some.inj hom
        rw [b1] at e1
        obtain rfl := Option.some.inj e1
        rw [b2] at e2
        obtain rfl := Option.some.inj e2
        have : t < b.tmps.size := by rw [i3]; exact hdl t (mem_dsts.2 ⟨i, o, ho, b1⟩)
        rw [b1]
        simp [Act.put, this]
      · have hne : o.dst ≠ some t' := fun e => him (hu i m o om t' ho hom e e1)
        rw [hset m him] at hl
        rw [otherD c t' hne]
        exact i5 m om t' c' hl hom e1 e2
  · rintro listed b W hs ⟨i2, i3, i4, i5, i7, hTj⟩ hr
    have hl := all_listedV hok hs hr
    have hlo : ∀ {i o}, ops[i]? = some o → listed.getD i false = true := fun h => hl _ (Array.getElem?_eq_some_iff.1 h).1
    have hb : b = { a with tmps := (dstsOf ops).foldl (fun (ts : Array Value) t => ts.setIfInBounds t (b.tmps.getD t undef)) a.tmps } := by
      obtain ⟨bt, bd⟩ := b
      obtain ⟨at_, ad⟩ := a
      simp only [Act.mk.injEq]
      refine ⟨?_, i2⟩
      apply Array.ext_getElem?
      intro t
      dsimp only at i3 i4
      rw [foldSet]
      by_cases h1 : t ∈ dstsOf ops
      · by_cases h2 : t < at_.size
        · have : t < bt.size := by omega
          simp [h1, h2, this]
        · simp [h2, i3]
      · simp only [h1, false_and, if_false]
        exact i4 t h1
    rw [hb]
    refine hQ (fun i => listed.getD i false) (fun t => b.tmps.getD t undef) W hl (fun t v hv ht => ?_) hTj
    obtain ⟨i, o, ho, e⟩ := mem_dsts.1 ht
    exact i5 i o t v (hlo ho) ho e hv
  · have hno : ∀ j, (Array.replicate ops.size false).getD j false = false := fun j => by
      simp only [Array.getD_eq_getD_getElem?, Array.getElem?_replicate]
      split <;> rfl
    refine ⟨rfl, rfl, fun _ _ => rfl, fun i o t d hl => ?_, fun k o e hl => ?_, ?_⟩
    · rw [hno] at hl; cases hl
    · rw [hno] at hl; cases hl
    · have e : (fun i => (Array.replicate ops.size false).getD i false) = fun _ => false := funext hno
      rw [e]; exact hT0
end Go.Proofs.Ytepjkoegbehojaa

/- class: lay: what stands as the nodes are laid. -/
namespace Go.Proofs.Ytepjkoegbehojaa
open Go.RowKit Go.Shelf

section
variable {o : Oper} {b : Act} {W : World} {K : Act → World → Prop} {Q : Exit → Act → World → Prop}
theorem wp_buildI {t : Tmp} {z : Int} (ho : o.op = .buildSlice 25 1 #[(0, .tmp t)]) (h : b.eval (.tmp t) = .int .i64 z)
    (hK : K (b.put o.dst (.slice (some ⟨W.heap.size, 0, none⟩) 1 1)) (W.alloc (.cells #[.int .i64 z] 3))) : o.wp Try.prog b W K Q := by
  obtain ⟨dst, op, type, pos, after, guard⟩ := o
  dsimp only at ho
  subst ho
  have h' : b.tmps[t]?.getD undef = .int .i64 z := by simpa [Act.eval] using h
  unfold Oper.wp
  simp only [execOp]
  go_simp
  exact hK
theorem wp_appendI (s x : Operand) (ho : o.op = .call { callee := .builtin .append, args := #[s, x], argTypes := #[25, 25] })
    {base : Nat} {v : Value} {zs : List Int} {z : Int} {g : Nat} (hs : b.eval s = v) (hx : b.eval x = .slice (some ⟨g, 0, none⟩) 1 1)
    (hot : IOwn base W v zs) (hb : Blk W g 3 #[.int .i64 z]) (hn : zs.length ≤ 1000) (hbase : base ≤ W.heap.size)
    (h : ∀ v' W', IOwn base W' v' (zs ++ [z]) → W.grownBy W' v.ownBlock → (∀ g, v'.ownBlock = some g → v.ownBlock = some g ∨ W.heap.size ≤ g) → K (b.put o.dst v') W') : o.wp Try.prog b W K Q := by
  obtain ⟨i0, hi, hz0, hz1, hz2⟩ := info_parts intI_info
  have hnews : ∀ j u, [Value.int .i64 z][j]? = some u → W.cell? ((⟨g, 0, none⟩ : Addr).add j) = some u := fun j u hu => by rw [addr_plain, Nat.zero_add, hb.cell j, ← hu]; simp
  have hone : ∀ u ∈ [Value.int .i64 z], u.oneCell' = true := fun u hu => by obtain rfl := List.mem_singleton.1 hu; rfl
  have hown : W.ownsRow base 3 i0.size v zs.length (inAll zs) := by rw [hz1]; exact hot
  have hbk := fun {v' : Value} {W' : World} => append_blockG (W := W) (ty := o.type) (t := 25) Try.underlying25 hi hz0 (by rw [hz1]; decide) hown (a := ⟨g, 0, none⟩) (m := 1) (c := 1) (by rw [hz1]; rfl) hnews hone (by rw [hz1]; rfl) (by unfold maxLen; omega) (by rw [hz2]; omega) (v' := v') (W' := W')
  obtain ⟨v', W', hr, h2, h3, _⟩ := run_append_own (P := Try.prog) W base 25 o.type 3 i0 _ 1 8 Try.underlying25 hi hz0 hz1 hz2 rfl (by decide) v zs.length (inAll zs) hot ⟨g, 0, none⟩ 1 1 [Value.int .i64 z] rfl hnews hone (by unfold maxLen; omega) (by omega) hbase
  have hbl := hbk hr
  unfold Oper.wp execOp
  simp only [ho, resolve, invoke, builtin, Sem.run_bind, Sem.run_pure, Result.andThen_ok, List.map_toArray, List.map_cons, List.map_nil, hs, hx, hr]
  refine h v' W' ?_ h3 hbl
  show World.ownsRow _ _ _ _ _ _ _
  have e : inAll (zs ++ [z]) = inAll zs ++ [.int .i64 z] := by unfold inAll; simp
  rw [List.length_append, e]; exact h2
theorem wp_storeIs {t u : Tmp} {g k : Nat} {ty : TypeId} {cs : Array Value} {A0 A : Option Addr} {n0 c0 n c : Nat} (ho : o.op = .store 25 (.tmp t) (.tmp u)) (ht : b.eval (.tmp t) = .pointer (some ⟨g, k, none⟩)) (h : b.eval (.tmp u) = .slice A n c)
    (hb : Blk W g ty cs) (hc : cs[k]? = some (.slice A0 n0 c0)) (hK : K (b.put o.dst undef) (W.setCell ⟨g, k, none⟩ (.slice A n c))) : o.wp Try.prog b W K Q := by
  obtain ⟨dst, op, type, pos, after, guard⟩ := o
  dsimp only at ho
  subst ho
  have c5 : W.cell? ⟨g, k, none⟩ = some (.slice A0 n0 c0) := (hb.cell k).trans hc
  have f5 := hb.frozen k
  unfold Oper.wp
  simp only [execOp, h, ht]
  go_simp
  exact hK
theorem rv_laid1 {g : Nat} {t : Tmp} (ho : o.op = .fieldAddr 61 (.tmp t) 1) (h1 : b.eval (.tmp t) = .pointer (some ⟨g, 0, none⟩)) : (execOp b.eval o).run Try.prog W = .ok (.value (.pointer (some ⟨g, 1, none⟩))) W := by
  obtain ⟨dst, op, type, pos, after, guard⟩ := o
  dsimp only at ho
  subst ho
  simp only [execOp, h1]
  go_simp
theorem rv_laid2 {g : Nat} {t : Tmp} (ho : o.op = .fieldAddr 61 (.tmp t) 2) (h1 : b.eval (.tmp t) = .pointer (some ⟨g, 0, none⟩)) : (execOp b.eval o).run Try.prog W = .ok (.value (.pointer (some ⟨g, 2, none⟩))) W := by
  obtain ⟨dst, op, type, pos, after, guard⟩ := o
  dsimp only at ho
  subst ho
  simp only [execOp, h1]
  go_simp
theorem rv_type0 {g : Nat} {t : Tmp} (ho : o.op = .fieldAddr 35 (.tmp t) 0) (h1 : b.eval (.tmp t) = .pointer (some ⟨g, 0, none⟩)) : (execOp b.eval o).run Try.prog W = .ok (.value (.pointer (some ⟨g, 0, none⟩))) W := by
  obtain ⟨dst, op, type, pos, after, guard⟩ := o
  dsimp only at ho
  subst ho
  simp only [execOp, h1]
  go_simp
end

/-- What stands: the box, the two rows that grow. -/
structure LZ (w1 : World) (bx : Array Value) (ut up : Value) (zs ys : List Int) (W : World) : Prop where
  gr : w1.grownBy W none
  bl : Blk W w1.heap.size 61 bx
  it : IOwn w1.heap.size W ut zs
  ip : IOwn w1.heap.size W up ys
  ne : ∀ g, ut.ownBlock = some g → up.ownBlock ≠ some g
section
variable {w1 W W' : World} {bx : Array Value} {ut up u : Value} {zs ys ls : List Int}
theorem LZ.kept (h : LZ w1 bx ut up zs ys W) (hg : W.grownBy W' none) : LZ w1 bx ut up zs ys W' := ⟨only_trans h.gr hg, h.bl.kept hg, h.it.kept0 hg, h.ip.kept0 hg, h.ne⟩
theorem LZ.putT (h : LZ w1 bx ut up zs ys W) (hg : W.grownBy W' ut.ownBlock) (ho : IOwn w1.heap.size W' u ls) (hb : ∀ g, u.ownBlock = some g → ut.ownBlock = some g ∨ W.heap.size ≤ g) : LZ w1 bx u up ls ys W' := by
  refine ⟨grown_own h.gr (fun g e => (World.ownsRow.lt h.it g e).1) hg, own_blk h.it hg h.bl (by decide), ho, h.ip.kept hg (fun g e e' => h.ne g e' e), fun g e e' => ?_⟩
  rcases hb g e with h3 | h3
  · exact h.ne g h3 e'
  · have := (World.ownsRow.lt h.ip g e').2; omega
theorem LZ.putP (h : LZ w1 bx ut up zs ys W) (hg : W.grownBy W' up.ownBlock) (ho : IOwn w1.heap.size W' u ls) (hb : ∀ g, u.ownBlock = some g → up.ownBlock = some g ∨ W.heap.size ≤ g) : LZ w1 bx ut u zs ls W' := by
  refine ⟨grown_own h.gr (fun g e => (World.ownsRow.lt h.ip g e).1) hg, own_blk h.ip hg h.bl (by decide), h.it.kept hg (fun g e e' => h.ne g e e'), ho, fun g e e' => ?_⟩
  rcases hb g e' with h3 | h3
  · exact h.ne g e h3
  · have := (World.ownsRow.lt h.it g e).2; omega
theorem LZ.box (h : LZ w1 bx ut up zs ys W) (k : Nat) (u : Value) : LZ w1 (bx.setIfInBounds k u) ut up zs ys (W.setCell ⟨w1.heap.size, k, none⟩ u) := by
  have hs : W.grownBy (W.setCell ⟨w1.heap.size, k, none⟩ u) (some w1.heap.size) := only_setCell (only_refl _ _) rfl _
  have hne : ∀ g, some w1.heap.size = some g → ∃ t cs, Blk W g t cs ∧ t ≠ 3 := fun g e => by injection e with e; subst e; exact ⟨_, _, h.bl, by decide⟩
  exact ⟨only_setNew h.gr (Nat.le_refl _) _, h.bl.set_ k u, h.it.other hs hne, h.ip.other hs hne, h.ne⟩
end
/-- A row that is built of one int, apart from another row. -/
def NewI (f : Tmp → Value) (t : Tmp) (z : Int) (v : Value) (W : World) : Prop := ∃ g, f t = .slice (some ⟨g, 0, none⟩) 1 1 ∧ Blk W g 3 #[.int .i64 z] ∧ v.ownBlock ≠ some g
/-- What stands as two rows grow by one in a region. -/
def TLy (w1 : World) (v2 vt vp : Value) (zs ys : List Int) (Bg : Nat) (z y s : Int) (d : Nat → Bool) (f : Tmp → Value) (W : World) : Prop :=
  if d 14 then ∃ t' p', LZ w1 #[v2, t', p'] t' p' (zs ++ [z]) (ys ++ [y]) W
  else if d 12 then ∃ t' p', f 46 = p' ∧ LZ w1 #[v2, t', vp] t' p' (zs ++ [z]) (ys ++ [y]) W
  else if d 10 then ∃ t' p', f 41 = t' ∧ f 46 = p' ∧ LZ w1 #[v2, vt, vp] t' p' (zs ++ [z]) (ys ++ [y]) W
  else if d 5 then (∃ t', f 41 = t' ∧ LZ w1 #[v2, vt, vp] t' vp (zs ++ [z]) ys W) ∧ (d 9 = true → NewI f 45 y vp W)
  else LZ w1 #[v2, vt, vp] vt vp zs ys W ∧ Blk W Bg 35 #[.int .i64 z, .int .i64 s] ∧ (d 4 = true → NewI f 40 z vt W) ∧ (d 9 = true → NewI f 45 y vp W ∧ NewI f 45 y vt W)
section
variable {w1 W : World} {v2 vt vp : Value} {zs ys : List Int} {Bg : Nat} {z y s : Int} {d d' : Nat → Bool} {f g : Tmp → Value}
theorem TLy.congr (h : TLy w1 v2 vt vp zs ys Bg z y s d f W) (h40 : f 40 = g 40) (h41 : f 41 = g 41) (h45 : f 45 = g 45) (h46 : f 46 = g 46) : TLy w1 v2 vt vp zs ys Bg z y s d g W := by
  unfold TLy NewI at h ⊢
  rw [h40, h41, h45, h46] at h
  exact h
theorem TLy.same (h : TLy w1 v2 vt vp zs ys Bg z y s d f W) (h4 : d 4 = d' 4) (h5 : d 5 = d' 5) (h9 : d 9 = d' 9) (h10 : d 10 = d' 10) (h12 : d 12 = d' 12) (h14 : d 14 = d' 14) : TLy w1 v2 vt vp zs ys Bg z y s d' f W := by
  unfold TLy at h ⊢
  rw [h4, h5, h9, h10, h12, h14] at h
  exact h
theorem tly_a (h5 : d 5 = false) (h10 : d 10 = false) (h12 : d 12 = false) (h14 : d 14 = false) : TLy w1 v2 vt vp zs ys Bg z y s d f W ↔ LZ w1 #[v2, vt, vp] vt vp zs ys W ∧ Blk W Bg 35 #[.int .i64 z, .int .i64 s] ∧ (d 4 = true → NewI f 40 z vt W) ∧ (d 9 = true → NewI f 45 y vp W ∧ NewI f 45 y vt W) := by
  unfold TLy
  rw [h5, h10, h12, h14]
  simp only [Bool.false_eq_true, if_false]
theorem tly_b (h5 : d 5 = true) (h10 : d 10 = false) (h12 : d 12 = false) (h14 : d 14 = false) : TLy w1 v2 vt vp zs ys Bg z y s d f W ↔ (∃ t', f 41 = t' ∧ LZ w1 #[v2, vt, vp] t' vp (zs ++ [z]) ys W) ∧ (d 9 = true → NewI f 45 y vp W) := by
  unfold TLy
  rw [h5, h10, h12, h14]
  simp only [Bool.false_eq_true, if_false, if_true]
theorem tly_c (h10 : d 10 = true) (h12 : d 12 = false) (h14 : d 14 = false) : TLy w1 v2 vt vp zs ys Bg z y s d f W ↔ ∃ t' p', f 41 = t' ∧ f 46 = p' ∧ LZ w1 #[v2, vt, vp] t' p' (zs ++ [z]) (ys ++ [y]) W := by
  unfold TLy
  rw [h10, h12, h14]
  simp only [Bool.false_eq_true, if_false, if_true]
theorem tly_d (h12 : d 12 = true) (h14 : d 14 = false) : TLy w1 v2 vt vp zs ys Bg z y s d f W ↔ ∃ t' p', f 46 = p' ∧ LZ w1 #[v2, t', vp] t' p' (zs ++ [z]) (ys ++ [y]) W := by
  unfold TLy
  rw [h12, h14]
  simp only [Bool.false_eq_true, if_false, if_true]
theorem tly_e (h14 : d 14 = true) : TLy w1 v2 vt vp zs ys Bg z y s d f W ↔ ∃ t' p', LZ w1 #[v2, t', p'] t' p' (zs ++ [z]) (ys ++ [y]) W := by
  unfold TLy
  rw [h14]
  simp only [if_true]
end
theorem not_done {b : Bool} (h : b = true → False) : b = false := by cases b with
  | false => rfl
  | true => exact (h rfl).elim
theorem doneD_at (d : Nat → Bool) (i : Nat) : doneD d i i = true := by unfold doneD; rw [if_pos rfl]
theorem doneD_ne (d : Nat → Bool) {i j : Nat} (h : j ≠ i) : doneD d i j = d j := by unfold doneD; rw [if_neg h]
theorem act_put_ne {b : Act} {o : Option Tmp} {t : Tmp} (x : Value) (h : o ≠ some t) : (b.put o x).tmps.getD t undef = b.tmps.getD t undef := by
  cases o with
  | none => rfl
  | some s =>
    have : s ≠ t := fun e => h (by rw [e])
    simp [Act.put, Array.getD_eq_getD_getElem?, Array.getElem?_setIfInBounds_ne this]
theorem NewI.kept {f g : Tmp → Value} {t : Tmp} {z : Int} {v : Value} {W W' : World} (h : NewI f t z v W) (hg : W.grownBy W' none) (hf : f t = g t) : NewI g t z v W' := by
  obtain ⟨k, h1, h2, h3⟩ := h
  exact ⟨k, hf ▸ h1, h2.kept hg, h3⟩
theorem NewI.grown {f g : Tmp → Value} {t : Tmp} {z : Int} {v u : Value} {W W' : World} (h : NewI f t z v W) (h' : NewI f t z u W) (hg : W.grownBy W' u.ownBlock) (hf : f t = g t) : NewI g t z v W' := by
  obtain ⟨k, h1, h2, h3⟩ := h
  obtain ⟨k', h1', _, h3'⟩ := h'
  rw [h1] at h1'
  simp only [Value.slice.injEq, Option.some.injEq, Addr.mk.injEq, and_true] at h1'
  subst h1'
  exact ⟨k, hf ▸ h1, h2.grown hg (fun e => h3' e.symm), h3⟩
theorem NewI.made {b : Act} {t : Tmp} {z : Int} {v : Value} {W : World} {base : Nat} {zs : List Int} (ht : t < b.tmps.size) (hv : IOwn base W v zs) : NewI (fun s => (b.put (some t) (.slice (some ⟨W.heap.size, 0, none⟩) 1 1)).tmps.getD s undef) t z v (W.alloc (.cells #[.int .i64 z] 3)) :=
  ⟨W.heap.size, act_put_atC _ ht, Blk.new _ _ _, fun e => by have := (World.ownsRow.lt hv _ e).2; omega⟩
/-- A block that holds an int is kept. -/
def KeepsI (W W' : World) : Prop := ∀ g o q z, W.cell? ⟨g, o, none⟩ = some (.int q z) → ∀ o' u, W.cell? ⟨g, o', none⟩ = some u → W'.cell? ⟨g, o', none⟩ = some u
theorem Edges.keepI {W W' : World} {v : Value} {es : List Ed} (h : Edges W v es) (hk : KeepsI W W') : Edges W' v es := by
  obtain ⟨A, c, h1, hl, h2⟩ := h
  refine ⟨A, c, h1, hl, fun hn => ?_⟩
  obtain ⟨b, off, h3, h4⟩ := h2 hn
  exact ⟨b, off, h3, fun i e he => ⟨hk _ _ _ _ (h4 i e he).1 _ _ (h4 i e he).1, hk _ _ _ _ (h4 i e he).1 _ _ (h4 i e he).2⟩⟩
theorem Ints.keepI {W W' : World} {v : Value} {zs : List Int} (h : Ints W v zs) (hk : KeepsI W W') : Ints W' v zs := by
  obtain ⟨A, c, h1, hl, h2⟩ := h
  refine ⟨A, c, h1, hl, fun hn => ?_⟩
  obtain ⟨b, off, h3, h4⟩ := h2 hn
  exact ⟨b, off, h3, fun i z hz => hk _ _ _ _ (h4 i z hz) _ _ (h4 i z hz)⟩
theorem Tbl.keepI {W W' : World} {v : Value} {xs : List Nd} (h : Tbl W v xs) (hk : KeepsI W W') : Tbl W' v xs := by
  obtain ⟨A, c, h1, h2⟩ := h
  refine ⟨A, c, h1, fun hn => ?_⟩
  obtain ⟨b, off, h3, h4⟩ := h2 hn
  refine ⟨b, off, h3, fun i x hx => ?_⟩
  obtain ⟨e, hE, m0, m1, m2, m3, m4, m5⟩ := h4 i x hx
  have k := hk _ _ _ _ m0
  exact ⟨e, hE.keepI hk, k _ _ m0, k _ _ m1, k _ _ m2, k _ _ m3, k _ _ m4, k _ _ m5⟩
/-- Three slices in a box are turned. -/
theorem three_set {W : World} {g : Nat} {t : TypeId} {A0 A1 A2 : Option Addr} {n0 n1 n2 c0 c1 c2 : Nat} (h : Blk W g t #[.slice A0 n0 c0, .slice A1 n1 c1, .slice A2 n2 c2]) (a0 a1 a2 : Value) :
    Blk (((W.setCell ⟨g, 0, none⟩ a0).setCell ⟨g, 1, none⟩ a1).setCell ⟨g, 2, none⟩ a2) g t #[a0, a1, a2] ∧ W.grownBy (((W.setCell ⟨g, 0, none⟩ a0).setCell ⟨g, 1, none⟩ a1).setCell ⟨g, 2, none⟩ a2) (some g) ∧ KeepsI W (((W.setCell ⟨g, 0, none⟩ a0).setCell ⟨g, 1, none⟩ a1).setCell ⟨g, 2, none⟩ a2) := by
  have h0 : W.grownBy (W.setCell ⟨g, 0, none⟩ a0) (some g) := only_setCell (only_refl _ _) rfl _
  have b0 := h.set_ 0 a0
  generalize W.setCell ⟨g, 0, none⟩ a0 = W0 at *
  have h1 : W.grownBy (W0.setCell ⟨g, 1, none⟩ a1) (some g) := only_setCell h0 rfl _
  have b1 := b0.set_ 1 a1
  generalize W0.setCell ⟨g, 1, none⟩ a1 = W1 at *
  have h2 : W.grownBy (W1.setCell ⟨g, 2, none⟩ a2) (some g) := only_setCell h1 rfl _
  refine ⟨b1.set_ 2 a2, h2, fun k o q z hc o' u hu => ?_⟩
  have hne : k ≠ g := fun e => by
    subst e
    rw [h.cell o] at hc
    match o, hc with
    | 0, hc => cases hc
    | 1, hc => cases hc
    | 2, hc => cases hc
    | o + 3, hc => simp at hc
  exact (World.cell?_of_block (a := ⟨k, o', none⟩) (h2.block k (cell_lt hu) (fun e => hne (Option.some.inj e)))).trans hu
end Go.Proofs.Ytepjkoegbehojaa

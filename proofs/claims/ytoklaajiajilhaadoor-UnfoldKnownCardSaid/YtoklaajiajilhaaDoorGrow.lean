/- A region that draws its order, whose operations only read and make memory (calls that answer what is not known ahead, rows that are made): in whatever order, at the end each answer is what it was to be. No program. -/
import Derived.Test.YtoklaajiajilhaaDoorTwo
namespace Go.Proofs.YtoklaajiajilhaaDoor
open Go.RowKit

theorem region_grows {P : Program} {ops : Array Oper} {Q : Exit → Act → World → Prop} {id : Nat} {a : Act} {w : World} (hm : P.follows .mixedOrders = true) (hok : regOkB ops = true) (ds : List Tmp) (hds : dstsOf ops = ds) (hlt : (ds.all fun t => decide (t < a.tmps.size)) = true) (hdn : ds.Nodup)
    (R : Tmp → Value → World → Prop) (hR : ∀ t v W W', R t v W → W.grownBy W' none → R t v W') (h0 : ∀ t, t ∉ ds → R t (a.tmps.getD t undef) w)
    (hops : AllOps (fun _ o => ∃ t, o.dst = some t ∧ ∀ (b : Act) (W : World), w.grownBy W none → (∀ t', Operand.tmp t' ∈ o.op.operands → R t' (b.eval (.tmp t')) W) →
      o.wp P b W (fun b' W' => ∃ x, b' = b.put o.dst x ∧ W.grownBy W' none ∧ R t x W') Q) ops.toList 0)
    (hQ : ∀ (vs : Tmp → Value) (W : World), w.grownBy W none → (∀ t ∈ ds, R t (vs t) W) →
      Q .normal { a with tmps := ds.foldl (fun (ts : Array Value) t => ts.setIfInBounds t (vs t)) a.tmps } W) :
    (Code.region id ops true).wp P Q a w := by
  subst hds
  have hu : ∀ (i j : Nat) (oi oj : Oper) (t : Tmp), ops[i]? = some oi → ops[j]? = some oj → oi.dst = some t → oj.dst = some t → i = j := fun i j oi oj t hi hj ei ej =>
    nodup_at hdn (by rw [Array.getElem?_toList]; exact hi) (by rw [Array.getElem?_toList]; exact hj) ei ej
  have hdl : ∀ t ∈ dstsOf ops, t < a.tmps.size := fun t ht => by simpa using List.all_eq_true.1 hlt t ht
  refine wp_region_any hm (wpAny_inv (fun listed b W => w.grownBy W none ∧ b.defers = a.defers ∧ b.tmps.size = a.tmps.size ∧ (∀ t, t ∉ dstsOf ops → b.tmps[t]? = a.tmps[t]?) ∧
    (∀ (i : Nat) (o : Oper) (t : Tmp), listed.getD i false = true → ops[i]? = some o → o.dst = some t → R t (b.tmps.getD t undef) W)) ?_ ?_ ops.size _ _ _ (by simp) (by
      have := List.countP_le_length (p := (! ·)) (l := (Array.replicate ops.size false).toList)
      simpa using this) ?_)
  · rintro listed b W hs ⟨i1, i2, i3, i4, i5⟩ i hi
    obtain ⟨hni, o, ho, hall⟩ := mem_ready.1 hi
    have hil : i < ops.size := (Array.getElem?_eq_some_iff.1 ho).1
    obtain ⟨g1, g2, g3⟩ := regOkB_at hok ho
    have henv : ∀ t, Operand.tmp t ∈ o.op.operands → R t (b.eval (.tmp t)) W := fun t ht => by
      unfold depsOk at g3
      rw [List.all_eq_true] at g3
      have h1 := g3 (.tmp t) (Array.mem_toList_iff.2 ht)
      simp only [Bool.or_eq_true, List.all_eq_true, List.any_eq_true, Bool.and_eq_true, bne_iff_ne, ne_eq, beq_iff_eq] at h1
      rcases h1 with h1 | ⟨e, he, hb, hx⟩
      · have h4 : t ∉ dstsOf ops := fun hm => by
          obtain ⟨i, oi, hi, e⟩ := mem_dsts.1 hm
          exact h1 oi (List.mem_iff_getElem?.2 ⟨i, by rw [Array.getElem?_toList]; exact hi⟩) e
        have h5 := i4 t h4
        show R t (b.tmps.getD t undef) W
        rw [Array.getD_eq_getD_getElem?, h5, ← Array.getD_eq_getD_getElem?]
        exact hR _ _ _ _ (h0 t h4) i1
      · obtain ⟨oj, hoj, e1⟩ := Option.bind_eq_some_iff.1 hx
        exact i5 e.on oj t (hall e (Array.mem_toList_iff.1 he) hb) hoj e1
    obtain ⟨t, htd, hstep⟩ := hops.at_ i o (by rw [Array.getElem?_toList]; exact ho)
    unfold wpOp
    simp only [ho]
    rw [if_pos (by simp [Region.wanted, g1])]
    refine .inl (Oper.wp_mono ?_ (hstep b W i1 henv))
    rintro b' W' ⟨x, rfl, hg, hx⟩
    have other : ∀ t', t ≠ t' → (b.put o.dst x).tmps[t']? = b.tmps[t']? := fun t' hne => by
      rw [htd]
      simp only [Act.put]
      rw [Array.getElem?_setIfInBounds_ne hne]
    refine ⟨only_trans i1 hg, by rw [htd]; exact i2, by rw [htd]; simp [Act.put, i3], fun t' ht' => ?_, fun m om t' hl hom e1 => ?_⟩
    · rw [other t' (fun e => ht' (mem_dsts.2 ⟨i, o, ho, by rw [htd, e]⟩))]
      exact i4 t' ht'
    · by_cases him : i = m
      · subst him
        rw [ho] at hom
        obtain rfl := Option.some.inj hom
        rw [htd] at e1
        obtain rfl := Option.some.inj e1
        have hl : t < b.tmps.size := by rw [i3]; exact hdl t (mem_dsts.2 ⟨i, o, ho, htd⟩)
        rw [show (b.put o.dst x).tmps.getD t undef = x by rw [htd]; simp [Act.put, hl]]
        exact hx
      · have hne : t ≠ t' := fun e => him (hu i m o om t' ho hom (by rw [htd, e]) e1)
        rw [getD_set_ne false him] at hl
        rw [Array.getD_eq_getD_getElem?, other t' hne, ← Array.getD_eq_getD_getElem?]
        exact hR _ _ _ _ (i5 m om t' hl hom e1) hg
  · rintro listed b W hs ⟨i1, i2, i3, i4, i5⟩ hr
    have hl := all_listedB hok hs hr
    have hlo : ∀ {i o}, ops[i]? = some o → listed.getD i false = true := fun h => hl _ (Array.getElem?_eq_some_iff.1 h).1
    have hb : b = { a with tmps := (dstsOf ops).foldl (fun (ts : Array Value) t => ts.setIfInBounds t (b.tmps.getD t undef)) a.tmps } := by
      obtain ⟨bt, bd⟩ := b
      obtain ⟨at_, ad⟩ := a
      simp only [Act.mk.injEq]
      refine ⟨?_, i2⟩
      apply Array.ext_getElem?
      intro t
      dsimp only at i3 i4
      rw [foldSet]
      by_cases h1 : t ∈ dstsOf ops
      · by_cases h2 : t < at_.size
        · have : t < bt.size := by omega
          simp [h1, h2, this]
        · simp [h2, i3]
      · simp only [h1, false_and, if_false]
        exact i4 t h1
    rw [hb]
    refine hQ (fun t => b.tmps.getD t undef) W i1 (fun t ht => ?_)
    obtain ⟨i, o, ho, e⟩ := mem_dsts.1 ht
    exact i5 i o t (hlo ho) ho e
  · have hno : ∀ j, (Array.replicate ops.size false).getD j false = false := fun j => by
      simp only [Array.getD_eq_getD_getElem?, Array.getElem?_replicate]
      split <;> rfl
    refine ⟨only_drew (only_refl w none), rfl, rfl, fun _ _ => rfl, fun i o t hl => ?_⟩
    rw [hno] at hl; cases hl
end Go.Proofs.YtoklaajiajilhaaDoor

/- Texts joined for the claim's sake: DRTab, Acts. -/
import Derived.Test.YtmhbmeckdbdhpaaZSKnwRow15
import Derived.Test.YtmhbmeckdbdhpaaZSKnwRow25
import Derived.Deep.CutBlock
import Derived.Deep.CutRange
import Derived.Test.YtmhbmeckdbdhpaaZSKnwRow23
namespace Go.Proofs.Ytmhbmeckdbdhpaa
open Go.RowKit Go.Shelf

/-- A table that the call made. -/
def MadeT (w : World) (l : List Nd) (e : Ending) (w' : World) : Prop := (∃ u ns, e = .returned u ∧ OT w.heap.size w' u ns ∧ ns.map (·.1) = l) ∧ w.grownBy w' none
/-- Between two stores. -/
structure TS (w : World) (g n2 : Nat) (ns : List (Nd × Value)) (W : World) : Prop where
  len : ns.length = n2
  ot : OT w.heap.size W (.slice (some ⟨g, 0, none⟩) n2 n2) ns
  gr : w.grownBy W none
  gb : w.heap.size ≤ g
section
variable {w W : World} {g n2 k : Nat} {ns : List (Nd × Value)} {p : Nd × Value}
theorem TS.putc (h : TS w g n2 ns W) (hk : ns[k]? = some p) (j : Nat) (hj : j < 6) (u : Value) (x : Nd) (e : Value) (hset : (ndCells p.1 p.2).toList.set j u = (ndCells x e).toList) (hE : EdgesO w.heap.size W e x.next) :
    TS w g n2 (ns.set k (x, e)) (W.setCell ⟨g, k * 6 + j, none⟩ u) ∧ (∀ v es, EdgesO w.heap.size W v es → EdgesO w.heap.size (W.setCell ⟨g, k * 6 + j, none⟩ u) v es) ∧ g < (W.setCell ⟨g, k * 6 + j, none⟩ u).heap.size := by
  obtain ⟨h1, h2⟩ := h.ot.putc h.len hk j hj u x e hset hE
  exact ⟨⟨by rw [List.length_set]; exact h.len, h1, only_new h.gr h2 h.gb, h.gb⟩, (fun v es hv => h.ot.edges_kept hv h2), (World.ownsRow.lt h1.row g rfl).2⟩
end
end Go.Proofs.Ytmhbmeckdbdhpaa

namespace Go.Proofs.Ytmhbmeckdbdhpaa
open Go.RowKit

/-- What an operation asks for is there, as far as it is listed. -/
def depsV (vals : List (Tmp × Value)) (ops : Array Oper) (o : Oper) : Bool := o.op.operands.toList.all fun
  | .tmp t => (vals.lookup t).isNone || (ops.toList.all fun oj => oj.dst != some t) || o.after.toList.any fun e => Region.binds .any e && ((ops[e.on]?).bind (·.dst) == some t)
  | _ => true
def regOkV (vals : List (Tmp × Value)) (ops : Array Oper) : Bool := ops.toList.zipIdx.all fun (o, i) => o.guard.isNone && (o.after.toList.all fun e => !Region.binds .any e || decide (e.on < i)) && depsV vals ops o
theorem regOkV_at {vals : List (Tmp × Value)} {ops : Array Oper} (h : regOkV vals ops = true) {i : Nat} {o : Oper} (hi : ops[i]? = some o) : o.guard = none ∧ (∀ e ∈ o.after, Region.binds .any e = true → e.on < i) ∧ depsV vals ops o = true := by
  unfold regOkV at h
  rw [List.all_eq_true] at h
  have h1 := h (o, i) (List.mem_iff_getElem?.2 ⟨i, by rw [List.getElem?_zipIdx, Array.getElem?_toList, hi]; simp⟩)
  simp only [Bool.and_eq_true, List.all_eq_true, Bool.or_eq_true, Bool.not_eq_true', decide_eq_true_eq, Option.isNone_iff_eq_none] at h1
  refine ⟨h1.1.1, fun e he hb => ?_, h1.2⟩
  rcases h1.1.2 e (Array.mem_toList_iff.2 he) with h2 | h2
  · rw [hb] at h2; cases h2
  · exact h2
theorem all_listedV {vals : List (Tmp × Value)} {ops : Array Oper} (hok : regOkV vals ops = true) {listed : Array Bool} (hs : listed.size = ops.size) (hr : Region.ready .any ops listed = []) : ∀ i, i < ops.size → listed.getD i false = true := by
  intro i
  induction i using Nat.strongRecOn with
  | _ i ih =>
    intro hi
    cases hl : listed.getD i false with
    | true => rfl
    | false =>
      have ho : ops[i]? = some ops[i] := Array.getElem?_eq_getElem hi
      have hm : i ∈ Region.ready .any ops listed := mem_ready.2 ⟨by simpa [hs, hi] using hl, ops[i], ho, fun e he hb => by
        have := (regOkV_at hok ho).2.1 e he hb
        exact ih e.on this (by omega)⟩
      rw [hr] at hm; cases hm
def doneD (d : Nat → Bool) (i : Nat) : Nat → Bool := fun j => if j = i then true else d j

theorem region_acts {P : Program} {ops : Array Oper} {Q : Exit → Act → World → Prop} {id : Nat} {a : Act} {w : World} (hm : P.follows .mixedOrders = true) (vals : List (Tmp × Value)) (hok : regOkV vals ops = true) (ds : List Tmp) (hds : dstsOf ops = ds) (hlt : (ds.all fun t => decide (t < a.tmps.size)) = true) (hdn : ds.Nodup)
    (h0 : ∀ p ∈ vals, p.1 ∉ ds → a.tmps.getD p.1 undef = p.2)
    (acts : List Nat) (T : (Nat → Bool) → (Tmp → Value) → World → Prop) (hT : ∀ d f g W, T d f W → (∀ t, vals.lookup t = none → f t = g t) → T d g W) (hd : ∀ d i f W, i ∉ acts → T d f W → T (doneD d i) f W)
    (hreads : ∀ (i : Nat) (o : Oper), ops[i]? = some o → i ∉ acts → ∃ t c, o.dst = some t ∧ vals.lookup t = some c ∧ ∀ d (b : Act) W, d i = false → (∀ k o' e, d k = true → ops[k]? = some o' → e ∈ o'.after → Region.binds .any e = true → d e.on = true) → T d (fun t => b.tmps.getD t undef) W → (∀ t v, Operand.tmp t ∈ o.op.operands → vals.lookup t = some v → b.eval (.tmp t) = v) → (execOp b.eval o).run P W = .ok (.value c) W)
    (hsteps : ∀ (i : Nat) (o : Oper), ops[i]? = some o → i ∈ acts → (∀ t, o.dst = some t → vals.lookup t = none) ∧ ∀ d (b : Act) W, b.tmps.size = a.tmps.size → d i = false → (∀ e ∈ o.after, Region.binds .any e = true → d e.on = true) → (∀ k o' e, d k = true → ops[k]? = some o' → e ∈ o'.after → Region.binds .any e = true → d e.on = true) → T d (fun t => b.tmps.getD t undef) W → (∀ t v, Operand.tmp t ∈ o.op.operands → vals.lookup t = some v → b.eval (.tmp t) = v) →
      o.wp P b W (fun b' W' => ∃ x, b' = b.put o.dst x ∧ T (doneD d i) (fun t => (b.put o.dst x).tmps.getD t undef) W') Q)
    (hT0 : T (fun _ => false) (fun t => a.tmps.getD t undef) w.drew)
    (hQ : ∀ (d : Nat → Bool) (vs : Tmp → Value) (W : World), (∀ i, i < ops.size → d i = true) → (∀ t v, vals.lookup t = some v → t ∈ ds → vs t = v) → T d vs W →
      Q .normal { a with tmps := ds.foldl (fun (ts : Array Value) t => ts.setIfInBounds t (vs t)) a.tmps } W) :
    (Code.region id ops true).wp P Q a w := by
  subst hds
  have hu : ∀ (i j : Nat) (oi oj : Oper) (t : Tmp), ops[i]? = some oi → ops[j]? = some oj → oi.dst = some t → oj.dst = some t → i = j := fun i j oi oj t hi hj ei ej =>
    nodup_at hdn (by rw [Array.getElem?_toList]; exact hi) (by rw [Array.getElem?_toList]; exact hj) ei ej
  have hdl : ∀ t ∈ dstsOf ops, t < a.tmps.size := fun t ht => by simpa using List.all_eq_true.1 hlt t ht
  refine wp_region_any hm (wpAny_inv (fun listed b W => b.defers = a.defers ∧ b.tmps.size = a.tmps.size ∧ (∀ t, t ∉ dstsOf ops → b.tmps[t]? = a.tmps[t]?) ∧
    (∀ (i : Nat) (o : Oper) (t : Tmp) (c : Value), listed.getD i false = true → ops[i]? = some o → o.dst = some t → vals.lookup t = some c → b.tmps.getD t undef = c) ∧
    (∀ (k : Nat) (o : Oper) (e : Edge), listed.getD k false = true → ops[k]? = some o → e ∈ o.after → Region.binds .any e = true → listed.getD e.on false = true) ∧
    T (fun i => listed.getD i false) (fun t => b.tmps.getD t undef) W) ?_ ?_ ops.size _ _ _ (by simp) (by
      have := List.countP_le_length (p := (! ·)) (l := (Array.replicate ops.size false).toList)
      simpa using this) ?_)
  · rintro listed b W hs ⟨i2, i3, i4, i5, i7, hTj⟩ i hi
    obtain ⟨hni, o, ho, hall⟩ := mem_ready.1 hi
    have hil : i < ops.size := (Array.getElem?_eq_some_iff.1 ho).1
    have hni' : listed.getD i false = false := by
      have hl : i < listed.size := by omega
      simpa [hl] using hni
    obtain ⟨g1, g2, g3⟩ := regOkV_at hok ho
    have henv : ∀ t v, Operand.tmp t ∈ o.op.operands → vals.lookup t = some v → b.eval (.tmp t) = v := fun t v ht hv => by
      unfold depsV at g3
      rw [List.all_eq_true] at g3
      have h1 := g3 (.tmp t) (Array.mem_toList_iff.2 ht)
      simp only [hv, Option.isNone_some, Bool.false_or, Bool.or_eq_true, List.all_eq_true, List.any_eq_true, Bool.and_eq_true, bne_iff_ne, ne_eq, beq_iff_eq] at h1
      rcases h1 with h1 | ⟨e, he, hb, hx⟩
      · have h4 : t ∉ dstsOf ops := fun hm => by
          obtain ⟨i, oi, hi, e⟩ := mem_dsts.1 hm
          exact h1 oi (List.mem_iff_getElem?.2 ⟨i, by rw [Array.getElem?_toList]; exact hi⟩) e
        have h5 := i4 t h4
        show b.tmps.getD t undef = v
        rw [Array.getD_eq_getD_getElem?, h5, ← Array.getD_eq_getD_getElem?]
        exact h0 (t, v) (lookup_mem hv) h4
      · obtain ⟨oj, hoj, e1⟩ := Option.bind_eq_some_iff.1 hx
        exact i5 e.on oj t v (hall e (Array.mem_toList_iff.1 he) hb) hoj e1 hv
    have hset : ∀ j, i ≠ j → (listed.setIfInBounds i true).getD j false = listed.getD j false := fun j hij => getD_set_ne false hij
    have hseti : (listed.setIfInBounds i true).getD i false = true := getD_set_at (by omega)
    have hdone : (fun j => (listed.setIfInBounds i true).getD j false) = doneD (fun j => listed.getD j false) i := funext fun j => by
      unfold doneD
      by_cases e : j = i
      · rw [if_pos e, e]; exact hseti
      · rw [if_neg e]; exact hset j fun e' => e e'.symm
    unfold wpOp
    simp only [ho]
    rw [if_pos (by simp [Region.wanted, g1])]
    have other : ∀ (x : Value) (t' : Tmp), o.dst ≠ some t' → (b.put o.dst x).tmps[t']? = b.tmps[t']? := fun x t' hne => by
      cases hd : o.dst with
      | none => rfl
      | some t =>
        rw [hd] at hne
        simp only [Act.put]
        rw [Array.getElem?_setIfInBounds_ne (fun e => hne (by rw [e]))]
    have otherD : ∀ (x : Value) (t' : Tmp), o.dst ≠ some t' → (b.put o.dst x).tmps.getD t' undef = b.tmps.getD t' undef := fun x t' hne => by
      rw [Array.getD_eq_getD_getElem?, other x t' hne, ← Array.getD_eq_getD_getElem?]
    have basic : ∀ x : Value, (b.put o.dst x).defers = a.defers ∧ (b.put o.dst x).tmps.size = a.tmps.size ∧ (∀ t, t ∉ dstsOf ops → (b.put o.dst x).tmps[t]? = a.tmps[t]?) := fun x => by
      refine ⟨?_, ?_, fun t ht => ?_⟩
      · cases o.dst <;> exact i2
      · cases o.dst <;> simp [Act.put, i3]
      · rw [other x t (fun e => ht (mem_dsts.2 ⟨i, o, ho, e⟩))]
        exact i4 t ht
    have closed : ∀ (k : Nat) (ok : Oper) (e : Edge), (listed.setIfInBounds i true).getD k false = true → ops[k]? = some ok → e ∈ ok.after → Region.binds .any e = true → (listed.setIfInBounds i true).getD e.on false = true := fun k ok e hl hok he hb => by
      by_cases hie : i = e.on
      · rw [← hie]; exact hseti
      · rw [hset _ hie]
        by_cases hik : i = k
        · subst hik
          rw [ho] at hok
          obtain rfl := Option.some.inj hok
          exact hall e he hb
        · rw [hset _ hik] at hl
          exact i7 k ok e hl hok he hb
    by_cases hmem : i ∈ acts
    · obtain ⟨hv, hstep⟩ := hsteps i o ho hmem
      refine .inl (Oper.wp_mono ?_ (hstep _ b W i3 hni' hall i7 hTj henv))
      rintro b' W' ⟨x, rfl, hT'⟩
      refine ⟨(basic x).1, (basic x).2.1, (basic x).2.2, fun m om t' c' hl hom e1 e2 => ?_, closed, by rw [hdone]; exact hT'⟩
      have hne : o.dst ≠ some t' := fun e => by rw [hv t' e] at e2; cases e2
      have him : i ≠ m := fun e => by subst e; rw [ho] at hom; cases hom; exact hne e1
      rw [hset m him] at hl
      rw [otherD x t' hne]
      exact i5 m om t' c' hl hom e1 e2
    · obtain ⟨t, c, b1, b2, b3⟩ := hreads i o ho hmem
      refine .inl ?_
      unfold Oper.wp
      rw [b3 _ b W hni' i7 hTj henv, Oper.upon_value]
      refine ⟨(basic c).1, (basic c).2.1, (basic c).2.2, fun m om t' c' hl hom e1 e2 => ?_, closed, by
        rw [hdone]
        refine hd _ _ _ _ hmem (hT _ _ _ _ hTj fun t' ht' => ?_)
        have hne : o.dst ≠ some t' := fun e => by
          rw [b1] at e
          obtain rfl := Option.some.inj e
          rw [b2] at ht'
          cases ht'
        exact (otherD c t' hne).symm⟩
      by_cases him : i = m
      · subst him
        rw [ho] at hom
        obtain rfl := Option.some.inj hom
        rw [b1] at e1
        obtain rfl := Option.some.inj e1
        rw [b2] at e2
        obtain rfl := Option.some.inj e2
        have : t < b.tmps.size := by rw [i3]; exact hdl t (mem_dsts.2 ⟨i, o, ho, b1⟩)
        rw [b1]
        simp [Act.put, this]
      · have hne : o.dst ≠ some t' := fun e => him (hu i m o om t' ho hom e e1)
        rw [hset m him] at hl
        rw [otherD c t' hne]
        exact i5 m om t' c' hl hom e1 e2
  · rintro listed b W hs ⟨i2, i3, i4, i5, i7, hTj⟩ hr
    have hl := all_listedV hok hs hr
    have hlo : ∀ {i o}, ops[i]? = some o → listed.getD i false = true := fun h => hl _ (Array.getElem?_eq_some_iff.1 h).1
    have hb : b = { a with tmps := (dstsOf ops).foldl (fun (ts : Array Value) t => ts.setIfInBounds t (b.tmps.getD t undef)) a.tmps } := by
      obtain ⟨bt, bd⟩ := b
      obtain ⟨at_, ad⟩ := a
      simp only [Act.mk.injEq]
      refine ⟨?_, i2⟩
      apply Array.ext_getElem?
      intro t
      dsimp only at i3 i4
      rw [foldSet]
      by_cases h1 : t ∈ dstsOf ops
      · by_cases h2 : t < at_.size
        · have : t < bt.size := by omega
          simp [h1, h2, this]
        · simp [h2, i3]
      · simp only [h1, false_and, if_false]
        exact i4 t h1
    rw [hb]
    refine hQ (fun i => listed.getD i false) (fun t => b.tmps.getD t undef) W hl (fun t v hv ht => ?_) hTj
    obtain ⟨i, o, ho, e⟩ := mem_dsts.1 ht
    exact i5 i o t v (hlo ho) ho e hv
  · have hno : ∀ j, (Array.replicate ops.size false).getD j false = false := fun j => by
      simp only [Array.getD_eq_getD_getElem?, Array.getElem?_replicate]
      split <;> rfl
    refine ⟨rfl, rfl, fun _ _ => rfl, fun i o t d hl => ?_, fun k o e hl => ?_, ?_⟩
    · rw [hno] at hl; cases hl
    · rw [hno] at hl; cases hl
    · have e : (fun i => (Array.replicate ops.size false).getD i false) = fun _ => false := funext hno
      rw [e]; exact hT0
end Go.Proofs.Ytmhbmeckdbdhpaa

/- Bth's law (a drawn region with guards that are known, slots of which values or predicates are told), with what it stands on: for seats at which Two, Grd, Ovt do not fill. All in a namespace of its own. No program. -/
import Derived.Test.YtnejikkibneegaaBox
namespace Go.Proofs.Ytnejikkibneegaa.Rg
open Go.RowKit

def AllOps (f : Nat → Oper → Prop) : List Oper → Nat → Prop
  | [], _ => True
  | o :: l, i => f i o ∧ AllOps f l (i + 1)
theorem AllOps.at_ {f : Nat → Oper → Prop} : ∀ {l : List Oper} {k : Nat}, AllOps f l k → ∀ (i : Nat) (o : Oper), l[i]? = some o → f (k + i) o
  | [], _, _, i, o, h => by simp at h
  | x :: l, k, ⟨h1, h2⟩, i, o, h => by
    cases i with
    | zero =>
      simp only [List.getElem?_cons_zero, Option.some.injEq] at h
      subst h
      exact h1
    | succ i =>
      rw [List.getElem?_cons_succ] at h
      have := AllOps.at_ h2 i o h
      rwa [show k + (i + 1) = k + 1 + i by omega]
theorem nodup_at {α β : Type} {f : α → Option β} : ∀ {l : List α} {i j : Nat} {x y : α} {t : β}, (l.filterMap f).Nodup → l[i]? = some x → l[j]? = some y → f x = some t → f y = some t → i = j
  | [], i, _, _, _, _, _, h, _, _, _ => by simp at h
  | z :: l, i, j, x, y, t, hn, hi, hj, hx, hy => by
    have mem : ∀ (k : Nat) (u : α), l[k]? = some u → f u = some t → t ∈ l.filterMap f := fun k u hk hu => List.mem_filterMap.2 ⟨u, List.mem_of_getElem? hk, hu⟩
    cases i with
    | zero =>
      simp only [List.getElem?_cons_zero, Option.some.injEq] at hi
      subst hi
      cases j with
      | zero => rfl
      | succ j =>
        rw [List.getElem?_cons_succ] at hj
        rw [List.filterMap_cons_some hx] at hn
        exact absurd (mem j y hj hy) (List.nodup_cons.1 hn).1
    | succ i =>
      rw [List.getElem?_cons_succ] at hi
      cases j with
      | zero =>
        simp only [List.getElem?_cons_zero, Option.some.injEq] at hj
        subst hj
        rw [List.filterMap_cons_some hy] at hn
        exact absurd (mem i x hi hx) (List.nodup_cons.1 hn).1
      | succ j =>
        rw [List.getElem?_cons_succ] at hj
        have hn' : (l.filterMap f).Nodup := by
          cases hz : f z with
          | none => rwa [List.filterMap_cons_none hz] at hn
          | some u => rw [List.filterMap_cons_some hz] at hn; exact (List.nodup_cons.1 hn).2
        rw [nodup_at hn' hi hj hx hy]
theorem lookup_mem {l : List (Nat × Value)} {t : Nat} {v : Value} (h : l.lookup t = some v) : (t, v) ∈ l := by
  induction l with
  | nil => cases h
  | cons q l ih =>
    obtain ⟨t', d'⟩ := q
    rw [List.lookup_cons] at h
    split at h
    · rename_i e
      simp only [Option.some.injEq] at h
      subst h
      rw [eq_of_beq e]
      exact List.mem_cons_self
    · exact List.mem_cons_of_mem _ (ih h)

def InitOk (a : Act) : List (Tmp × Value) → Prop
  | [] => True
  | p :: l => a.tmps.getD p.1 undef = p.2 ∧ InitOk a l
theorem InitOk.at_ {a : Act} : ∀ {l : List (Tmp × Value)}, InitOk a l → ∀ p ∈ l, a.tmps.getD p.1 undef = p.2
  | p :: l, h, q, hq => by
    rcases List.mem_cons.1 hq with rfl | hq
    · exact h.1
    · exact h.2.at_ q hq
abbrev VP := Value → World → Prop
def AllV (f : Tmp → VP → Prop) : List (Tmp × VP) → Prop
  | [] => True
  | p :: l => f p.1 p.2 ∧ AllV f l
theorem AllV.at_ {f : Tmp → VP → Prop} : ∀ {l : List (Tmp × VP)}, AllV f l → ∀ {t : Tmp} {p : VP}, l.lookup t = some p → f t p
  | q :: l, h, t, p, hp => by
    rw [List.lookup_cons] at hp
    split at hp
    · rename_i e
      injection hp with hp
      subst hp
      have := eq_of_beq e
      subst this
      exact h.1
    · exact h.2.at_ hp
def KeepsV (_ : Tmp) (p : VP) : Prop := ∀ v W W', p v W → W.grownBy W' none → p v W'
def inW (vals : List (Tmp × Value)) (xs : List Tmp) (t : Tmp) : Bool := (vals.lookup t).isSome || xs.contains t
def guardOkX (vals : List (Tmp × Value)) (xs : List Tmp) (ops : Array Oper) (o : Oper) : Bool := match o.guard with
  | none => match o.dst with
    | some t => inW vals xs t
    | none => false
  | some (j, want) => (o.after.toList.any fun e => Region.binds .any e && e.on == j) && (match (((ops[j]?).bind (·.dst)).bind fun t => vals.lookup t) with
    | some (.bool c) => (match o.dst with
      | some t => if c == want then inW vals xs t else !inW vals xs t
      | none => false)
    | _ => false)
def depsX (vals : List (Tmp × Value)) (xs : List Tmp) (ops : Array Oper) (o : Oper) : Bool := o.op.operands.toList.all fun
  | .tmp t => (!inW vals xs t) || (ops.toList.all fun oj => oj.dst != some t) || o.after.toList.any fun e => Region.binds .any e && ((ops[e.on]?).bind (·.dst) == some t)
  | _ => true
def regOkX (vals : List (Tmp × Value)) (xs : List Tmp) (ops : Array Oper) : Bool := ops.toList.zipIdx.all fun (o, i) => guardOkX vals xs ops o && (o.after.toList.all fun e => !Region.binds .any e || decide (e.on < i)) && depsX vals xs ops o
section
variable {vals : List (Tmp × Value)} {xs : List Tmp} {ops : Array Oper}
theorem regOkX_at (h : regOkX vals xs ops = true) {i : Nat} {o : Oper} (hi : ops[i]? = some o) : guardOkX vals xs ops o = true ∧ (∀ e ∈ o.after, Region.binds .any e = true → e.on < i) ∧ depsX vals xs ops o = true := by
  unfold regOkX at h
  rw [List.all_eq_true] at h
  have h1 := h (o, i) (List.mem_iff_getElem?.2 ⟨i, by rw [List.getElem?_zipIdx, Array.getElem?_toList, hi]; simp⟩)
  simp only [Bool.and_eq_true, List.all_eq_true, Bool.or_eq_true, Bool.not_eq_true', decide_eq_true_eq] at h1
  refine ⟨h1.1.1, fun e he hb => ?_, h1.2⟩
  rcases h1.1.2 e (Array.mem_toList_iff.2 he) with h2 | h2
  · rw [hb] at h2; cases h2
  · exact h2
theorem all_listedX (hok : regOkX vals xs ops = true) {listed : Array Bool} (hs : listed.size = ops.size) (hr : Region.ready .any ops listed = []) : ∀ i, i < ops.size → listed.getD i false = true := by
  intro i
  induction i using Nat.strongRecOn with
  | _ i ih =>
    intro hi
    cases hl : listed.getD i false with
    | true => rfl
    | false =>
      have ho : ops[i]? = some ops[i] := Array.getElem?_eq_getElem hi
      have hm : i ∈ Region.ready .any ops listed := mem_ready.2 ⟨by simpa [hs, hi] using hl, ops[i], ho, fun e he hb => by
        have := (regOkX_at hok ho).2.1 e he hb
        exact ih e.on this (by omega)⟩
      rw [hr] at hm
      cases hm
/-- An operation is wanted, and answers; or it is not wanted. -/
theorem guard_casesX {o : Oper} (h : guardOkX vals xs ops o = true) {listed : Array Bool} {tmps : Array Value} (hall : ∀ e ∈ o.after, Region.binds .any e = true → listed.getD e.on false = true)
    (hv : ∀ (i : Nat) (oi : Oper) (t : Tmp) (c : Value), listed.getD i false = true → ops[i]? = some oi → oi.dst = some t → vals.lookup t = some c → tmps.getD t undef = c) :
    ∃ t, o.dst = some t ∧ (Region.wanted o (yielded ops tmps) = true ∧ inW vals xs t = true ∨ Region.wanted o (yielded ops tmps) = false ∧ inW vals xs t = false) := by
  unfold guardOkX at h
  cases hg : o.guard with
  | none =>
    rw [hg] at h
    dsimp only at h
    cases ht : o.dst with
    | none => rw [ht] at h; cases h
    | some t =>
      rw [ht] at h
      exact ⟨t, rfl, .inl ⟨by simp [Region.wanted, hg], h⟩⟩
  | some p =>
    obtain ⟨j, want⟩ := p
    rw [hg] at h
    dsimp only at h
    rw [Bool.and_eq_true, List.any_eq_true] at h
    obtain ⟨⟨e, he, hb⟩, h2⟩ := h
    simp only [Bool.and_eq_true, beq_iff_eq] at hb
    have hl := hall e (Array.mem_toList_iff.1 he) hb.1
    rw [hb.2] at hl
    split at h2
    · rename_i c hc
      obtain ⟨tj, htj, hc⟩ := Option.bind_eq_some_iff.1 hc
      obtain ⟨oj, hoj, htj⟩ := Option.bind_eq_some_iff.1 htj
      cases ht : o.dst with
      | none => rw [ht] at h2; cases h2
      | some t =>
        rw [ht] at h2
        dsimp only at h2
        have hw := hv j oj tj (.bool c) hl hoj htj hc
        have hy : yielded ops tmps j = some c := by
          unfold yielded
          have hlt : tj < tmps.size := by
            rcases Nat.lt_or_ge tj tmps.size with h | h
            · exact h
            · have hn : ¬ tj < tmps.size := Nat.not_lt.2 h
              simp [Array.getD_eq_getD_getElem?, hn] at hw
              cases hw
          have hx : tmps[tj]? = some (.bool c) := by
            rw [Array.getD_eq_getD_getElem?, Array.getElem?_eq_getElem hlt] at hw
            rw [Array.getElem?_eq_getElem hlt]
            exact congrArg some hw
          simp [hoj, htj, hx]
        refine ⟨t, rfl, ?_⟩
        by_cases hcw : c = want
        · rw [if_pos (by simp [hcw])] at h2
          exact .inl ⟨by simp [Region.wanted, hg, hy, hcw], h2⟩
        · rw [if_neg (by simp [hcw])] at h2
          exact .inr ⟨by simp [Region.wanted, hg, hy, hcw], by simpa using h2⟩
    · cases h2
end
/-- What an operation owes that fills slot t. -/
def OpP (P : Program) (o : Oper) (vals : List (Tmp × Value)) (ex : List (Tmp × VP)) (w : World) (p : VP) : Prop :=
  ∀ (b : Act) (W : World), w.grownBy W none → (∀ t v, Operand.tmp t ∈ o.op.operands → vals.lookup t = some v → b.eval (.tmp t) = v) → (∀ t q, Operand.tmp t ∈ o.op.operands → ex.lookup t = some q → q (b.eval (.tmp t)) W) →
    (∃ x W', (execOp b.eval o).run P W = .ok (.value x) W' ∧ W.grownBy W' none ∧ p x W') ∨ ∃ f args, (execOp b.eval o).run P W = .ok (.enter f args) W ∧ Calls P f args W fun e w'' => ∃ x, e = .returned x ∧ W.grownBy w'' none ∧ p x w''
def SlotP (vals : List (Tmp × Value)) (ex : List (Tmp × VP)) (t : Tmp) : VP := fun x W => (∀ c, vals.lookup t = some c → x = c) ∧ (∀ p, ex.lookup t = some p → p x W)
def OpB (P : Program) (o : Oper) (vals : List (Tmp × Value)) (ex : List (Tmp × VP)) (w : World) : Prop := ∃ t, o.dst = some t ∧ (inW vals (ex.map (·.1)) t = true → OpP P o vals ex w (SlotP vals ex t))

theorem region_both {P : Program} {ops : Array Oper} {Q : Exit → Act → World → Prop} {id : Nat} {a : Act} {w : World} (hm : P.follows .mixedOrders = true) (made init : List (Tmp × Value)) (ex : List (Tmp × VP)) (hk : AllV KeepsV ex) (hok : regOkX (made ++ init) (ex.map (·.1)) ops = true) (ds : List Tmp) (hds : dstsOf ops = ds) (hlt : (ds.all fun t => decide (t < a.tmps.size)) = true) (hdn : ds.Nodup)
    (hmd : (made.all fun p => ds.contains p.1) = true) (hxd : ((ex.map (·.1)).all fun t => ds.contains t) = true) (h0 : InitOk a init)
    (hops : AllOps (fun _ o => OpB P o (made ++ init) ex w) ops.toList 0)
    (hQ : ∀ (vs : Tmp → Value) (W : World), w.grownBy W none → (∀ t v, (made ++ init).lookup t = some v → t ∈ ds → vs t = v) → (∀ t p, ex.lookup t = some p → p (vs t) W) →
      Q .normal { a with tmps := ds.foldl (fun (ts : Array Value) t => ts.setIfInBounds t (vs t)) a.tmps } W) :
    (Code.region id ops true).wp P Q a w := by
  have h0' : ∀ p ∈ made ++ init, p.1 ∉ ds → a.tmps.getD p.1 undef = p.2 := fun p hp hn => by
    rcases List.mem_append.1 hp with hp | hp
    · exact absurd (by simpa using List.all_eq_true.1 hmd p hp) hn
    · exact h0.at_ p hp
  have hxd' : ∀ t p, ex.lookup t = some p → t ∈ ds := fun t p h => by
    have : t ∈ ex.map (·.1) := by
      clear hok hops hQ hk hxd
      induction ex with
      | nil => cases h
      | cons q l ih =>
        rw [List.lookup_cons] at h
        split at h
        · rename_i e
          rw [eq_of_beq e]
          simp
        · simp only [List.map_cons, List.mem_cons]
          exact .inr (ih h)
    simpa using List.all_eq_true.1 hxd t this
  generalize hvs : made ++ init = vals at *
  clear h0 hmd hvs
  subst hds
  have hu : ∀ (i j : Nat) (oi oj : Oper) (t : Tmp), ops[i]? = some oi → ops[j]? = some oj → oi.dst = some t → oj.dst = some t → i = j := fun i j oi oj t hi hj ei ej =>
    nodup_at hdn (by rw [Array.getElem?_toList]; exact hi) (by rw [Array.getElem?_toList]; exact hj) ei ej
  have hdl : ∀ t ∈ dstsOf ops, t < a.tmps.size := fun t ht => by simpa using List.all_eq_true.1 hlt t ht
  have hxs : ∀ t p, ex.lookup t = some p → (ex.map (·.1)).contains t = true := fun t p h => by
    clear hok hops hQ hk hxd hxd'
    induction ex with
    | nil => cases h
    | cons q l ih =>
      rw [List.lookup_cons] at h
      split at h
      · rename_i e
        rw [eq_of_beq e]
        simp
      · have := ih h
        simp only [List.map_cons, List.contains_cons, Bool.or_eq_true]
        exact .inr this
  refine wp_region_any hm (wpAny_inv (fun listed b W => w.grownBy W none ∧ b.defers = a.defers ∧ b.tmps.size = a.tmps.size ∧ (∀ t, t ∉ dstsOf ops → b.tmps[t]? = a.tmps[t]?) ∧
    (∀ (i : Nat) (o : Oper) (t : Tmp), listed.getD i false = true → ops[i]? = some o → o.dst = some t → SlotP vals ex t (b.tmps.getD t undef) W)) ?_ ?_ ops.size _ _ _ (by simp) (by
      have := List.countP_le_length (p := (! ·)) (l := (Array.replicate ops.size false).toList)
      simpa using this) ?_)
  · rintro listed b W hs ⟨i1, i2, i3, i4, i5⟩ i hi
    obtain ⟨hni, o, ho, hall⟩ := mem_ready.1 hi
    have hil : i < ops.size := (Array.getElem?_eq_some_iff.1 ho).1
    obtain ⟨g1, g2, g3⟩ := regOkX_at hok ho
    have hdep : ∀ t, Operand.tmp t ∈ o.op.operands → inW vals (ex.map (·.1)) t = true → t ∉ dstsOf ops ∨ ∃ j oj, listed.getD j false = true ∧ ops[j]? = some oj ∧ oj.dst = some t := fun t ht hin => by
      unfold depsX at g3
      rw [List.all_eq_true] at g3
      have h1 := g3 (.tmp t) (Array.mem_toList_iff.2 ht)
      simp only [Bool.or_eq_true, List.all_eq_true, List.any_eq_true, Bool.and_eq_true, bne_iff_ne, ne_eq, beq_iff_eq, hin, Bool.not_true, Bool.false_eq_true, false_or] at h1
      rcases h1 with h1 | ⟨e, he, hb, hx⟩
      · exact .inl fun hm => by
          obtain ⟨i, oi, hi, e⟩ := mem_dsts.1 hm
          exact h1 oi (List.mem_iff_getElem?.2 ⟨i, by rw [Array.getElem?_toList]; exact hi⟩) e
      · obtain ⟨oj, hoj, e1⟩ := Option.bind_eq_some_iff.1 hx
        exact .inr ⟨e.on, oj, hall e (Array.mem_toList_iff.1 he) hb, hoj, e1⟩
    have henv : ∀ t v, Operand.tmp t ∈ o.op.operands → vals.lookup t = some v → b.eval (.tmp t) = v := fun t v ht hv => by
      rcases hdep t ht (by simp [inW, hv]) with h4 | ⟨j, oj, h1, h2, h3⟩
      · show b.tmps.getD t undef = v
        rw [Array.getD_eq_getD_getElem?, i4 t h4, ← Array.getD_eq_getD_getElem?]
        exact h0' (t, v) (lookup_mem hv) h4
      · exact (i5 j oj t h1 h2 h3).1 v hv
    have henx : ∀ t q, Operand.tmp t ∈ o.op.operands → ex.lookup t = some q → q (b.eval (.tmp t)) W := fun t q ht hq => by
      rcases hdep t ht (by unfold inW; rw [hxs t q hq]; simp) with h4 | ⟨j, oj, h1, h2, h3⟩
      · exact absurd (hxd' t q hq) h4
      · exact (i5 j oj t h1 h2 h3).2 q hq
    have hset : ∀ j, i ≠ j → (listed.setIfInBounds i true).getD j false = listed.getD j false := fun j hij => getD_set_ne false hij
    obtain ⟨t, htd, hcase⟩ := guard_casesX g1 hall (fun j oj t c h1 h2 h3 h4 => (i5 j oj t h1 h2 h3).1 c h4)
    have key : ∀ (x : Value) W', W.grownBy W' none → SlotP vals ex t x W' → w.grownBy W' none ∧ (b.put o.dst x).defers = a.defers ∧ (b.put o.dst x).tmps.size = a.tmps.size ∧ (∀ t, t ∉ dstsOf ops → (b.put o.dst x).tmps[t]? = a.tmps[t]?) ∧
        (∀ (j : Nat) (oj : Oper) (t' : Tmp), (listed.setIfInBounds i true).getD j false = true → ops[j]? = some oj → oj.dst = some t' → SlotP vals ex t' ((b.put o.dst x).tmps.getD t' undef) W') := fun x W' hg hx => by
      refine ⟨only_trans i1 hg, by rw [htd]; exact i2, by simp [Act.put, htd, i3], fun t' ht' => ?_, fun j oj t' hl hoj e1 => ?_⟩
      · have hne : t ≠ t' := fun e => ht' (mem_dsts.2 ⟨i, o, ho, by rw [htd, e]⟩)
        rw [htd]
        simp only [Act.put]
        rw [Array.getElem?_setIfInBounds_ne hne]
        exact i4 t' ht'
      · by_cases hij : i = j
        · subst hij
          rw [ho] at hoj
          obtain rfl := Option.some.inj hoj
          rw [htd] at e1
          obtain rfl := Option.some.inj e1
          have : t < b.tmps.size := by rw [i3]; exact hdl t (mem_dsts.2 ⟨i, o, ho, htd⟩)
          rw [htd, show (b.put (some t) x).tmps.getD t undef = x by simp [Act.put, this]]
          exact hx
        · have hne : t ≠ t' := fun e => hij (hu i j o oj t ho hoj htd (by rw [e]; exact e1))
          rw [hset j hij] at hl
          rw [htd]
          simp only [Act.put]
          rw [Array.getD_eq_getD_getElem?, Array.getElem?_setIfInBounds_ne hne, ← Array.getD_eq_getD_getElem?]
          obtain ⟨k1, k2⟩ := i5 j oj t' hl hoj e1
          exact ⟨k1, fun p hp => hk.at_ hp _ _ _ (k2 p hp) hg⟩
    unfold wpOp
    simp only [ho]
    rcases hcase with ⟨hw, hc⟩ | ⟨hw, hc⟩
    · rw [if_pos hw]
      refine .inl ?_
      obtain ⟨t2, ht2, hop⟩ := hops.at_ i o (by rw [Array.getElem?_toList]; exact ho)
      rw [htd] at ht2
      obtain rfl := Option.some.inj ht2
      unfold Oper.wp
      rcases hop hc b W i1 henv henx with ⟨x, W', h, hg, hx⟩ | ⟨f, args, h, hcall⟩
      · rw [h, Oper.upon_value]
        exact key x W' hg hx
      · rw [h, Oper.upon_enter]
        refine hcall.mono ?_
        rintro e w'' ⟨x, rfl, hg, hx⟩
        exact key x w'' hg hx
    · rw [if_neg (by rw [hw]; decide)]
      refine key undef W (only_refl _ _) ⟨fun c hc' => ?_, fun p hp => ?_⟩
      · unfold inW at hc; rw [hc'] at hc; simp at hc
      · unfold inW at hc; rw [hxs t p hp] at hc; simp at hc
  · rintro listed b W hs ⟨i1, i2, i3, i4, i5⟩ hr
    have hl := all_listedX hok hs hr
    have hlo : ∀ {i o}, ops[i]? = some o → listed.getD i false = true := fun h => hl _ (Array.getElem?_eq_some_iff.1 h).1
    have hb : b = { a with tmps := (dstsOf ops).foldl (fun (ts : Array Value) t => ts.setIfInBounds t (b.tmps.getD t undef)) a.tmps } := by
      obtain ⟨bt, bd⟩ := b
      obtain ⟨at_, ad⟩ := a
      simp only [Act.mk.injEq]
      refine ⟨?_, i2⟩
      apply Array.ext_getElem?
      intro t
      dsimp only at i3 i4
      rw [foldSet]
      by_cases h1 : t ∈ dstsOf ops
      · by_cases h2 : t < at_.size
        · have : t < bt.size := by omega
          simp [h1, h2, this]
        · simp [h2, i3]
      · simp only [h1, false_and, if_false]
        exact i4 t h1
    rw [hb]
    refine hQ (fun t => b.tmps.getD t undef) W i1 (fun t v hv ht => ?_) (fun t p hp => ?_)
    · obtain ⟨i, o, ho, e⟩ := mem_dsts.1 ht
      exact (i5 i o t (hlo ho) ho e).1 v hv
    · obtain ⟨i, o, ho, e⟩ := mem_dsts.1 (hxd' t p hp)
      exact (i5 i o t (hlo ho) ho e).2 p hp
  · have hno : ∀ j, (Array.replicate ops.size false).getD j false = false := fun j => by
      simp only [Array.getD_eq_getD_getElem?, Array.getElem?_replicate]
      split <;> rfl
    refine ⟨only_drew (only_refl w none), rfl, rfl, fun _ _ => rfl, fun i o t hl => ?_⟩
    rw [hno] at hl; cases hl

/-! ### What single operations owe -/
section
variable {P : Program} {vals : List (Tmp × Value)} {ex : List (Tmp × VP)} {w : World} {o : Oper}
/-- A value that is known. -/
theorem obv {t : Tmp} {c : Value} (ho : o.dst = some t) (hv : vals.lookup t = some c) (hx : ex.lookup t = none) (h : OpVal P o vals w c) : OpB P o vals ex w := ⟨t, ho, fun _ b W hg h1 _ => by
  have key : ∀ W', SlotP vals ex t c W' := fun W' => ⟨fun c' h' => by rw [hv] at h'; exact Option.some.inj h', fun p hp => by rw [hx] at hp; cases hp⟩
  rcases h b W hg h1 with h | ⟨f, args, h, hc⟩
  · exact .inl ⟨c, W, h, only_refl _ _, key W⟩
  · refine .inr ⟨f, args, h, hc.mono ?_⟩
    rintro e w'' ⟨rfl, hg⟩
    exact ⟨c, rfl, hg, key w''⟩⟩
/-- One of which a predicate is told. -/
theorem obx {t : Tmp} {p : VP} (ho : o.dst = some t) (hv : vals.lookup t = none) (hx : ex.lookup t = some p) (h : OpP P o vals ex w p) : OpB P o vals ex w := ⟨t, ho, fun _ b W hg h1 h2 => by
  have key : ∀ x W', p x W' → SlotP vals ex t x W' := fun x W' hp => ⟨fun c' h' => (by rw [hv] at h'; cases h'), fun q hq => (by rw [hx] at hq; obtain rfl := Option.some.inj hq; exact hp)⟩
  rcases h b W hg h1 h2 with ⟨x, W', h, hg, hp⟩ | ⟨f, args, h, hc⟩
  · exact .inl ⟨x, W', h, hg, key x W' hp⟩
  · refine .inr ⟨f, args, h, hc.mono ?_⟩
    rintro e w'' ⟨x, rfl, hg, hp⟩
    exact ⟨x, rfl, hg, key x w'' hp⟩⟩
/-- A known value that hangs on predicates. -/
theorem obp {t : Tmp} {c : Value} (ho : o.dst = some t) (hv : vals.lookup t = some c) (hx : ex.lookup t = none) (h : OpP P o vals ex w (fun v _ => v = c)) : OpB P o vals ex w := ⟨t, ho, fun _ b W hg h1 h2 => by
  have key : ∀ W', SlotP vals ex t c W' := fun W' => ⟨fun c' h' => by rw [hv] at h'; exact Option.some.inj h', fun p hp => by rw [hx] at hp; cases hp⟩
  rcases h b W hg h1 h2 with ⟨x, W', h, hg, he⟩ | ⟨f, args, h, hc⟩
  · exact .inl ⟨x, W', h, hg, he ▸ key W'⟩
  · refine .inr ⟨f, args, h, hc.mono ?_⟩
    rintro e w'' ⟨x, rfl, hg, he⟩
    exact ⟨x, rfl, hg, he ▸ key w''⟩⟩
/-- One that is not wanted. -/
theorem obs {t : Tmp} (ho : o.dst = some t) (hv : inW vals (ex.map (·.1)) t = false) : OpB P o vals ex w := ⟨t, ho, fun h => by rw [hv] at h; cases h⟩
end
end Go.Proofs.Ytnejikkibneegaa.Rg

/- Texts joined for the claim's sake: CEx, Regu. -/
import Derived.Test.YtmhbmeckdbdhpaaZSAddRow10
import Derived.Test.YtmhbmeckdbdhpaaZSAddRow44
namespace Go.Proofs.Ytmhbmeckdbdhpaa
end Go.Proofs.Ytmhbmeckdbdhpaa

namespace Go.Proofs.Ytmhbmeckdbdhpaa.Rgu
open Go.RowKit Rg

def isUn : Value → Bool
  | .tuple xs => xs.size == 0
  | _ => false
theorem isUn_eq {v : Value} (h : isUn v = true) : v = undef := by
  cases v with
  | tuple xs =>
    have : xs.size = 0 := by simpa [isUn] using h
    rw [Array.size_eq_zero_iff.1 this]
    rfl
  | _ => cases h
def unwOk (vals : List (Tmp × Value)) (xs : List Tmp) (t : Tmp) : Bool := !xs.contains t && (match vals.lookup t with | none => true | some v => isUn v)
def wanOk (vals : List (Tmp × Value)) (xs : List Tmp) (t : Tmp) : Bool := inW vals xs t && (match vals.lookup t with | none => true | some v => !isUn v)
def guardOkU (vals : List (Tmp × Value)) (xs : List Tmp) (ops : Array Oper) (o : Oper) : Bool := match o.guard with
  | none => match o.dst with
    | some t => wanOk vals xs t
    | none => false
  | some (j, want) => (o.after.toList.any fun e => Region.binds .any e && e.on == j) && (match (((ops[j]?).bind (·.dst)).bind fun t => vals.lookup t) with
    | some (.bool c) => (match o.dst with
      | some t => if c == want then wanOk vals xs t else unwOk vals xs t
      | none => false)
    | some (.tuple ys) => (match o.dst with
      | some t => ys.size == 0 && unwOk vals xs t
      | none => false)
    | _ => false)
def regOkU (vals : List (Tmp × Value)) (xs : List Tmp) (ops : Array Oper) : Bool := ops.toList.zipIdx.all fun (o, i) => guardOkU vals xs ops o && (o.after.toList.all fun e => !Region.binds .any e || decide (e.on < i)) && depsX vals xs ops o
section
variable {vals : List (Tmp × Value)} {xs : List Tmp} {ops : Array Oper}
theorem regOkU_at (h : regOkU vals xs ops = true) {i : Nat} {o : Oper} (hi : ops[i]? = some o) : guardOkU vals xs ops o = true ∧ (∀ e ∈ o.after, Region.binds .any e = true → e.on < i) ∧ depsX vals xs ops o = true := by
  unfold regOkU at h
  rw [List.all_eq_true] at h
  have h1 := h (o, i) (List.mem_iff_getElem?.2 ⟨i, by rw [List.getElem?_zipIdx, Array.getElem?_toList, hi]; simp⟩)
  simp only [Bool.and_eq_true, List.all_eq_true, Bool.or_eq_true, Bool.not_eq_true', decide_eq_true_eq] at h1
  refine ⟨h1.1.1, fun e he hb => ?_, h1.2⟩
  rcases h1.1.2 e (Array.mem_toList_iff.2 he) with h2 | h2
  · rw [hb] at h2; cases h2
  · exact h2
theorem all_listedU (hok : regOkU vals xs ops = true) {listed : Array Bool} (hs : listed.size = ops.size) (hr : Region.ready .any ops listed = []) : ∀ i, i < ops.size → listed.getD i false = true := by
  intro i
  induction i using Nat.strongRecOn with
  | _ i ih =>
    intro hi
    cases hl : listed.getD i false with
    | true => rfl
    | false =>
      have ho : ops[i]? = some ops[i] := Array.getElem?_eq_getElem hi
      have hm : i ∈ Region.ready .any ops listed := mem_ready.2 ⟨by simpa [hs, hi] using hl, ops[i], ho, fun e he hb => by
        have := (regOkU_at hok ho).2.1 e he hb
        exact ih e.on this (by omega)⟩
      rw [hr] at hm
      cases hm
/-- An operation is wanted, and answers; or it is not wanted. -/
theorem guard_casesU {o : Oper} (h : guardOkU vals xs ops o = true) {listed : Array Bool} {tmps : Array Value} (hall : ∀ e ∈ o.after, Region.binds .any e = true → listed.getD e.on false = true)
    (hv : ∀ (i : Nat) (oi : Oper) (t : Tmp) (c : Value), listed.getD i false = true → ops[i]? = some oi → oi.dst = some t → vals.lookup t = some c → tmps.getD t undef = c) :
    ∃ t, o.dst = some t ∧ (Region.wanted o (yielded ops tmps) = true ∧ wanOk vals xs t = true ∨ Region.wanted o (yielded ops tmps) = false ∧ unwOk vals xs t = true) := by
  unfold guardOkU at h
  cases hg : o.guard with
  | none =>
    rw [hg] at h
    dsimp only at h
    cases ht : o.dst with
    | none => rw [ht] at h; cases h
    | some t =>
      rw [ht] at h
      exact ⟨t, rfl, .inl ⟨by simp [Region.wanted, hg], h⟩⟩
  | some p =>
    obtain ⟨j, want⟩ := p
    rw [hg] at h
    dsimp only at h
    rw [Bool.and_eq_true, List.any_eq_true] at h
    obtain ⟨⟨e, he, hb⟩, h2⟩ := h
    simp only [Bool.and_eq_true, beq_iff_eq] at hb
    have hl := hall e (Array.mem_toList_iff.1 he) hb.1
    rw [hb.2] at hl
    split at h2
    · rename_i c hc
      obtain ⟨tj, htj, hc⟩ := Option.bind_eq_some_iff.1 hc
      obtain ⟨oj, hoj, htj⟩ := Option.bind_eq_some_iff.1 htj
      cases ht : o.dst with
      | none => rw [ht] at h2; cases h2
      | some t =>
        rw [ht] at h2
        dsimp only at h2
        have hw := hv j oj tj (.bool c) hl hoj htj hc
        have hy : yielded ops tmps j = some c := by
          unfold yielded
          have hlt : tj < tmps.size := by
            rcases Nat.lt_or_ge tj tmps.size with h | h
            · exact h
            · have hn : ¬ tj < tmps.size := Nat.not_lt.2 h
              simp [Array.getD_eq_getD_getElem?, hn] at hw
              cases hw
          have hx : tmps[tj]? = some (.bool c) := by
            rw [Array.getD_eq_getD_getElem?, Array.getElem?_eq_getElem hlt] at hw
            rw [Array.getElem?_eq_getElem hlt]
            exact congrArg some hw
          simp [hoj, htj, hx]
        refine ⟨t, rfl, ?_⟩
        by_cases hcw : c = want
        · rw [if_pos (by simp [hcw])] at h2
          exact .inl ⟨by simp [Region.wanted, hg, hy, hcw], h2⟩
        · rw [if_neg (by simp [hcw])] at h2
          exact .inr ⟨by simp [Region.wanted, hg, hy, hcw], h2⟩
    · rename_i ys hc
      obtain ⟨tj, htj, hc⟩ := Option.bind_eq_some_iff.1 hc
      obtain ⟨oj, hoj, htj⟩ := Option.bind_eq_some_iff.1 htj
      cases ht : o.dst with
      | none => rw [ht] at h2; cases h2
      | some t =>
        rw [ht] at h2
        dsimp only at h2
        rw [Bool.and_eq_true] at h2
        have hw := hv j oj tj (.tuple ys) hl hoj htj hc
        have hy : yielded ops tmps j = none := by
          unfold yielded
          cases hx : tmps[tj]? with
          | none => simp [hoj, htj, hx]
          | some v =>
            rw [Array.getD_eq_getD_getElem?, hx] at hw
            simp only [Option.getD_some] at hw
            subst hw
            simp [hoj, htj, hx]
        exact ⟨t, rfl, .inr ⟨by simp [Region.wanted, hg, hy], h2.2⟩⟩
    · cases h2
end
def OpU (P : Program) (o : Oper) (vals : List (Tmp × Value)) (ex : List (Tmp × VP)) (w : World) : Prop := ∃ t, o.dst = some t ∧ (wanOk vals (ex.map (·.1)) t = true → OpP P o vals ex w (SlotP vals ex t))
/-- One that is wanted. -/
theorem ofB {P : Program} {o : Oper} {vals : List (Tmp × Value)} {ex : List (Tmp × VP)} {w : World} (h : OpB P o vals ex w) : OpU P o vals ex w := by
  obtain ⟨t, ht, hp⟩ := h
  exact ⟨t, ht, fun hw => hp (by unfold wanOk at hw; rw [Bool.and_eq_true] at hw; exact hw.1)⟩
/-- One that is not. -/
theorem obu {P : Program} {o : Oper} {vals : List (Tmp × Value)} {ex : List (Tmp × VP)} {w : World} {t : Tmp} (ho : o.dst = some t) (hv : wanOk vals (ex.map (·.1)) t = false) : OpU P o vals ex w := ⟨t, ho, fun h => by rw [hv] at h; cases h⟩
theorem region_bothU {P : Program} {ops : Array Oper} {Q : Exit → Act → World → Prop} {id : Nat} {a : Act} {w : World} (hm : P.follows .mixedOrders = true) (made init : List (Tmp × Value)) (ex : List (Tmp × VP)) (hk : AllV KeepsV ex) (hok : regOkU (made ++ init) (ex.map (·.1)) ops = true) (ds : List Tmp) (hds : dstsOf ops = ds) (hlt : (ds.all fun t => decide (t < a.tmps.size)) = true) (hdn : ds.Nodup)
    (hmd : (made.all fun p => ds.contains p.1) = true) (hxd : ((ex.map (·.1)).all fun t => ds.contains t) = true) (h0 : InitOk a init)
    (hops : AllOps (fun _ o => OpU P o (made ++ init) ex w) ops.toList 0)
    (hQ : ∀ (vs : Tmp → Value) (W : World), w.grownBy W none → (∀ t v, (made ++ init).lookup t = some v → t ∈ ds → vs t = v) → (∀ t p, ex.lookup t = some p → p (vs t) W) →
      Q .normal { a with tmps := ds.foldl (fun (ts : Array Value) t => ts.setIfInBounds t (vs t)) a.tmps } W) :
    (Code.region id ops true).wp P Q a w := by
  have h0' : ∀ p ∈ made ++ init, p.1 ∉ ds → a.tmps.getD p.1 undef = p.2 := fun p hp hn => by
    rcases List.mem_append.1 hp with hp | hp
    · exact absurd (by simpa using List.all_eq_true.1 hmd p hp) hn
    · exact h0.at_ p hp
  have hxd' : ∀ t p, ex.lookup t = some p → t ∈ ds := fun t p h => by
    have : t ∈ ex.map (·.1) := by
      clear hok hops hQ hk hxd
      induction ex with
      | nil => cases h
      | cons q l ih =>
        rw [List.lookup_cons] at h
        split at h
        · rename_i e
          rw [eq_of_beq e]
          simp
        · simp only [List.map_cons, List.mem_cons]
          exact .inr (ih h)
    simpa using List.all_eq_true.1 hxd t this
  generalize hvs : made ++ init = vals at *
  clear h0 hmd hvs
  subst hds
  have hu : ∀ (i j : Nat) (oi oj : Oper) (t : Tmp), ops[i]? = some oi → ops[j]? = some oj → oi.dst = some t → oj.dst = some t → i = j := fun i j oi oj t hi hj ei ej =>
    nodup_at hdn (by rw [Array.getElem?_toList]; exact hi) (by rw [Array.getElem?_toList]; exact hj) ei ej
  have hdl : ∀ t ∈ dstsOf ops, t < a.tmps.size := fun t ht => by simpa using List.all_eq_true.1 hlt t ht
  have hxs : ∀ t p, ex.lookup t = some p → (ex.map (·.1)).contains t = true := fun t p h => by
    clear hok hops hQ hk hxd hxd'
    induction ex with
    | nil => cases h
    | cons q l ih =>
      rw [List.lookup_cons] at h
      split at h
      · rename_i e
        rw [eq_of_beq e]
        simp
      · have := ih h
        simp only [List.map_cons, List.contains_cons, Bool.or_eq_true]
        exact .inr this
  refine wp_region_any hm (wpAny_inv (fun listed b W => w.grownBy W none ∧ b.defers = a.defers ∧ b.tmps.size = a.tmps.size ∧ (∀ t, t ∉ dstsOf ops → b.tmps[t]? = a.tmps[t]?) ∧
    (∀ (i : Nat) (o : Oper) (t : Tmp), listed.getD i false = true → ops[i]? = some o → o.dst = some t → SlotP vals ex t (b.tmps.getD t undef) W)) ?_ ?_ ops.size _ _ _ (by simp) (by
      have := List.countP_le_length (p := (! ·)) (l := (Array.replicate ops.size false).toList)
      simpa using this) ?_)
  · rintro listed b W hs ⟨i1, i2, i3, i4, i5⟩ i hi
    obtain ⟨hni, o, ho, hall⟩ := mem_ready.1 hi
    have hil : i < ops.size := (Array.getElem?_eq_some_iff.1 ho).1
    obtain ⟨g1, g2, g3⟩ := regOkU_at hok ho
    have hdep : ∀ t, Operand.tmp t ∈ o.op.operands → inW vals (ex.map (·.1)) t = true → t ∉ dstsOf ops ∨ ∃ j oj, listed.getD j false = true ∧ ops[j]? = some oj ∧ oj.dst = some t := fun t ht hin => by
      unfold depsX at g3
      rw [List.all_eq_true] at g3
      have h1 := g3 (.tmp t) (Array.mem_toList_iff.2 ht)
      simp only [Bool.or_eq_true, List.all_eq_true, List.any_eq_true, Bool.and_eq_true, bne_iff_ne, ne_eq, beq_iff_eq, hin, Bool.not_true, Bool.false_eq_true, false_or] at h1
      rcases h1 with h1 | ⟨e, he, hb, hx⟩
      · exact .inl fun hm => by
          obtain ⟨i, oi, hi, e⟩ := mem_dsts.1 hm
          exact h1 oi (List.mem_iff_getElem?.2 ⟨i, by rw [Array.getElem?_toList]; exact hi⟩) e
      · obtain ⟨oj, hoj, e1⟩ := Option.bind_eq_some_iff.1 hx
        exact .inr ⟨e.on, oj, hall e (Array.mem_toList_iff.1 he) hb, hoj, e1⟩
    have henv : ∀ t v, Operand.tmp t ∈ o.op.operands → vals.lookup t = some v → b.eval (.tmp t) = v := fun t v ht hv => by
      rcases hdep t ht (by simp [inW, hv]) with h4 | ⟨j, oj, h1, h2, h3⟩
      · show b.tmps.getD t undef = v
        rw [Array.getD_eq_getD_getElem?, i4 t h4, ← Array.getD_eq_getD_getElem?]
        exact h0' (t, v) (lookup_mem hv) h4
      · exact (i5 j oj t h1 h2 h3).1 v hv
    have henx : ∀ t q, Operand.tmp t ∈ o.op.operands → ex.lookup t = some q → q (b.eval (.tmp t)) W := fun t q ht hq => by
      rcases hdep t ht (by unfold inW; rw [hxs t q hq]; simp) with h4 | ⟨j, oj, h1, h2, h3⟩
      · exact absurd (hxd' t q hq) h4
      · exact (i5 j oj t h1 h2 h3).2 q hq
    have hset : ∀ j, i ≠ j → (listed.setIfInBounds i true).getD j false = listed.getD j false := fun j hij => getD_set_ne false hij
    obtain ⟨t, htd, hcase⟩ := guard_casesU g1 hall (fun j oj t c h1 h2 h3 h4 => (i5 j oj t h1 h2 h3).1 c h4)
    have key : ∀ (x : Value) W', W.grownBy W' none → SlotP vals ex t x W' → w.grownBy W' none ∧ (b.put o.dst x).defers = a.defers ∧ (b.put o.dst x).tmps.size = a.tmps.size ∧ (∀ t, t ∉ dstsOf ops → (b.put o.dst x).tmps[t]? = a.tmps[t]?) ∧
        (∀ (j : Nat) (oj : Oper) (t' : Tmp), (listed.setIfInBounds i true).getD j false = true → ops[j]? = some oj → oj.dst = some t' → SlotP vals ex t' ((b.put o.dst x).tmps.getD t' undef) W') := fun x W' hg hx => by
      refine ⟨only_trans i1 hg, by rw [htd]; exact i2, by simp [Act.put, htd, i3], fun t' ht' => ?_, fun j oj t' hl hoj e1 => ?_⟩
      · have hne : t ≠ t' := fun e => ht' (mem_dsts.2 ⟨i, o, ho, by rw [htd, e]⟩)
        rw [htd]
        simp only [Act.put]
        rw [Array.getElem?_setIfInBounds_ne hne]
        exact i4 t' ht'
      · by_cases hij : i = j
        · subst hij
          rw [ho] at hoj
          obtain rfl := Option.some.inj hoj
          rw [htd] at e1
          obtain rfl := Option.some.inj e1
          have : t < b.tmps.size := by rw [i3]; exact hdl t (mem_dsts.2 ⟨i, o, ho, htd⟩)
          rw [htd, show (b.put (some t) x).tmps.getD t undef = x by simp [Act.put, this]]
          exact hx
        · have hne : t ≠ t' := fun e => hij (hu i j o oj t ho hoj htd (by rw [e]; exact e1))
          rw [hset j hij] at hl
          rw [htd]
          simp only [Act.put]
          rw [Array.getD_eq_getD_getElem?, Array.getElem?_setIfInBounds_ne hne, ← Array.getD_eq_getD_getElem?]
          obtain ⟨k1, k2⟩ := i5 j oj t' hl hoj e1
          exact ⟨k1, fun p hp => hk.at_ hp _ _ _ (k2 p hp) hg⟩
    unfold wpOp
    simp only [ho]
    rcases hcase with ⟨hw, hc⟩ | ⟨hw, hc⟩
    · rw [if_pos hw]
      refine .inl ?_
      obtain ⟨t2, ht2, hop⟩ := hops.at_ i o (by rw [Array.getElem?_toList]; exact ho)
      rw [htd] at ht2
      obtain rfl := Option.some.inj ht2
      unfold Oper.wp
      rcases hop hc b W i1 henv henx with ⟨x, W', h, hg, hx⟩ | ⟨f, args, h, hcall⟩
      · rw [h, Oper.upon_value]
        exact key x W' hg hx
      · rw [h, Oper.upon_enter]
        refine hcall.mono ?_
        rintro e w'' ⟨x, rfl, hg, hx⟩
        exact key x w'' hg hx
    · rw [if_neg (by rw [hw]; decide)]
      unfold unwOk at hc
      rw [Bool.and_eq_true] at hc
      refine key undef W (only_refl _ _) ⟨fun c hc' => ?_, fun p hp => ?_⟩
      · have h2 := hc.2
        rw [hc'] at h2
        exact (isUn_eq h2).symm
      · have h1 := hc.1
        rw [hxs t p hp] at h1
        cases h1
  · rintro listed b W hs ⟨i1, i2, i3, i4, i5⟩ hr
    have hl := all_listedU hok hs hr
    have hlo : ∀ {i o}, ops[i]? = some o → listed.getD i false = true := fun h => hl _ (Array.getElem?_eq_some_iff.1 h).1
    have hb : b = { a with tmps := (dstsOf ops).foldl (fun (ts : Array Value) t => ts.setIfInBounds t (b.tmps.getD t undef)) a.tmps } := by
      obtain ⟨bt, bd⟩ := b
      obtain ⟨at_, ad⟩ := a
      simp only [Act.mk.injEq]
      refine ⟨?_, i2⟩
      apply Array.ext_getElem?
      intro t
      dsimp only at i3 i4
      rw [foldSet]
      by_cases h1 : t ∈ dstsOf ops
      · by_cases h2 : t < at_.size
        · have : t < bt.size := by omega
          simp [h1, h2, this]
        · simp [h2, i3]
      · simp only [h1, false_and, if_false]
        exact i4 t h1
    rw [hb]
    refine hQ (fun t => b.tmps.getD t undef) W i1 (fun t v hv ht => ?_) (fun t p hp => ?_)
    · obtain ⟨i, o, ho, e⟩ := mem_dsts.1 ht
      exact (i5 i o t (hlo ho) ho e).1 v hv
    · obtain ⟨i, o, ho, e⟩ := mem_dsts.1 (hxd' t p hp)
      exact (i5 i o t (hlo ho) ho e).2 p hp
  · have hno : ∀ j, (Array.replicate ops.size false).getD j false = false := fun j => by
      simp only [Array.getD_eq_getD_getElem?, Array.getElem?_replicate]
      split <;> rfl
    refine ⟨only_drew (only_refl w none), rfl, rfl, fun _ _ => rfl, fun i o t hl => ?_⟩
    rw [hno] at hl; cases hl

end Go.Proofs.Ytmhbmeckdbdhpaa.Rgu

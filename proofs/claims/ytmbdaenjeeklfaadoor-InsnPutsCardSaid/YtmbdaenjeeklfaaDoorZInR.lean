/- Texts joined for the claim's sake: USto, ULst. -/
import Derived.Test.YtmbdaenjeeklfaaDoorZInK
/- A region that draws its order: reads and calls, some of them guarded by values that are known, and at the end one store that asks for them all. No program. -/
namespace Go.Proofs.YtmbdaenjeeklfaaDoor
open Go.RowKit

def regOkS (m : Nat) (vals : List (Tmp × Value)) (ops : Array Oper) : Bool := (ops.toList.zipIdx.all fun (o, i) => (decide (i = m) || guardOk vals ops o) && (o.after.toList.all fun e => !Region.binds .any e || decide (e.on < i)) && depsG vals ops o) &&
  ((match ops[m]? with
    | some o => o.dst.isNone && o.guard.isNone && (List.range m).all fun i => (List.range (m + 1)).any fun j => decide (i < j) && (match ops[j]? with | some o' => o'.after.toList.any fun e => Region.binds .any e && e.on == i | none => false)
    | none => false) && decide (ops.size = m + 1))
section
variable {vals : List (Tmp × Value)} {ops : Array Oper} {m : Nat}
theorem regOkS_at (h : regOkS m vals ops = true) {i : Nat} {o : Oper} (hi : ops[i]? = some o) : (i ≠ m → guardOk vals ops o = true) ∧ (∀ e ∈ o.after, Region.binds .any e = true → e.on < i) ∧ depsG vals ops o = true := by
  unfold regOkS at h
  rw [Bool.and_eq_true, List.all_eq_true] at h
  have h1 := h.1 (o, i) (List.mem_iff_getElem?.2 ⟨i, by rw [List.getElem?_zipIdx, Array.getElem?_toList, hi]; simp⟩)
  simp only [Bool.and_eq_true, List.all_eq_true, Bool.or_eq_true, Bool.not_eq_true', decide_eq_true_eq] at h1
  refine ⟨fun hne => ?_, fun e he hb => ?_, h1.2⟩
  · rcases h1.1.1 with h2 | h2
    · exact absurd h2 hne
    · exact h2
  · rcases h1.1.2 e (Array.mem_toList_iff.2 he) with h2 | h2
    · rw [hb] at h2; cases h2
    · exact h2
theorem regOkS_size (h : regOkS m vals ops = true) : m < ops.size := by
  unfold regOkS at h
  simp only [Bool.and_eq_true, decide_eq_true_eq] at h
  omega
theorem regOkS_last (h : regOkS m vals ops = true) {o : Oper} (hi : ops[m]? = some o) : ops.size = m + 1 ∧ o.dst = none ∧ o.guard = none ∧ ∀ i, i < m → ∃ j o', i < j ∧ j ≤ m ∧ ops[j]? = some o' ∧ ∃ e ∈ o'.after, Region.binds .any e = true ∧ e.on = i := by
  unfold regOkS at h
  rw [hi] at h
  simp only [Bool.and_eq_true, decide_eq_true_eq, Option.isNone_iff_eq_none, List.all_eq_true, List.any_eq_true, List.mem_range] at h
  refine ⟨h.2.2, h.2.1.1.1, h.2.1.1.2, fun i hi => ?_⟩
  obtain ⟨j, hj, hij, h3⟩ := h.2.1.2 i hi
  cases ho : ops[j]? with
  | none => rw [ho] at h3; cases h3
  | some o' =>
    rw [ho] at h3
    simp only [List.any_eq_true, Bool.and_eq_true, beq_iff_eq] at h3
    obtain ⟨e, he, h1, h2⟩ := h3
    exact ⟨j, o', hij, by omega, ho, e, Array.mem_toList_iff.1 he, h1, h2⟩
theorem all_listedS (hok : regOkS m vals ops = true) {listed : Array Bool} (hs : listed.size = ops.size) (hr : Region.ready .any ops listed = []) : ∀ i, i < ops.size → listed.getD i false = true := by
  intro i
  induction i using Nat.strongRecOn with
  | _ i ih =>
    intro hi
    cases hl : listed.getD i false with
    | true => rfl
    | false =>
      have ho : ops[i]? = some ops[i] := Array.getElem?_eq_getElem hi
      have hm : i ∈ Region.ready .any ops listed := mem_ready.2 ⟨by simpa [hs, hi] using hl, ops[i], ho, fun e he hb => by
        have := (regOkS_at hok ho).2.1 e he hb
        exact ih e.on this (by omega)⟩
      rw [hr] at hm
      cases hm
end

theorem region_stores {P : Program} {ops : Array Oper} {Q : Exit → Act → World → Prop} {id : Nat} {a : Act} {w : World} (hm : P.follows .mixedOrders = true) (vals : List (Tmp × Value)) (m : Nat) (hok : regOkS m vals ops = true) (ds : List Tmp) (hds : dstsOf ops = ds) (hlt : (ds.all fun t => decide (t < a.tmps.size)) = true) (hdn : ds.Nodup)
    (h0 : ∀ p ∈ vals, p.1 ∉ ds → a.tmps.getD p.1 undef = p.2)
    (hops : AllOps (fun _ o => ∀ t c, o.dst = some t → vals.lookup t = some c → OpVal P o vals w c) ops.toList 0) (R : World → Prop)
    (hlast : ∀ o, ops[m]? = some o → ∀ (b : Act) W, w.grownBy W none → (∀ t v, Operand.tmp t ∈ o.op.operands → vals.lookup t = some v → b.eval (.tmp t) = v) → o.wp P b W (fun b' W' => b' = b ∧ R W') Q)
    (hQ : ∀ (vs : Tmp → Value) (W : World), R W → (∀ t v, vals.lookup t = some v → t ∈ ds → vs t = v) →
      Q .normal { a with tmps := ds.foldl (fun (ts : Array Value) t => ts.setIfInBounds t (vs t)) a.tmps } W) :
    (Code.region id ops true).wp P Q a w := by
  subst hds
  have hu : ∀ (i j : Nat) (oi oj : Oper) (t : Tmp), ops[i]? = some oi → ops[j]? = some oj → oi.dst = some t → oj.dst = some t → i = j := fun i j oi oj t hi hj ei ej =>
    nodup_at hdn (by rw [Array.getElem?_toList]; exact hi) (by rw [Array.getElem?_toList]; exact hj) ei ej
  have hdl : ∀ t ∈ dstsOf ops, t < a.tmps.size := fun t ht => by simpa using List.all_eq_true.1 hlt t ht
  refine wp_region_any hm (wpAny_inv (fun listed b W => (listed.getD m false = false ∧ w.grownBy W none ∨ (∀ i, i < ops.size → listed.getD i false = true) ∧ R W) ∧ (∀ (k : Nat) (o : Oper) (e : Edge), listed.getD k false = true → ops[k]? = some o → e ∈ o.after → Region.binds .any e = true → listed.getD e.on false = true) ∧ b.defers = a.defers ∧ b.tmps.size = a.tmps.size ∧ (∀ t, t ∉ dstsOf ops → b.tmps[t]? = a.tmps[t]?) ∧
    (∀ (i : Nat) (o : Oper) (t : Tmp) (c : Value), listed.getD i false = true → ops[i]? = some o → o.dst = some t → vals.lookup t = some c → b.tmps.getD t undef = c)) ?_ ?_ ops.size _ _ _ (by simp) (by
      have := List.countP_le_length (p := (! ·)) (l := (Array.replicate ops.size false).toList)
      simpa using this) ?_)
  · rintro listed b W hs ⟨i1, i7, i2, i3, i4, i5⟩ i hi
    obtain ⟨hni, o, ho, hall⟩ := mem_ready.1 hi
    have hil : i < ops.size := (Array.getElem?_eq_some_iff.1 ho).1
    obtain ⟨g1, g2, g3⟩ := regOkS_at hok ho
    have i1 : listed.getD m false = false ∧ w.grownBy W none := by
      rcases i1 with h | ⟨h, _⟩
      · exact h
      · have h2 := h i hil
        have hl : i < listed.size := by omega
        exact absurd h2 (by simpa [hl] using hni)
    have henv : ∀ t v, Operand.tmp t ∈ o.op.operands → vals.lookup t = some v → b.eval (.tmp t) = v := fun t v ht hv => by
      unfold depsG at g3
      rw [List.all_eq_true] at g3
      have h1 := g3 (.tmp t) (Array.mem_toList_iff.2 ht)
      simp only [Bool.or_eq_true, List.all_eq_true, List.any_eq_true, Bool.and_eq_true, bne_iff_ne, ne_eq, beq_iff_eq, hv, Option.isNone_some, Bool.false_eq_true, false_or] at h1
      rcases h1 with h1 | ⟨e, he, hb, hx⟩
      · have h4 : t ∉ dstsOf ops := fun hm => by
          obtain ⟨i, oi, hi, e⟩ := mem_dsts.1 hm
          exact h1 oi (List.mem_iff_getElem?.2 ⟨i, by rw [Array.getElem?_toList]; exact hi⟩) e
        have h5 := i4 t h4
        show b.tmps.getD t undef = v
        rw [Array.getD_eq_getD_getElem?, h5, ← Array.getD_eq_getD_getElem?]
        exact h0 (t, v) (lookup_mem hv) h4
      · obtain ⟨oj, hoj, e1⟩ := Option.bind_eq_some_iff.1 hx
        exact i5 e.on oj t v (hall e (Array.mem_toList_iff.1 he) hb) hoj e1 hv
    have hset : ∀ j, i ≠ j → (listed.setIfInBounds i true).getD j false = listed.getD j false := fun j hij => getD_set_ne false hij
    have h7 : ∀ (k : Nat) (o' : Oper) (e : Edge), (listed.setIfInBounds i true).getD k false = true → ops[k]? = some o' → e ∈ o'.after → Region.binds .any e = true → (listed.setIfInBounds i true).getD e.on false = true := fun k oj e hl hoj he hb => by
      have hon : listed.getD e.on false = true := by
        by_cases hik : i = k
        · subst hik
          rw [ho] at hoj
          obtain rfl := Option.some.inj hoj
          exact hall e he hb
        · rw [hset k hik] at hl
          exact i7 k oj e hl hoj he hb
      by_cases e' : i = e.on
      · rw [← e']; exact getD_set_at (by omega)
      · rw [hset _ e']; exact hon
    by_cases him : i = m
    · subst him
      obtain ⟨hsz, hd, hgd, hbef⟩ := regOkS_last hok ho
      have hdown : ∀ d k, i - k ≤ d → k < i → listed.getD k false = true := by
        intro d
        induction d with
        | zero => intro k h1 h2; omega
        | succ d ih =>
          intro k h1 h2
          obtain ⟨j, oj, hkj, hjm, hoj, e1, he1, hb1, ho1⟩ := hbef k h2
          rw [← ho1]
          rcases Nat.lt_or_ge j i with hj | hj
          · exact i7 j oj e1 (ih j (by omega) hj) hoj he1 hb1
          · obtain rfl : j = i := by omega
            rw [ho] at hoj
            obtain rfl := Option.some.inj hoj
            exact hall e1 he1 hb1
      have hallm : ∀ k, k < ops.size → (listed.setIfInBounds i true).getD k false = true := fun k hk => by
        by_cases e : i = k
        · subst e; exact getD_set_at (by omega)
        · rw [hset k e]
          exact hdown i k (by omega) (by omega)
      unfold wpOp
      simp only [ho]
      rw [if_pos (by simp [Region.wanted, hgd])]
      refine .inl (Oper.wp_mono (fun b' W' h => ?_) (hlast o ho b W i1.2 henv))
      obtain ⟨rfl, hR⟩ := h
      refine ⟨.inr ⟨hallm, hR⟩, h7, i2, i3, i4, fun k oj t' c' hl hoj e1 e2 => ?_⟩
      by_cases hij : i = k
      · subst hij
        rw [ho] at hoj
        obtain rfl := Option.some.inj hoj
        rw [hd] at e1
        cases e1
      · rw [hset k hij] at hl
        exact i5 k oj t' c' hl hoj e1 e2
    replace g1 := g1 him
    obtain ⟨t, htd, hcase⟩ := guard_cases g1 hall i5
    have key : ∀ (x : Value) W', W.grownBy W' none → (∀ c, vals.lookup t = some c → x = c) → ((listed.setIfInBounds i true).getD m false = false ∧ w.grownBy W' none ∨ (∀ k, k < ops.size → (listed.setIfInBounds i true).getD k false = true) ∧ R W') ∧ (∀ (k : Nat) (o' : Oper) (e : Edge), (listed.setIfInBounds i true).getD k false = true → ops[k]? = some o' → e ∈ o'.after → Region.binds .any e = true → (listed.setIfInBounds i true).getD e.on false = true) ∧ (b.put o.dst x).defers = a.defers ∧ (b.put o.dst x).tmps.size = a.tmps.size ∧ (∀ t, t ∉ dstsOf ops → (b.put o.dst x).tmps[t]? = a.tmps[t]?) ∧
        (∀ (j : Nat) (oj : Oper) (t' : Tmp) (c' : Value), (listed.setIfInBounds i true).getD j false = true → ops[j]? = some oj → oj.dst = some t' → vals.lookup t' = some c' → (b.put o.dst x).tmps.getD t' undef = c') := fun x W' hg hx => by
      refine ⟨.inl ⟨by rw [hset m him]; exact i1.1, only_trans i1.2 hg⟩, h7, by rw [htd]; exact i2, by simp [Act.put, htd, i3], fun t' ht' => ?_, fun j oj t' c' hl hoj e1 e2 => ?_⟩
      · have hne : t ≠ t' := fun e => ht' (mem_dsts.2 ⟨i, o, ho, by rw [htd, e]⟩)
        rw [htd]
        simp only [Act.put]
        rw [Array.getElem?_setIfInBounds_ne hne]
        exact i4 t' ht'
      · by_cases hij : i = j
        · subst hij
          rw [ho] at hoj
          obtain rfl := Option.some.inj hoj
          rw [htd] at e1
          obtain rfl := Option.some.inj e1
          have : t < b.tmps.size := by rw [i3]; exact hdl t (mem_dsts.2 ⟨i, o, ho, htd⟩)
          rw [htd, ← hx c' e2]
          simp [Act.put, this]
        · have hne : t ≠ t' := fun e => hij (hu i j o oj t ho hoj htd (by rw [e]; exact e1))
          rw [hset j hij] at hl
          rw [htd]
          simp only [Act.put]
          rw [Array.getD_eq_getD_getElem?, Array.getElem?_setIfInBounds_ne hne, ← Array.getD_eq_getD_getElem?]
          exact i5 j oj t' c' hl hoj e1 e2
    unfold wpOp
    simp only [ho]
    rcases hcase with ⟨hw, c, hc⟩ | ⟨hw, hc⟩
    · rw [if_pos hw]
      refine .inl ?_
      have hop := hops.at_ i o (by rw [Array.getElem?_toList]; exact ho) t c htd hc
      unfold Oper.wp
      rcases hop b W i1.2 henv with h | ⟨f, args, h, hcall⟩
      · rw [h, Oper.upon_value]
        exact key c W (only_refl _ _) (fun c' h' => by rw [hc] at h'; exact Option.some.inj h')
      · rw [h, Oper.upon_enter]
        refine hcall.mono ?_
        rintro e w'' ⟨rfl, hg⟩
        exact key c w'' hg (fun c' h' => by rw [hc] at h'; exact Option.some.inj h')
    · rw [if_neg (by rw [hw]; decide)]
      exact key undef W (only_refl _ _) (fun c' h' => by rw [hc] at h'; cases h')
  · rintro listed b W hs ⟨i1, i7, i2, i3, i4, i5⟩ hr
    have hl := all_listedS hok hs hr
    have hlo : ∀ {i o}, ops[i]? = some o → listed.getD i false = true := fun h => hl _ (Array.getElem?_eq_some_iff.1 h).1
    have hb : b = { a with tmps := (dstsOf ops).foldl (fun (ts : Array Value) t => ts.setIfInBounds t (b.tmps.getD t undef)) a.tmps } := by
      obtain ⟨bt, bd⟩ := b
      obtain ⟨at_, ad⟩ := a
      simp only [Act.mk.injEq]
      refine ⟨?_, i2⟩
      apply Array.ext_getElem?
      intro t
      dsimp only at i3 i4
      rw [foldSet]
      by_cases h1 : t ∈ dstsOf ops
      · by_cases h2 : t < at_.size
        · have : t < bt.size := by omega
          simp [h1, h2, this]
        · simp [h2, i3]
      · simp only [h1, false_and, if_false]
        exact i4 t h1
    rw [hb]
    have hR : R W := by
      rcases i1 with ⟨h, _⟩ | ⟨_, h⟩
      · have hm1 : m < ops.size := regOkS_size hok
        rw [hl m hm1] at h
        cases h
      · exact h
    refine hQ (fun t => b.tmps.getD t undef) W hR (fun t v hv ht => ?_)
    obtain ⟨i, o, ho, e⟩ := mem_dsts.1 ht
    exact i5 i o t v (hlo ho) ho e hv
  · have hno : ∀ j, (Array.replicate ops.size false).getD j false = false := fun j => by
      simp only [Array.getD_eq_getD_getElem?, Array.getElem?_replicate]
      split <;> rfl
    refine ⟨.inl ⟨hno m, only_drew (only_refl w none)⟩, fun k o' e hl => (by rw [hno] at hl; cases hl), rfl, rfl, fun _ _ => rfl, fun i o t c hl => ?_⟩
    rw [hno] at hl; cases hl

end Go.Proofs.YtmbdaenjeeklfaaDoor

/- A region that draws its order: reads and calls, some of them guarded by values that are known, and at the end one slot that they read themselves is given a new value. No program. -/
namespace Go.Proofs.YtmbdaenjeeklfaaDoor
open Go.RowKit

/-- What an operation asks for, but for the last: it is there before, or was made. -/
def depsL (m : Nat) (vals : List (Tmp × Value)) (ops : Array Oper) (o : Oper) : Bool := o.op.operands.toList.all fun
  | .tmp t => (vals.lookup t).isNone || (ops.toList.zipIdx.all fun (oj, j) => decide (j = m) || oj.dst != some t) || o.after.toList.any fun e => Region.binds .any e && e.on != m && ((ops[e.on]?).bind (·.dst) == some t)
  | _ => true
def regOkL (m : Nat) (tm : Tmp) (vals : List (Tmp × Value)) (ops : Array Oper) : Bool := (ops.toList.zipIdx.all fun (o, i) => (decide (i = m) || (guardOk vals ops o && o.dst != some tm)) && (o.after.toList.all fun e => !Region.binds .any e || decide (e.on < i)) && depsL m vals ops o) &&
  ((match ops[m]? with
    | some o => o.dst == some tm && o.guard.isNone && (List.range m).all fun i => (List.range (m + 1)).any fun j => decide (i < j) && (match ops[j]? with | some o' => o'.after.toList.any fun e => Region.binds .any e && e.on == i | none => false)
    | none => false) && decide (ops.size = m + 1))
section
variable {vals : List (Tmp × Value)} {ops : Array Oper} {m : Nat} {tm : Tmp}
theorem regOkL_at (h : regOkL m tm vals ops = true) {i : Nat} {o : Oper} (hi : ops[i]? = some o) : (i ≠ m → guardOk vals ops o = true ∧ o.dst ≠ some tm) ∧ (∀ e ∈ o.after, Region.binds .any e = true → e.on < i) ∧ depsL m vals ops o = true := by
  unfold regOkL at h
  rw [Bool.and_eq_true, List.all_eq_true] at h
  have h1 := h.1 (o, i) (List.mem_iff_getElem?.2 ⟨i, by rw [List.getElem?_zipIdx, Array.getElem?_toList, hi]; simp⟩)
  simp only [Bool.and_eq_true, List.all_eq_true, Bool.or_eq_true, Bool.not_eq_true', decide_eq_true_eq, bne_iff_ne] at h1
  refine ⟨fun hne => ?_, fun e he hb => ?_, h1.2⟩
  · rcases h1.1.1 with h2 | h2
    · exact absurd h2 hne
    · exact h2
  · rcases h1.1.2 e (Array.mem_toList_iff.2 he) with h2 | h2
    · rw [hb] at h2; cases h2
    · exact h2
theorem regOkL_size (h : regOkL m tm vals ops = true) : m < ops.size := by
  unfold regOkL at h
  simp only [Bool.and_eq_true, decide_eq_true_eq] at h
  omega
theorem regOkL_last (h : regOkL m tm vals ops = true) {o : Oper} (hi : ops[m]? = some o) : ops.size = m + 1 ∧ o.dst = some tm ∧ o.guard = none ∧ ∀ i, i < m → ∃ j o', i < j ∧ j ≤ m ∧ ops[j]? = some o' ∧ ∃ e ∈ o'.after, Region.binds .any e = true ∧ e.on = i := by
  unfold regOkL at h
  rw [hi] at h
  simp only [Bool.and_eq_true, decide_eq_true_eq, Option.isNone_iff_eq_none, List.all_eq_true, List.any_eq_true, List.mem_range, beq_iff_eq] at h
  refine ⟨h.2.2, h.2.1.1.1, h.2.1.1.2, fun i hi => ?_⟩
  obtain ⟨j, hj, hij, h3⟩ := h.2.1.2 i hi
  cases ho : ops[j]? with
  | none => rw [ho] at h3; cases h3
  | some o' =>
    rw [ho] at h3
    simp only [List.any_eq_true, Bool.and_eq_true, beq_iff_eq] at h3
    obtain ⟨e, he, h1, h2⟩ := h3
    exact ⟨j, o', hij, by omega, ho, e, Array.mem_toList_iff.1 he, h1, h2⟩
theorem all_listedL (hok : regOkL m tm vals ops = true) {listed : Array Bool} (hs : listed.size = ops.size) (hr : Region.ready .any ops listed = []) : ∀ i, i < ops.size → listed.getD i false = true := by
  intro i
  induction i using Nat.strongRecOn with
  | _ i ih =>
    intro hi
    cases hl : listed.getD i false with
    | true => rfl
    | false =>
      have ho : ops[i]? = some ops[i] := Array.getElem?_eq_getElem hi
      have hm : i ∈ Region.ready .any ops listed := mem_ready.2 ⟨by simpa [hs, hi] using hl, ops[i], ho, fun e he hb => by
        have := (regOkL_at hok ho).2.1 e he hb
        exact ih e.on this (by omega)⟩
      rw [hr] at hm
      cases hm
end

theorem region_last {P : Program} {ops : Array Oper} {Q : Exit → Act → World → Prop} {id : Nat} {a : Act} {w : World} (hm : P.follows .mixedOrders = true) (vals : List (Tmp × Value)) (m : Nat) (tm : Tmp) (cn : Value) (hok : regOkL m tm vals ops = true) (ds : List Tmp) (hds : dstsOf ops = ds) (hlt : (ds.all fun t => decide (t < a.tmps.size)) = true) (hdn : ds.Nodup)
    (h0 : ∀ p ∈ vals, p.1 ∉ ds → a.tmps.getD p.1 undef = p.2)
    (hops : AllOps (fun i o => i ≠ m → ∀ t c, o.dst = some t → vals.lookup t = some c → OpVal P o vals w c) ops.toList 0) 
    (h0m : ∀ v, vals.lookup tm = some v → a.tmps.getD tm undef = v) (hlast : ∀ o, ops[m]? = some o → OpVal P o vals w cn)
    (hQ : ∀ (vs : Tmp → Value) (W : World), w.grownBy W none → vs tm = cn → (∀ t v, t ≠ tm → vals.lookup t = some v → t ∈ ds → vs t = v) →
      Q .normal { a with tmps := ds.foldl (fun (ts : Array Value) t => ts.setIfInBounds t (vs t)) a.tmps } W) :
    (Code.region id ops true).wp P Q a w := by
  subst hds
  have hu : ∀ (i j : Nat) (oi oj : Oper) (t : Tmp), ops[i]? = some oi → ops[j]? = some oj → oi.dst = some t → oj.dst = some t → i = j := fun i j oi oj t hi hj ei ej =>
    nodup_at hdn (by rw [Array.getElem?_toList]; exact hi) (by rw [Array.getElem?_toList]; exact hj) ei ej
  have hdl : ∀ t ∈ dstsOf ops, t < a.tmps.size := fun t ht => by simpa using List.all_eq_true.1 hlt t ht
  refine wp_region_any hm (wpAny_inv (fun listed b W => (w.grownBy W none ∧ (listed.getD m false = false ∧ b.tmps[tm]? = a.tmps[tm]? ∨ (∀ i, i < ops.size → listed.getD i false = true) ∧ b.tmps.getD tm undef = cn)) ∧ (∀ (k : Nat) (o : Oper) (e : Edge), listed.getD k false = true → ops[k]? = some o → e ∈ o.after → Region.binds .any e = true → listed.getD e.on false = true) ∧ b.defers = a.defers ∧ b.tmps.size = a.tmps.size ∧ (∀ t, t ∉ dstsOf ops → b.tmps[t]? = a.tmps[t]?) ∧
    (∀ (i : Nat) (o : Oper) (t : Tmp) (c : Value), i ≠ m → listed.getD i false = true → ops[i]? = some o → o.dst = some t → vals.lookup t = some c → b.tmps.getD t undef = c)) ?_ ?_ ops.size _ _ _ (by simp) (by
      have := List.countP_le_length (p := (! ·)) (l := (Array.replicate ops.size false).toList)
      simpa using this) ?_)
  · rintro listed b W hs ⟨i1, i7, i2, i3, i4, i5⟩ i hi
    obtain ⟨hni, o, ho, hall⟩ := mem_ready.1 hi
    have hil : i < ops.size := (Array.getElem?_eq_some_iff.1 ho).1
    obtain ⟨g1, g2, g3⟩ := regOkL_at hok ho
    have i6 : listed.getD m false = false ∧ b.tmps[tm]? = a.tmps[tm]? := by
      rcases i1.2 with h | ⟨h, _⟩
      · exact h
      · have h2 := h i hil
        have hl : i < listed.size := by omega
        exact absurd h2 (by simpa [hl] using hni)
    have henv : ∀ t v, Operand.tmp t ∈ o.op.operands → vals.lookup t = some v → b.eval (.tmp t) = v := fun t v ht hv => by
      unfold depsL at g3
      rw [List.all_eq_true] at g3
      have h1 := g3 (.tmp t) (Array.mem_toList_iff.2 ht)
      simp only [Bool.or_eq_true, List.all_eq_true, List.any_eq_true, Bool.and_eq_true, bne_iff_ne, ne_eq, beq_iff_eq, hv, Option.isNone_some, Bool.false_eq_true, false_or, decide_eq_true_eq] at h1
      rcases h1 with h1 | ⟨e, he, ⟨hb, hem⟩, hx⟩
      · by_cases htm : t = tm
        · show b.tmps.getD t undef = v
          rw [htm, Array.getD_eq_getD_getElem?, i6.2, ← Array.getD_eq_getD_getElem?]
          exact h0m v (by rw [← htm]; exact hv)
        have h4 : t ∉ dstsOf ops := fun hmem => by
          obtain ⟨i', oi, hi', e⟩ := mem_dsts.1 hmem
          rcases h1 (oi, i') (List.mem_iff_getElem?.2 ⟨i', by rw [List.getElem?_zipIdx, Array.getElem?_toList, hi']; simp⟩) with h | h
          · subst h
            have := (regOkL_last hok hi').2.1
            rw [e] at this
            exact htm (Option.some.inj this)
          · exact h e
        have h5 := i4 t h4
        show b.tmps.getD t undef = v
        rw [Array.getD_eq_getD_getElem?, h5, ← Array.getD_eq_getD_getElem?]
        exact h0 (t, v) (lookup_mem hv) h4
      · obtain ⟨oj, hoj, e1⟩ := Option.bind_eq_some_iff.1 hx
        exact i5 e.on oj t v hem (hall e (Array.mem_toList_iff.1 he) hb) hoj e1 hv
    have hset : ∀ j, i ≠ j → (listed.setIfInBounds i true).getD j false = listed.getD j false := fun j hij => getD_set_ne false hij
    have h7 : ∀ (k : Nat) (o' : Oper) (e : Edge), (listed.setIfInBounds i true).getD k false = true → ops[k]? = some o' → e ∈ o'.after → Region.binds .any e = true → (listed.setIfInBounds i true).getD e.on false = true := fun k oj e hl hoj he hb => by
      have hon : listed.getD e.on false = true := by
        by_cases hik : i = k
        · subst hik
          rw [ho] at hoj
          obtain rfl := Option.some.inj hoj
          exact hall e he hb
        · rw [hset k hik] at hl
          exact i7 k oj e hl hoj he hb
      by_cases e' : i = e.on
      · rw [← e']; exact getD_set_at (by omega)
      · rw [hset _ e']; exact hon
    by_cases him : i = m
    · subst him
      obtain ⟨hsz, hd, hgd, hbef⟩ := regOkL_last hok ho
      have hdown : ∀ d k, i - k ≤ d → k < i → listed.getD k false = true := by
        intro d
        induction d with
        | zero => intro k h1 h2; omega
        | succ d ih =>
          intro k h1 h2
          obtain ⟨j, oj, hkj, hjm, hoj, e1, he1, hb1, ho1⟩ := hbef k h2
          rw [← ho1]
          rcases Nat.lt_or_ge j i with hj | hj
          · exact i7 j oj e1 (ih j (by omega) hj) hoj he1 hb1
          · obtain rfl : j = i := by omega
            rw [ho] at hoj
            obtain rfl := Option.some.inj hoj
            exact hall e1 he1 hb1
      have hallm : ∀ k, k < ops.size → (listed.setIfInBounds i true).getD k false = true := fun k hk => by
        by_cases e : i = k
        · subst e; exact getD_set_at (by omega)
        · rw [hset k e]
          exact hdown i k (by omega) (by omega)
      have keyL : ∀ W', W.grownBy W' none → (w.grownBy W' none ∧ ((listed.setIfInBounds i true).getD i false = false ∧ (b.put o.dst cn).tmps[tm]? = a.tmps[tm]? ∨ (∀ k, k < ops.size → (listed.setIfInBounds i true).getD k false = true) ∧ (b.put o.dst cn).tmps.getD tm undef = cn)) ∧ (∀ (k : Nat) (o' : Oper) (e : Edge), (listed.setIfInBounds i true).getD k false = true → ops[k]? = some o' → e ∈ o'.after → Region.binds .any e = true → (listed.setIfInBounds i true).getD e.on false = true) ∧ (b.put o.dst cn).defers = a.defers ∧ (b.put o.dst cn).tmps.size = a.tmps.size ∧ (∀ t, t ∉ dstsOf ops → (b.put o.dst cn).tmps[t]? = a.tmps[t]?) ∧
          (∀ (j : Nat) (oj : Oper) (t' : Tmp) (c' : Value), j ≠ i → (listed.setIfInBounds i true).getD j false = true → ops[j]? = some oj → oj.dst = some t' → vals.lookup t' = some c' → (b.put o.dst cn).tmps.getD t' undef = c') := fun W' hg => by
        have htl : tm < b.tmps.size := by rw [i3]; exact hdl tm (mem_dsts.2 ⟨i, o, ho, hd⟩)
        refine ⟨⟨only_trans i1.1 hg, .inr ⟨hallm, by rw [hd]; simp [Act.put, htl]⟩⟩, h7, by rw [hd]; exact i2, by simp [Act.put, hd, i3], fun t' ht' => ?_, fun k oj t' c' hki hl hoj e1 e2 => ?_⟩
        · have hne : tm ≠ t' := fun e => ht' (mem_dsts.2 ⟨i, o, ho, by rw [hd, e]⟩)
          rw [hd]
          simp only [Act.put]
          rw [Array.getElem?_setIfInBounds_ne hne]
          exact i4 t' ht'
        · have hne : tm ≠ t' := fun e => (((regOkL_at hok hoj).1 hki).2) (by rw [e1, e])
          rw [hset k (Ne.symm hki)] at hl
          rw [hd]
          simp only [Act.put]
          rw [Array.getD_eq_getD_getElem?, Array.getElem?_setIfInBounds_ne hne, ← Array.getD_eq_getD_getElem?]
          exact i5 k oj t' c' hki hl hoj e1 e2
      unfold wpOp
      simp only [ho]
      rw [if_pos (by simp [Region.wanted, hgd])]
      refine .inl ?_
      unfold Oper.wp
      rcases hlast o ho b W i1.1 henv with h | ⟨f, args, h, hcall⟩
      · rw [h, Oper.upon_value]
        exact keyL W (only_refl _ _)
      · rw [h, Oper.upon_enter]
        refine hcall.mono ?_
        rintro e w'' ⟨rfl, hg⟩
        exact keyL w'' hg
    obtain ⟨g1, hdt⟩ := g1 him
    have i5' : ∀ (i : Nat) (o : Oper) (t : Tmp) (c : Value), listed.getD i false = true → ops[i]? = some o → o.dst = some t → vals.lookup t = some c → b.tmps.getD t undef = c := fun k o' t c hl ho' e1 e2 => i5 k o' t c (fun e => by rw [e, i6.1] at hl; cases hl) hl ho' e1 e2
    obtain ⟨t, htd, hcase⟩ := guard_cases g1 hall i5'
    have httm : t ≠ tm := fun e => hdt (by rw [htd, e])
    have key : ∀ (x : Value) W', W.grownBy W' none → (∀ c, vals.lookup t = some c → x = c) → (w.grownBy W' none ∧ ((listed.setIfInBounds i true).getD m false = false ∧ (b.put o.dst x).tmps[tm]? = a.tmps[tm]? ∨ (∀ k, k < ops.size → (listed.setIfInBounds i true).getD k false = true) ∧ (b.put o.dst x).tmps.getD tm undef = cn)) ∧ (∀ (k : Nat) (o' : Oper) (e : Edge), (listed.setIfInBounds i true).getD k false = true → ops[k]? = some o' → e ∈ o'.after → Region.binds .any e = true → (listed.setIfInBounds i true).getD e.on false = true) ∧ (b.put o.dst x).defers = a.defers ∧ (b.put o.dst x).tmps.size = a.tmps.size ∧ (∀ t, t ∉ dstsOf ops → (b.put o.dst x).tmps[t]? = a.tmps[t]?) ∧
        (∀ (j : Nat) (oj : Oper) (t' : Tmp) (c' : Value), j ≠ m → (listed.setIfInBounds i true).getD j false = true → ops[j]? = some oj → oj.dst = some t' → vals.lookup t' = some c' → (b.put o.dst x).tmps.getD t' undef = c') := fun x W' hg hx => by
      refine ⟨⟨only_trans i1.1 hg, .inl ⟨by rw [hset m him]; exact i6.1, by rw [htd]; simp only [Act.put]; rw [Array.getElem?_setIfInBounds_ne httm]; exact i6.2⟩⟩, h7, by rw [htd]; exact i2, by simp [Act.put, htd, i3], fun t' ht' => ?_, fun j oj t' c' hjm hl hoj e1 e2 => ?_⟩
      · have hne : t ≠ t' := fun e => ht' (mem_dsts.2 ⟨i, o, ho, by rw [htd, e]⟩)
        rw [htd]
        simp only [Act.put]
        rw [Array.getElem?_setIfInBounds_ne hne]
        exact i4 t' ht'
      · by_cases hij : i = j
        · subst hij
          rw [ho] at hoj
          obtain rfl := Option.some.inj hoj
          rw [htd] at e1
          obtain rfl := Option.some.inj e1
          have : t < b.tmps.size := by rw [i3]; exact hdl t (mem_dsts.2 ⟨i, o, ho, htd⟩)
          rw [htd, ← hx c' e2]
          simp [Act.put, this]
        · have hne : t ≠ t' := fun e => hij (hu i j o oj t ho hoj htd (by rw [e]; exact e1))
          rw [hset j hij] at hl
          rw [htd]
          simp only [Act.put]
          rw [Array.getD_eq_getD_getElem?, Array.getElem?_setIfInBounds_ne hne, ← Array.getD_eq_getD_getElem?]
          exact i5 j oj t' c' hjm hl hoj e1 e2
    unfold wpOp
    simp only [ho]
    rcases hcase with ⟨hw, c, hc⟩ | ⟨hw, hc⟩
    · rw [if_pos hw]
      refine .inl ?_
      have hop := hops.at_ i o (by rw [Array.getElem?_toList]; exact ho) (by omega) t c htd hc
      unfold Oper.wp
      rcases hop b W i1.1 henv with h | ⟨f, args, h, hcall⟩
      · rw [h, Oper.upon_value]
        exact key c W (only_refl _ _) (fun c' h' => by rw [hc] at h'; exact Option.some.inj h')
      · rw [h, Oper.upon_enter]
        refine hcall.mono ?_
        rintro e w'' ⟨rfl, hg⟩
        exact key c w'' hg (fun c' h' => by rw [hc] at h'; exact Option.some.inj h')
    · rw [if_neg (by rw [hw]; decide)]
      exact key undef W (only_refl _ _) (fun c' h' => by rw [hc] at h'; cases h')
  · rintro listed b W hs ⟨i1, i7, i2, i3, i4, i5⟩ hr
    have hl := all_listedL hok hs hr
    have hlo : ∀ {i o}, ops[i]? = some o → listed.getD i false = true := fun h => hl _ (Array.getElem?_eq_some_iff.1 h).1
    have hb : b = { a with tmps := (dstsOf ops).foldl (fun (ts : Array Value) t => ts.setIfInBounds t (b.tmps.getD t undef)) a.tmps } := by
      obtain ⟨bt, bd⟩ := b
      obtain ⟨at_, ad⟩ := a
      simp only [Act.mk.injEq]
      refine ⟨?_, i2⟩
      apply Array.ext_getElem?
      intro t
      dsimp only at i3 i4
      rw [foldSet]
      by_cases h1 : t ∈ dstsOf ops
      · by_cases h2 : t < at_.size
        · have : t < bt.size := by omega
          simp [h1, h2, this]
        · simp [h2, i3]
      · simp only [h1, false_and, if_false]
        exact i4 t h1
    rw [hb]
    have hv : b.tmps.getD tm undef = cn := by
      rcases i1.2 with ⟨h, _⟩ | ⟨_, h⟩
      · have hm1 : m < ops.size := regOkL_size hok
        rw [hl m hm1] at h
        cases h
      · exact h
    refine hQ (fun t => b.tmps.getD t undef) W i1.1 hv (fun t v htm hv ht => ?_)
    obtain ⟨i, o, ho, e⟩ := mem_dsts.1 ht
    exact i5 i o t v (fun e' => by subst e'; have := (regOkL_last hok ho).2.1; rw [e] at this; exact htm (Option.some.inj this)) (hlo ho) ho e hv
  · have hno : ∀ j, (Array.replicate ops.size false).getD j false = false := fun j => by
      simp only [Array.getD_eq_getD_getElem?, Array.getElem?_replicate]
      split <;> rfl
    refine ⟨⟨only_drew (only_refl w none), .inl ⟨hno m, rfl⟩⟩, fun k o' e hl => (by rw [hno] at hl; cases hl), rfl, rfl, fun _ _ => rfl, fun i o t c _ hl => ?_⟩
    rw [hno] at hl; cases hl

/-- The same, the last operation an assignment. -/
theorem region_upd {ops : Array Oper} {Q : Exit → Act → World → Prop} {id : Nat} {a : Act} {w : World} (hm : (Tryd.prog).follows .mixedOrders = true) (made init : List (Tmp × Value)) (m : Nat) (tm q : Tmp) (cn : Value) (hok : regOkL m tm (made ++ init) ops = true) (ds : List Tmp) (hds : dstsOf ops = ds) (hlt : (ds.all fun t => decide (t < a.tmps.size)) = true) (hdn : ds.Nodup)
    (hmd : (made.all fun p => ds.contains p.1 && p.1 != tm) = true) (h0 : InitOk a init)
    (hops : AllOps (fun i o => i ≠ m → ∀ t c, o.dst = some t → (made ++ init).lookup t = some c → OpVal Tryd.prog o (made ++ init) w c) ops.toList 0)
    (hst : (ops[m]?).map (·.op) = some (.assign (.tmp q))) (hq : (made ++ init).lookup q = some cn)
    (hQ : ∀ (vs : Tmp → Value) (W : World), w.grownBy W none → vs tm = cn →
      Q .normal { a with tmps := ds.foldl (fun (ts : Array Value) t => ts.setIfInBounds t (vs t)) a.tmps } W) :
    (Code.region id ops true).wp Tryd.prog Q a w := by
  have hmade : ∀ p ∈ made, p.1 ∈ ds ∧ p.1 ≠ tm := fun p hp => by
    have h := List.all_eq_true.1 hmd p hp
    simp only [Bool.and_eq_true, bne_iff_ne] at h
    exact ⟨by simpa using h.1, h.2⟩
  refine region_last hm (made ++ init) m tm cn hok ds hds hlt hdn (fun p hp hn => by
    rcases List.mem_append.1 hp with hp | hp
    · exact absurd (hmade p hp).1 hn
    · exact h0.at_ p hp) hops (fun v hv => by
    rcases List.mem_append.1 (lookup_mem hv) with hp | hp
    · exact absurd rfl (hmade _ hp).2
    · exact h0.at_ _ hp) (fun o ho => ?_) (fun vs W hg hv _ => hQ vs W hg hv)
  rw [ho] at hst
  exact ov_assign (Option.some.inj hst) hq
end Go.Proofs.YtmbdaenjeeklfaaDoor

/- Texts joined for the claim's sake: Grd, Ovs, Ovt, UOps, Bth. -/
import Derived.Test.YtmbdaenjeeklfaaDoorZIbE
/- A region that draws its order, whose operations only read, call and make memory, and some of which are guarded by values that are known: in whatever order, at the end each operation that is wanted has answered its value. No program. -/
namespace Go.Proofs.YtmbdaenjeeklfaaDoor
open Go.RowKit

def guardOk (vals : List (Tmp × Value)) (ops : Array Oper) (o : Oper) : Bool := match o.guard with
  | none => (o.dst.bind fun t => vals.lookup t).isSome
  | some (j, want) => (o.after.toList.any fun e => Region.binds .any e && e.on == j) && (match (((ops[j]?).bind (·.dst)).bind fun t => vals.lookup t) with
    | some (.bool c) => o.dst.isSome && (if c == want then (o.dst.bind fun t => vals.lookup t).isSome else (o.dst.bind fun t => vals.lookup t).isNone)
    | _ => false)
def depsG (vals : List (Tmp × Value)) (ops : Array Oper) (o : Oper) : Bool := o.op.operands.toList.all fun
  | .tmp t => (vals.lookup t).isNone || (ops.toList.all fun oj => oj.dst != some t) || o.after.toList.any fun e => Region.binds .any e && ((ops[e.on]?).bind (·.dst) == some t)
  | _ => true
def regOkG (vals : List (Tmp × Value)) (ops : Array Oper) : Bool := ops.toList.zipIdx.all fun (o, i) => guardOk vals ops o && (o.after.toList.all fun e => !Region.binds .any e || decide (e.on < i)) && depsG vals ops o
section
variable {vals : List (Tmp × Value)} {ops : Array Oper}
theorem regOkG_at (h : regOkG vals ops = true) {i : Nat} {o : Oper} (hi : ops[i]? = some o) : guardOk vals ops o = true ∧ (∀ e ∈ o.after, Region.binds .any e = true → e.on < i) ∧ depsG vals ops o = true := by
  unfold regOkG at h
  rw [List.all_eq_true] at h
  have h1 := h (o, i) (List.mem_iff_getElem?.2 ⟨i, by rw [List.getElem?_zipIdx, Array.getElem?_toList, hi]; simp⟩)
  simp only [Bool.and_eq_true, List.all_eq_true, Bool.or_eq_true, Bool.not_eq_true', decide_eq_true_eq] at h1
  refine ⟨h1.1.1, fun e he hb => ?_, h1.2⟩
  rcases h1.1.2 e (Array.mem_toList_iff.2 he) with h2 | h2
  · rw [hb] at h2; cases h2
  · exact h2
theorem all_listedG (hok : regOkG vals ops = true) {listed : Array Bool} (hs : listed.size = ops.size) (hr : Region.ready .any ops listed = []) : ∀ i, i < ops.size → listed.getD i false = true := by
  intro i
  induction i using Nat.strongRecOn with
  | _ i ih =>
    intro hi
    cases hl : listed.getD i false with
    | true => rfl
    | false =>
      have ho : ops[i]? = some ops[i] := Array.getElem?_eq_getElem hi
      have hm : i ∈ Region.ready .any ops listed := mem_ready.2 ⟨by simpa [hs, hi] using hl, ops[i], ho, fun e he hb => by
        have := (regOkG_at hok ho).2.1 e he hb
        exact ih e.on this (by omega)⟩
      rw [hr] at hm
      cases hm
/-- An operation is wanted, and answers; or it is not wanted. -/
theorem guard_cases {o : Oper} (h : guardOk vals ops o = true) {listed : Array Bool} {tmps : Array Value} (hall : ∀ e ∈ o.after, Region.binds .any e = true → listed.getD e.on false = true)
    (hv : ∀ (i : Nat) (oi : Oper) (t : Tmp) (c : Value), listed.getD i false = true → ops[i]? = some oi → oi.dst = some t → vals.lookup t = some c → tmps.getD t undef = c) :
    ∃ t, o.dst = some t ∧ (Region.wanted o (yielded ops tmps) = true ∧ (∃ c, vals.lookup t = some c) ∨ Region.wanted o (yielded ops tmps) = false ∧ vals.lookup t = none) := by
  unfold guardOk at h
  cases hg : o.guard with
  | none =>
    rw [hg] at h
    dsimp only at h
    obtain ⟨c, hc⟩ := Option.isSome_iff_exists.1 h
    obtain ⟨t, ht, hc⟩ := Option.bind_eq_some_iff.1 hc
    exact ⟨t, ht, .inl ⟨by simp [Region.wanted, hg], c, hc⟩⟩
  | some p =>
    obtain ⟨j, want⟩ := p
    rw [hg] at h
    dsimp only at h
    rw [Bool.and_eq_true, List.any_eq_true] at h
    obtain ⟨⟨e, he, hb⟩, h2⟩ := h
    simp only [Bool.and_eq_true, beq_iff_eq] at hb
    have hl := hall e (Array.mem_toList_iff.1 he) hb.1
    rw [hb.2] at hl
    split at h2
    · rename_i c hc
      obtain ⟨tj, htj, hc⟩ := Option.bind_eq_some_iff.1 hc
      obtain ⟨oj, hoj, htj⟩ := Option.bind_eq_some_iff.1 htj
      rw [Bool.and_eq_true] at h2
      obtain ⟨t, ht⟩ := Option.isSome_iff_exists.1 h2.1
      have h3 := h2.2
      rw [ht, Option.bind_some] at h3
      have hw := hv j oj tj (.bool c) hl hoj htj hc
      have hy : yielded ops tmps j = some c := by
        unfold yielded
        have hlt : tj < tmps.size := by
          rcases Nat.lt_or_ge tj tmps.size with h | h
          · exact h
          · have hn : ¬ tj < tmps.size := Nat.not_lt.2 h
            simp [Array.getD_eq_getD_getElem?, hn] at hw
            cases hw
        have hx : tmps[tj]? = some (.bool c) := by
          rw [Array.getD_eq_getD_getElem?, Array.getElem?_eq_getElem hlt] at hw
          rw [Array.getElem?_eq_getElem hlt]
          exact congrArg some hw
        simp [hoj, htj, hx]
      refine ⟨t, ht, ?_⟩
      by_cases hcw : c = want
      · rw [if_pos (by simp [hcw])] at h3
        exact .inl ⟨by simp [Region.wanted, hg, hy, hcw], Option.isSome_iff_exists.1 h3⟩
      · rw [if_neg (by simp [hcw])] at h3
        exact .inr ⟨by simp [Region.wanted, hg, hy, hcw], by simpa using h3⟩
    · cases h2
end

theorem region_guards {P : Program} {ops : Array Oper} {Q : Exit → Act → World → Prop} {id : Nat} {a : Act} {w : World} (hm : P.follows .mixedOrders = true) (vals : List (Tmp × Value)) (hok : regOkG vals ops = true) (ds : List Tmp) (hds : dstsOf ops = ds) (hlt : (ds.all fun t => decide (t < a.tmps.size)) = true) (hdn : ds.Nodup)
    (h0 : ∀ p ∈ vals, p.1 ∉ ds → a.tmps.getD p.1 undef = p.2)
    (hops : AllOps (fun _ o => ∀ t c, o.dst = some t → vals.lookup t = some c → OpVal P o vals w c) ops.toList 0)
    (hQ : ∀ (vs : Tmp → Value) (W : World), w.grownBy W none → (∀ t v, vals.lookup t = some v → t ∈ ds → vs t = v) →
      Q .normal { a with tmps := ds.foldl (fun (ts : Array Value) t => ts.setIfInBounds t (vs t)) a.tmps } W) :
    (Code.region id ops true).wp P Q a w := by
  subst hds
  have hu : ∀ (i j : Nat) (oi oj : Oper) (t : Tmp), ops[i]? = some oi → ops[j]? = some oj → oi.dst = some t → oj.dst = some t → i = j := fun i j oi oj t hi hj ei ej =>
    nodup_at hdn (by rw [Array.getElem?_toList]; exact hi) (by rw [Array.getElem?_toList]; exact hj) ei ej
  have hdl : ∀ t ∈ dstsOf ops, t < a.tmps.size := fun t ht => by simpa using List.all_eq_true.1 hlt t ht
  refine wp_region_any hm (wpAny_inv (fun listed b W => w.grownBy W none ∧ b.defers = a.defers ∧ b.tmps.size = a.tmps.size ∧ (∀ t, t ∉ dstsOf ops → b.tmps[t]? = a.tmps[t]?) ∧
    (∀ (i : Nat) (o : Oper) (t : Tmp) (c : Value), listed.getD i false = true → ops[i]? = some o → o.dst = some t → vals.lookup t = some c → b.tmps.getD t undef = c)) ?_ ?_ ops.size _ _ _ (by simp) (by
      have := List.countP_le_length (p := (! ·)) (l := (Array.replicate ops.size false).toList)
      simpa using this) ?_)
  · rintro listed b W hs ⟨i1, i2, i3, i4, i5⟩ i hi
    obtain ⟨hni, o, ho, hall⟩ := mem_ready.1 hi
    have hil : i < ops.size := (Array.getElem?_eq_some_iff.1 ho).1
    obtain ⟨g1, g2, g3⟩ := regOkG_at hok ho
    have henv : ∀ t v, Operand.tmp t ∈ o.op.operands → vals.lookup t = some v → b.eval (.tmp t) = v := fun t v ht hv => by
      unfold depsG at g3
      rw [List.all_eq_true] at g3
      have h1 := g3 (.tmp t) (Array.mem_toList_iff.2 ht)
      simp only [Bool.or_eq_true, List.all_eq_true, List.any_eq_true, Bool.and_eq_true, bne_iff_ne, ne_eq, beq_iff_eq, hv, Option.isNone_some, Bool.false_eq_true, false_or] at h1
      rcases h1 with h1 | ⟨e, he, hb, hx⟩
      · have h4 : t ∉ dstsOf ops := fun hm => by
          obtain ⟨i, oi, hi, e⟩ := mem_dsts.1 hm
          exact h1 oi (List.mem_iff_getElem?.2 ⟨i, by rw [Array.getElem?_toList]; exact hi⟩) e
        have h5 := i4 t h4
        show b.tmps.getD t undef = v
        rw [Array.getD_eq_getD_getElem?, h5, ← Array.getD_eq_getD_getElem?]
        exact h0 (t, v) (lookup_mem hv) h4
      · obtain ⟨oj, hoj, e1⟩ := Option.bind_eq_some_iff.1 hx
        exact i5 e.on oj t v (hall e (Array.mem_toList_iff.1 he) hb) hoj e1 hv
    have hset : ∀ j, i ≠ j → (listed.setIfInBounds i true).getD j false = listed.getD j false := fun j hij => getD_set_ne false hij
    obtain ⟨t, htd, hcase⟩ := guard_cases g1 hall i5
    have key : ∀ (x : Value) W', W.grownBy W' none → (∀ c, vals.lookup t = some c → x = c) → w.grownBy W' none ∧ (b.put o.dst x).defers = a.defers ∧ (b.put o.dst x).tmps.size = a.tmps.size ∧ (∀ t, t ∉ dstsOf ops → (b.put o.dst x).tmps[t]? = a.tmps[t]?) ∧
        (∀ (j : Nat) (oj : Oper) (t' : Tmp) (c' : Value), (listed.setIfInBounds i true).getD j false = true → ops[j]? = some oj → oj.dst = some t' → vals.lookup t' = some c' → (b.put o.dst x).tmps.getD t' undef = c') := fun x W' hg hx => by
      refine ⟨only_trans i1 hg, by rw [htd]; exact i2, by simp [Act.put, htd, i3], fun t' ht' => ?_, fun j oj t' c' hl hoj e1 e2 => ?_⟩
      · have hne : t ≠ t' := fun e => ht' (mem_dsts.2 ⟨i, o, ho, by rw [htd, e]⟩)
        rw [htd]
        simp only [Act.put]
        rw [Array.getElem?_setIfInBounds_ne hne]
        exact i4 t' ht'
      · by_cases hij : i = j
        · subst hij
          rw [ho] at hoj
          obtain rfl := Option.some.inj hoj
          rw [htd] at e1
          obtain rfl := Option.some.inj e1
          have : t < b.tmps.size := by rw [i3]; exact hdl t (mem_dsts.2 ⟨i, o, ho, htd⟩)
          rw [htd, ← hx c' e2]
          simp [Act.put, this]
        · have hne : t ≠ t' := fun e => hij (hu i j o oj t ho hoj htd (by rw [e]; exact e1))
          rw [hset j hij] at hl
          rw [htd]
          simp only [Act.put]
          rw [Array.getD_eq_getD_getElem?, Array.getElem?_setIfInBounds_ne hne, ← Array.getD_eq_getD_getElem?]
          exact i5 j oj t' c' hl hoj e1 e2
    unfold wpOp
    simp only [ho]
    rcases hcase with ⟨hw, c, hc⟩ | ⟨hw, hc⟩
    · rw [if_pos hw]
      refine .inl ?_
      have hop := hops.at_ i o (by rw [Array.getElem?_toList]; exact ho) t c htd hc
      unfold Oper.wp
      rcases hop b W i1 henv with h | ⟨f, args, h, hcall⟩
      · rw [h, Oper.upon_value]
        exact key c W (only_refl _ _) (fun c' h' => by rw [hc] at h'; exact Option.some.inj h')
      · rw [h, Oper.upon_enter]
        refine hcall.mono ?_
        rintro e w'' ⟨rfl, hg⟩
        exact key c w'' hg (fun c' h' => by rw [hc] at h'; exact Option.some.inj h')
    · rw [if_neg (by rw [hw]; decide)]
      exact key undef W (only_refl _ _) (fun c' h' => by rw [hc] at h'; cases h')
  · rintro listed b W hs ⟨i1, i2, i3, i4, i5⟩ hr
    have hl := all_listedG hok hs hr
    have hlo : ∀ {i o}, ops[i]? = some o → listed.getD i false = true := fun h => hl _ (Array.getElem?_eq_some_iff.1 h).1
    have hb : b = { a with tmps := (dstsOf ops).foldl (fun (ts : Array Value) t => ts.setIfInBounds t (b.tmps.getD t undef)) a.tmps } := by
      obtain ⟨bt, bd⟩ := b
      obtain ⟨at_, ad⟩ := a
      simp only [Act.mk.injEq]
      refine ⟨?_, i2⟩
      apply Array.ext_getElem?
      intro t
      dsimp only at i3 i4
      rw [foldSet]
      by_cases h1 : t ∈ dstsOf ops
      · by_cases h2 : t < at_.size
        · have : t < bt.size := by omega
          simp [h1, h2, this]
        · simp [h2, i3]
      · simp only [h1, false_and, if_false]
        exact i4 t h1
    rw [hb]
    refine hQ (fun t => b.tmps.getD t undef) W i1 (fun t v hv ht => ?_)
    obtain ⟨i, o, ho, e⟩ := mem_dsts.1 ht
    exact i5 i o t v (hlo ho) ho e hv
  · have hno : ∀ j, (Array.replicate ops.size false).getD j false = false := fun j => by
      simp only [Array.getD_eq_getD_getElem?, Array.getElem?_replicate]
      split <;> rfl
    refine ⟨only_drew (only_refl w none), rfl, rfl, fun _ _ => rfl, fun i o t c hl => ?_⟩
    rw [hno] at hl; cases hl

/-! ### What single operations answer -/
section
variable {vals : List (Tmp × Value)} {w : World} {o : Oper}
/-- Of an operation that is wanted. -/
theorem og {P : Program} {t : Tmp} {c : Value} (ho : o.dst = some t) (hv : vals.lookup t = some c) (h : OpVal P o vals w c) : ∀ t c, o.dst = some t → vals.lookup t = some c → OpVal P o vals w c := fun t' c' h1 h2 => by
  rw [ho] at h1
  obtain rfl := Option.some.inj h1
  rw [hv] at h2
  obtain rfl := Option.some.inj h2
  exact h
/-- Of one that is not. -/
theorem oskip {P : Program} {t : Tmp} (ho : o.dst = some t) (hv : vals.lookup t = none) : ∀ t c, o.dst = some t → vals.lookup t = some c → OpVal P o vals w c := fun t' c' h1 h2 => by
  rw [ho] at h1
  obtain rfl := Option.some.inj h1
  rw [hv] at h2
  cases h2
theorem ov_neq_int {s i : Tmp} {a c : Int} {b : Bool} {ty : TypeId} (ho : o.op = .binOp .neq 3 (.tmp s) (.tmp i) ty) (hs : vals.lookup s = some (.int .i64 a)) (hi : vals.lookup i = some (.int .i64 c)) (hb : (a != c) = b) : OpVal Tryd.prog o vals w (.bool b) := fun b' W hg hr => by
  have he := hr s _ (by rw [ho]; simp [Op.operands]) hs
  have hf := hr i _ (by rw [ho]; simp [Op.operands]) hi
  obtain ⟨dst, op, type, pos, after, guard⟩ := o
  dsimp only at ho
  subst ho
  subst hb
  refine .inl ?_
  simp only [execOp, he, hf]
  go_simp
theorem ov_eql_int {s i : Tmp} {a c : Int} {b : Bool} {ty : TypeId} (ho : o.op = .binOp .eql 3 (.tmp s) (.tmp i) ty) (hs : vals.lookup s = some (.int .i64 a)) (hi : vals.lookup i = some (.int .i64 c)) (hb : (a == c) = b) : OpVal Tryd.prog o vals w (.bool b) := fun b' W hg hr => by
  have he := hr s _ (by rw [ho]; simp [Op.operands]) hs
  have hf := hr i _ (by rw [ho]; simp [Op.operands]) hi
  obtain ⟨dst, op, type, pos, after, guard⟩ := o
  dsimp only at ho
  subst ho
  subst hb
  refine .inl ?_
  simp only [execOp, he, hf]
  go_simp
theorem ov_neq_bool {s i : Tmp} {a c : Bool} {b : Bool} {ty : TypeId} (ho : o.op = .binOp .neq 4 (.tmp s) (.tmp i) ty) (hs : vals.lookup s = some (.bool a)) (hi : vals.lookup i = some (.bool c)) (hb : (a != c) = b) : OpVal Tryd.prog o vals w (.bool b) := fun b' W hg hr => by
  have he := hr s _ (by rw [ho]; simp [Op.operands]) hs
  have hf := hr i _ (by rw [ho]; simp [Op.operands]) hi
  obtain ⟨dst, op, type, pos, after, guard⟩ := o
  dsimp only at ho
  subst ho
  subst hb
  refine .inl ?_
  simp only [execOp, he, hf]
  cases a <;> cases c <;> go_simp
theorem ov_gtr_c {s : Tmp} {a c : Int} {b : Bool} {ty : TypeId} (ho : o.op = .binOp .gtr 3 (.tmp s) (.const (.int .i64 c)) ty) (hs : vals.lookup s = some (.int .i64 a)) (hb : decide (a > c) = b) : OpVal Tryd.prog o vals w (.bool b) := fun b' W hg hr => by
  have he := hr s _ (by rw [ho]; simp [Op.operands]) hs
  obtain ⟨dst, op, type, pos, after, guard⟩ := o
  dsimp only at ho
  subst ho
  subst hb
  refine .inl ?_
  simp only [execOp, he]
  go_simp
theorem ov_sub_c {s : Tmp} {a c : Int} {ty : TypeId} (ho : o.op = .binOp .sub 3 (.tmp s) (.const (.int .i64 c)) ty) (hs : vals.lookup s = some (.int .i64 a)) (h0 : -1000000000 ≤ a) (h1 : a ≤ 1000000000) (h2 : -1000000000 ≤ c) (h3 : c ≤ 1000000000) : OpVal Tryd.prog o vals w (.int .i64 (a - c)) := fun b' W hg hr => by
  have he := hr s _ (by rw [ho]; simp [Op.operands]) hs
  have hw : IntKind.i64.wrap (a - c) = a - c := IntWalk.i64_in _ ⟨by omega, by omega⟩
  obtain ⟨dst, op, type, pos, after, guard⟩ := o
  dsimp only at ho
  subst ho
  refine .inl ?_
  simp only [execOp, he]
  go_simp
theorem ov_pick_true {s : Tmp} {u v : Operand} {c : Value} (ho : o.op = .pick (.tmp s) u v) (hs : vals.lookup s = some (.bool true)) (hu : ∀ b : Act, (∀ t v, Operand.tmp t ∈ o.op.operands → vals.lookup t = some v → b.eval (.tmp t) = v) → b.eval u = c) : OpVal Tryd.prog o vals w c := fun b W hg hr => by
  have he := hr s _ (by rw [ho]; simp [Op.operands]) hs
  have hf := hu b hr
  obtain ⟨dst, op, type, pos, after, guard⟩ := o
  dsimp only at ho
  subst ho
  refine .inl ?_
  simp only [execOp, he, hf]
  go_simp
theorem ov_pick_false {s : Tmp} {u v : Operand} {c : Value} (ho : o.op = .pick (.tmp s) u v) (hs : vals.lookup s = some (.bool false)) (hu : ∀ b : Act, (∀ t v, Operand.tmp t ∈ o.op.operands → vals.lookup t = some v → b.eval (.tmp t) = v) → b.eval v = c) : OpVal Tryd.prog o vals w c := fun b W hg hr => by
  have he := hr s _ (by rw [ho]; simp [Op.operands]) hs
  have hf := hu b hr
  obtain ⟨dst, op, type, pos, after, guard⟩ := o
  dsimp only at ho
  subst ho
  refine .inl ?_
  simp only [execOp, he, hf]
  go_simp
/-- A call of four arguments. -/
theorem ov_call4 {f : FuncId} {t1 t2 t3 t4 : Tmp} {c1 c2 c3 c4 r : Value} {ts : Array TypeId} (ho : o.op = .call { callee := .value (.func f), args := #[.tmp t1, .tmp t2, .tmp t3, .tmp t4], argTypes := ts }) (h1 : vals.lookup t1 = some c1) (h2 : vals.lookup t2 = some c2) (h3 : vals.lookup t3 = some c3) (h4 : vals.lookup t4 = some c4) (hrun : ∀ W, (callFunc f #[c1, c2, c3, c4]).run Tryd.prog W = .ok (.enter f #[c1, c2, c3, c4]) W)
    (hc : ∀ W, w.grownBy W none → Calls Tryd.prog f #[c1, c2, c3, c4] W fun e w'' => e = .returned r ∧ W.grownBy w'' none) : OpVal Tryd.prog o vals w r := fun b W hg hr => by
  have e1 := hr t1 _ (by rw [ho]; simp [Op.operands, Call.operands]) h1
  have e2 := hr t2 _ (by rw [ho]; simp [Op.operands, Call.operands]) h2
  have e3 := hr t3 _ (by rw [ho]; simp [Op.operands, Call.operands]) h3
  have e4 := hr t4 _ (by rw [ho]; simp [Op.operands, Call.operands]) h4
  obtain ⟨dst, op, type, pos, after, guard⟩ := o
  dsimp only at ho
  subst ho
  refine .inr ⟨f, #[c1, c2, c3, c4], ?_, hc W hg⟩
  have e1' : b.tmps[t1]?.getD undef = c1 := by simpa [Act.eval] using e1
  have e2' : b.tmps[t2]?.getD undef = c2 := by simpa [Act.eval] using e2
  have e3' : b.tmps[t3]?.getD undef = c3 := by simpa [Act.eval] using e3
  have e4' : b.tmps[t4]?.getD undef = c4 := by simpa [Act.eval] using e4
  simp [execOp, resolve, Deferred.ofValue, invoke, Act.eval, e1', e2', e3', e4', hrun W]
end
end Go.Proofs.YtmbdaenjeeklfaaDoor

/- What more single operations answer, in a region that draws its order. No walk. -/
namespace Go.Proofs.YtmbdaenjeeklfaaDoor
open Go.RowKit

section
variable {vals : List (Tmp × Value)} {w : World} {o : Oper}
theorem ov_eql_bool {s i : Tmp} {a c : Bool} {b : Bool} {ty : TypeId} (ho : o.op = .binOp .eql 4 (.tmp s) (.tmp i) ty) (hs : vals.lookup s = some (.bool a)) (hi : vals.lookup i = some (.bool c)) (hb : (a == c) = b) : OpVal Tryd.prog o vals w (.bool b) := fun b' W hg hr => by
  have he := hr s _ (by rw [ho]; simp [Op.operands]) hs
  have hf := hr i _ (by rw [ho]; simp [Op.operands]) hi
  obtain ⟨dst, op, type, pos, after, guard⟩ := o
  dsimp only at ho
  subst ho
  subst hb
  refine .inl ?_
  simp only [execOp, he, hf]
  cases a <;> cases c <;> go_simp
theorem ov_assign {t : Tmp} {c : Value} (ho : o.op = .assign (.tmp t)) (hv : vals.lookup t = some c) : OpVal Tryd.prog o vals w c := fun b W _ hr => by
  have e := hr t c (by rw [ho]; simp [Op.operands]) hv
  obtain ⟨dst, op, type, pos, after, guard⟩ := o
  dsimp only at ho
  subst ho
  exact .inl (by simp only [execOp, e, Sem.run_pure])
theorem ov_load_ints {t : Tmp} {p : Addr} {A : Option Addr} {n c : Nat} (ho : o.op = .load 22 (.tmp t)) (hv : vals.lookup t = some (.pointer (some p))) (hc : w.cell? p = some (.slice A n c)) : OpVal Tryd.prog o vals w (.slice A n c) := fun b W hg hr => by
  have he := hr t _ (by rw [ho]; simp [Op.operands]) hv
  have c0 := Keeps.grown hg _ _ hc
  obtain ⟨dst, op, type, pos, after, guard⟩ := o
  dsimp only at ho
  subst ho
  refine .inl ?_
  simp only [execOp, he]
  go_simp
theorem ov_index_int {s i : Tmp} {b0 off n c k : Nat} (ho : o.op = .indexAddr 22 (.tmp s) (.tmp i)) (hs : vals.lookup s = some (.slice (some ⟨b0, off, none⟩) n c)) (hi : vals.lookup i = some (.int .i64 (k : Int))) (hk : k < n) : OpVal Tryd.prog o vals w (.pointer (some ⟨b0, off + k, none⟩)) := fun b W hg hr => by
  have he := hr s _ (by rw [ho]; simp [Op.operands]) hs
  have hf := hr i _ (by rw [ho]; simp [Op.operands]) hi
  have hk0 : (0 : Int) ≤ (k : Int) := by omega
  have hk1 : (k : Int) < (n : Int) := by omega
  obtain ⟨dst, op, type, pos, after, guard⟩ := o
  dsimp only at ho
  subst ho
  refine .inl ?_
  simp only [execOp, he, hf]
  go_simp
/-- A call of three arguments and a constant one. -/
theorem ov_call3c {f : FuncId} {t1 t2 t3 : Tmp} {c1 c2 c3 c4 r : Value} {ts : Array TypeId} (ho : o.op = .call { callee := .value (.func f), args := #[.tmp t1, .tmp t2, .tmp t3, .const c4], argTypes := ts }) (h1 : vals.lookup t1 = some c1) (h2 : vals.lookup t2 = some c2) (h3 : vals.lookup t3 = some c3) (hrun : ∀ W, (callFunc f #[c1, c2, c3, c4]).run Tryd.prog W = .ok (.enter f #[c1, c2, c3, c4]) W)
    (hc : ∀ W, w.grownBy W none → Calls Tryd.prog f #[c1, c2, c3, c4] W fun e w'' => e = .returned r ∧ W.grownBy w'' none) : OpVal Tryd.prog o vals w r := fun b W hg hr => by
  have e1 := hr t1 _ (by rw [ho]; simp [Op.operands, Call.operands]) h1
  have e2 := hr t2 _ (by rw [ho]; simp [Op.operands, Call.operands]) h2
  have e3 := hr t3 _ (by rw [ho]; simp [Op.operands, Call.operands]) h3
  obtain ⟨dst, op, type, pos, after, guard⟩ := o
  dsimp only at ho
  subst ho
  refine .inr ⟨f, #[c1, c2, c3, c4], ?_, hc W hg⟩
  have e1' : b.tmps[t1]?.getD undef = c1 := by simpa [Act.eval] using e1
  have e2' : b.tmps[t2]?.getD undef = c2 := by simpa [Act.eval] using e2
  have e3' : b.tmps[t3]?.getD undef = c3 := by simpa [Act.eval] using e3
  simp [execOp, resolve, Deferred.ofValue, invoke, Act.eval, e1', e2', e3', hrun W]
end
end Go.Proofs.YtmbdaenjeeklfaaDoor

/- What more single operations answer, in a region that draws its order (the texts are written by a script of mine). No walk. -/
namespace Go.Proofs.YtmbdaenjeeklfaaDoor
open Go.RowKit

section
variable {vals : List (Tmp × Value)} {w : World} {o : Oper}
theorem ov_move_c {c : Value} (ho : o.op = .move (.const c)) : OpVal Tryd.prog o vals w c := fun b W _ hr => by
  obtain ⟨dst, op, type, pos, after, guard⟩ := o
  dsimp only at ho
  subst ho
  exact .inl rfl
theorem ov_assign_c {c : Value} (ho : o.op = .assign (.const c)) : OpVal Tryd.prog o vals w c := fun b W _ hr => by
  obtain ⟨dst, op, type, pos, after, guard⟩ := o
  dsimp only at ho
  subst ho
  exact .inl rfl
/-- A pick whose test is known. -/
theorem ov_pick_tt {s t : Tmp} {v : Operand} {c : Value} (ho : o.op = .pick (.tmp s) (.tmp t) v) (hs : vals.lookup s = some (.bool true)) (ht : vals.lookup t = some c) : OpVal Tryd.prog o vals w c :=
  ov_pick_true ho hs fun b h => h t _ (by rw [ho]; simp [Op.operands]) ht
theorem ov_pick_tc {s : Tmp} {v : Operand} {c : Value} (ho : o.op = .pick (.tmp s) (.const c) v) (hs : vals.lookup s = some (.bool true)) : OpVal Tryd.prog o vals w c :=
  ov_pick_true ho hs fun _ _ => rfl
theorem ov_pick_ft {s t : Tmp} {u : Operand} {c : Value} (ho : o.op = .pick (.tmp s) u (.tmp t)) (hs : vals.lookup s = some (.bool false)) (ht : vals.lookup t = some c) : OpVal Tryd.prog o vals w c :=
  ov_pick_false ho hs fun b h => h t _ (by rw [ho]; simp [Op.operands]) ht
theorem ov_pick_fc {s : Tmp} {u : Operand} {c : Value} (ho : o.op = .pick (.tmp s) u (.const c)) (hs : vals.lookup s = some (.bool false)) : OpVal Tryd.prog o vals w c :=
  ov_pick_false ho hs fun _ _ => rfl
theorem ov_ld_int {t : Tmp} {p : Addr} {z : Int} (ho : o.op = .load 3 (.tmp t)) (h0 : vals.lookup t = some (.pointer (some p))) (hc : w.cell? p = some (.int .i64 z)) : OpVal Tryd.prog o vals w (.int .i64 z) := fun b' W hg hr => by
  have e0 := hr t _ (by rw [ho]; simp [Op.operands]) h0
  have c0 := Keeps.grown hg _ _ hc
  obtain ⟨dst, op, type, pos, after, guard⟩ := o
  dsimp only at ho
  subst ho
  refine .inl ?_
  simp only [execOp, e0]
  go_simp
theorem ov_ld_bool {t : Tmp} {p : Addr} {z : Bool} (ho : o.op = .load 4 (.tmp t)) (h0 : vals.lookup t = some (.pointer (some p))) (hc : w.cell? p = some (.bool z)) : OpVal Tryd.prog o vals w (.bool z) := fun b' W hg hr => by
  have e0 := hr t _ (by rw [ho]; simp [Op.operands]) h0
  have c0 := Keeps.grown hg _ _ hc
  obtain ⟨dst, op, type, pos, after, guard⟩ := o
  dsimp only at ho
  subst ho
  refine .inl ?_
  simp only [execOp, e0]
  go_simp
theorem ov_ld_ints {t : Tmp} {p : Addr} {A : Option Addr} {n c : Nat} (ho : o.op = .load 22 (.tmp t)) (h0 : vals.lookup t = some (.pointer (some p))) (hc : w.cell? p = some (.slice A n c)) : OpVal Tryd.prog o vals w (.slice A n c) := fun b' W hg hr => by
  have e0 := hr t _ (by rw [ho]; simp [Op.operands]) h0
  have c0 := Keeps.grown hg _ _ hc
  obtain ⟨dst, op, type, pos, after, guard⟩ := o
  dsimp only at ho
  subst ho
  refine .inl ?_
  simp only [execOp, e0]
  go_simp
theorem ov_ix_ints {s i : Tmp} {b0 off n c : Nat} {z : Int} (k : Nat) (ho : o.op = .indexAddr 22 (.tmp s) (.tmp i)) (h0 : vals.lookup s = some (.slice (some ⟨b0, off, none⟩) n c)) (h1 : vals.lookup i = some (.int .i64 z)) (hz : z = (k : Int)) (hk : k < n) : OpVal Tryd.prog o vals w (.pointer (some ⟨b0, off + k, none⟩)) := fun b' W hg hr => by
  have e0 := hr s _ (by rw [ho]; simp [Op.operands]) h0
  have e1 := hr i _ (by rw [ho]; simp [Op.operands]) h1
  subst hz
  have hk0 : (0 : Int) ≤ (k : Int) := by omega
  have hk1 : (k : Int) < (n : Int) := by omega
  obtain ⟨dst, op, type, pos, after, guard⟩ := o
  dsimp only at ho
  subst ho
  refine .inl ?_
  simp only [execOp, e0, e1]
  go_simp
theorem ov_ixc_ints {s : Tmp} {b0 off n c : Nat} {z : Int} (k : Nat) (ho : o.op = .indexAddr 22 (.tmp s) (.const (.int .i64 z))) (h0 : vals.lookup s = some (.slice (some ⟨b0, off, none⟩) n c)) (hz : z = (k : Int)) (hk : k < n) : OpVal Tryd.prog o vals w (.pointer (some ⟨b0, off + k, none⟩)) := fun b' W hg hr => by
  have e0 := hr s _ (by rw [ho]; simp [Op.operands]) h0
  subst hz
  have hk0 : (0 : Int) ≤ (k : Int) := by omega
  have hk1 : (k : Int) < (n : Int) := by omega
  obtain ⟨dst, op, type, pos, after, guard⟩ := o
  dsimp only at ho
  subst ho
  refine .inl ?_
  simp only [execOp, e0]
  go_simp
theorem ov_eql_int_c {s : Tmp} {a c : Int} {b : Bool} {ty : TypeId} (ho : o.op = .binOp .eql 3 (.tmp s) (.const (.int .i64 c)) ty) (h0 : vals.lookup s = some (.int .i64 a)) (hb : (a == c) = b) : OpVal Tryd.prog o vals w (.bool b) := fun b' W hg hr => by
  have e0 := hr s _ (by rw [ho]; simp [Op.operands]) h0
  subst hb
  obtain ⟨dst, op, type, pos, after, guard⟩ := o
  dsimp only at ho
  subst ho
  refine .inl ?_
  simp only [execOp, e0]
  go_simp
theorem ov_neq_int_c {s : Tmp} {a c : Int} {b : Bool} {ty : TypeId} (ho : o.op = .binOp .neq 3 (.tmp s) (.const (.int .i64 c)) ty) (h0 : vals.lookup s = some (.int .i64 a)) (hb : (a != c) = b) : OpVal Tryd.prog o vals w (.bool b) := fun b' W hg hr => by
  have e0 := hr s _ (by rw [ho]; simp [Op.operands]) h0
  subst hb
  obtain ⟨dst, op, type, pos, after, guard⟩ := o
  dsimp only at ho
  subst ho
  refine .inl ?_
  simp only [execOp, e0]
  go_simp
theorem ov_eql_errno {s i : Tmp} {a c : Int} {b : Bool} {ty : TypeId} (ho : o.op = .binOp .eql 29 (.tmp s) (.tmp i) ty) (h0 : vals.lookup s = some (.int .i64 a)) (h1 : vals.lookup i = some (.int .i64 c)) (hb : (a == c) = b) : OpVal Tryd.prog o vals w (.bool b) := fun b' W hg hr => by
  have e0 := hr s _ (by rw [ho]; simp [Op.operands]) h0
  have e1 := hr i _ (by rw [ho]; simp [Op.operands]) h1
  subst hb
  obtain ⟨dst, op, type, pos, after, guard⟩ := o
  dsimp only at ho
  subst ho
  refine .inl ?_
  simp only [execOp, e0, e1]
  go_simp
theorem ov_eql_errno_c {s : Tmp} {a c : Int} {b : Bool} {ty : TypeId} (ho : o.op = .binOp .eql 29 (.tmp s) (.const (.int .i64 c)) ty) (h0 : vals.lookup s = some (.int .i64 a)) (hb : (a == c) = b) : OpVal Tryd.prog o vals w (.bool b) := fun b' W hg hr => by
  have e0 := hr s _ (by rw [ho]; simp [Op.operands]) h0
  subst hb
  obtain ⟨dst, op, type, pos, after, guard⟩ := o
  dsimp only at ho
  subst ho
  refine .inl ?_
  simp only [execOp, e0]
  go_simp
theorem ov_neq_errno {s i : Tmp} {a c : Int} {b : Bool} {ty : TypeId} (ho : o.op = .binOp .neq 29 (.tmp s) (.tmp i) ty) (h0 : vals.lookup s = some (.int .i64 a)) (h1 : vals.lookup i = some (.int .i64 c)) (hb : (a != c) = b) : OpVal Tryd.prog o vals w (.bool b) := fun b' W hg hr => by
  have e0 := hr s _ (by rw [ho]; simp [Op.operands]) h0
  have e1 := hr i _ (by rw [ho]; simp [Op.operands]) h1
  subst hb
  obtain ⟨dst, op, type, pos, after, guard⟩ := o
  dsimp only at ho
  subst ho
  refine .inl ?_
  simp only [execOp, e0, e1]
  go_simp
theorem ov_neq_errno_c {s : Tmp} {a c : Int} {b : Bool} {ty : TypeId} (ho : o.op = .binOp .neq 29 (.tmp s) (.const (.int .i64 c)) ty) (h0 : vals.lookup s = some (.int .i64 a)) (hb : (a != c) = b) : OpVal Tryd.prog o vals w (.bool b) := fun b' W hg hr => by
  have e0 := hr s _ (by rw [ho]; simp [Op.operands]) h0
  subst hb
  obtain ⟨dst, op, type, pos, after, guard⟩ := o
  dsimp only at ho
  subst ho
  refine .inl ?_
  simp only [execOp, e0]
  go_simp
theorem ov_lss {s i : Tmp} {a c : Int} {b : Bool} {ty : TypeId} (ho : o.op = .binOp .lss 3 (.tmp s) (.tmp i) ty) (h0 : vals.lookup s = some (.int .i64 a)) (h1 : vals.lookup i = some (.int .i64 c)) (hb : decide (a < c) = b) : OpVal Tryd.prog o vals w (.bool b) := fun b' W hg hr => by
  have e0 := hr s _ (by rw [ho]; simp [Op.operands]) h0
  have e1 := hr i _ (by rw [ho]; simp [Op.operands]) h1
  subst hb
  obtain ⟨dst, op, type, pos, after, guard⟩ := o
  dsimp only at ho
  subst ho
  refine .inl ?_
  simp only [execOp, e0, e1]
  go_simp
theorem ov_lss_c {s : Tmp} {a c : Int} {b : Bool} {ty : TypeId} (ho : o.op = .binOp .lss 3 (.tmp s) (.const (.int .i64 c)) ty) (h0 : vals.lookup s = some (.int .i64 a)) (hb : decide (a < c) = b) : OpVal Tryd.prog o vals w (.bool b) := fun b' W hg hr => by
  have e0 := hr s _ (by rw [ho]; simp [Op.operands]) h0
  subst hb
  obtain ⟨dst, op, type, pos, after, guard⟩ := o
  dsimp only at ho
  subst ho
  refine .inl ?_
  simp only [execOp, e0]
  go_simp
theorem ov_geq {s i : Tmp} {a c : Int} {b : Bool} {ty : TypeId} (ho : o.op = .binOp .geq 3 (.tmp s) (.tmp i) ty) (h0 : vals.lookup s = some (.int .i64 a)) (h1 : vals.lookup i = some (.int .i64 c)) (hb : decide (a ≥ c) = b) : OpVal Tryd.prog o vals w (.bool b) := fun b' W hg hr => by
  have e0 := hr s _ (by rw [ho]; simp [Op.operands]) h0
  have e1 := hr i _ (by rw [ho]; simp [Op.operands]) h1
  subst hb
  obtain ⟨dst, op, type, pos, after, guard⟩ := o
  dsimp only at ho
  subst ho
  refine .inl ?_
  simp only [execOp, e0, e1]
  go_simp
theorem ov_geq_c {s : Tmp} {a c : Int} {b : Bool} {ty : TypeId} (ho : o.op = .binOp .geq 3 (.tmp s) (.const (.int .i64 c)) ty) (h0 : vals.lookup s = some (.int .i64 a)) (hb : decide (a ≥ c) = b) : OpVal Tryd.prog o vals w (.bool b) := fun b' W hg hr => by
  have e0 := hr s _ (by rw [ho]; simp [Op.operands]) h0
  subst hb
  obtain ⟨dst, op, type, pos, after, guard⟩ := o
  dsimp only at ho
  subst ho
  refine .inl ?_
  simp only [execOp, e0]
  go_simp
theorem ov_gtr {s i : Tmp} {a c : Int} {b : Bool} {ty : TypeId} (ho : o.op = .binOp .gtr 3 (.tmp s) (.tmp i) ty) (h0 : vals.lookup s = some (.int .i64 a)) (h1 : vals.lookup i = some (.int .i64 c)) (hb : decide (a > c) = b) : OpVal Tryd.prog o vals w (.bool b) := fun b' W hg hr => by
  have e0 := hr s _ (by rw [ho]; simp [Op.operands]) h0
  have e1 := hr i _ (by rw [ho]; simp [Op.operands]) h1
  subst hb
  obtain ⟨dst, op, type, pos, after, guard⟩ := o
  dsimp only at ho
  subst ho
  refine .inl ?_
  simp only [execOp, e0, e1]
  go_simp
theorem ov_add_b {s i : Tmp} {a c : Int} {ty : TypeId} (ho : o.op = .binOp .add 3 (.tmp s) (.tmp i) ty) (h0 : vals.lookup s = some (.int .i64 a)) (h1 : vals.lookup i = some (.int .i64 c)) (k0 : -1000000000 ≤ a) (k1 : a ≤ 1000000000) (k2 : -1000000000 ≤ c) (k3 : c ≤ 1000000000) : OpVal Tryd.prog o vals w (.int .i64 (a + c)) := fun b' W hg hr => by
  have e0 := hr s _ (by rw [ho]; simp [Op.operands]) h0
  have e1 := hr i _ (by rw [ho]; simp [Op.operands]) h1
  have hw : IntKind.i64.wrap (a + c) = a + c := IntWalk.i64_in _ ⟨by omega, by omega⟩
  obtain ⟨dst, op, type, pos, after, guard⟩ := o
  dsimp only at ho
  subst ho
  refine .inl ?_
  simp only [execOp, e0, e1]
  go_simp
theorem ov_len_ints {s : Tmp} {A : Option Addr} {n c : Nat} (ho : o.op = .call { callee := .builtin .len, args := #[.tmp s], argTypes := #[22] }) (h0 : vals.lookup s = some (.slice A n c)) : OpVal Tryd.prog o vals w (.int .i64 (n : Int)) := fun b' W _ hr => by
  have e0 := hr s _ (by rw [ho]; simp [Op.operands, Call.operands]) h0
  obtain ⟨dst, op, type, pos, after, guard⟩ := o
  dsimp only at ho
  subst ho
  have e1 : b'.tmps[s]?.getD undef = .slice A n c := by simpa [Act.eval] using e0
  refine .inl ?_
  simp only [execOp]
  go_simp
/-- A call of no arguments. -/
theorem ov_call0 {f : FuncId} {r : Value} {ts : Array TypeId} (ho : o.op = .call { callee := .value (.func f), args := #[], argTypes := ts }) (hrun : ∀ W, (callFunc f #[]).run Tryd.prog W = .ok (.enter f #[]) W)
    (hc : ∀ W, w.grownBy W none → Calls Tryd.prog f #[] W fun e w'' => e = .returned r ∧ W.grownBy w'' none) : OpVal Tryd.prog o vals w r := fun b W hg hr => by
  obtain ⟨dst, op, type, pos, after, guard⟩ := o
  dsimp only at ho
  subst ho
  refine .inr ⟨f, #[], ?_, hc W hg⟩
  simp [execOp, resolve, Deferred.ofValue, invoke, Act.eval, hrun W]
end

/-! ### The law, for long regions: what is there ahead, and what is made -/
def InitOk (a : Act) : List (Tmp × Value) → Prop
  | [] => True
  | p :: l => a.tmps.getD p.1 undef = p.2 ∧ InitOk a l
theorem InitOk.at_ {a : Act} : ∀ {l : List (Tmp × Value)}, InitOk a l → ∀ p ∈ l, a.tmps.getD p.1 undef = p.2
  | p :: l, h, q, hq => by
    rcases List.mem_cons.1 hq with rfl | hq
    · exact h.1
    · exact h.2.at_ q hq
theorem region_known {P : Program} {ops : Array Oper} {Q : Exit → Act → World → Prop} {id : Nat} {a : Act} {w : World} (hm : P.follows .mixedOrders = true) (made init : List (Tmp × Value)) (hok : regOkG (made ++ init) ops = true) (ds : List Tmp) (hds : dstsOf ops = ds) (hlt : (ds.all fun t => decide (t < a.tmps.size)) = true) (hdn : ds.Nodup)
    (hmd : (made.all fun p => ds.contains p.1) = true) (h0 : InitOk a init)
    (hops : AllOps (fun _ o => ∀ t c, o.dst = some t → (made ++ init).lookup t = some c → OpVal P o (made ++ init) w c) ops.toList 0)
    (hQ : ∀ (vs : Tmp → Value) (W : World), w.grownBy W none → (∀ t v, (made ++ init).lookup t = some v → t ∈ ds → vs t = v) →
      Q .normal { a with tmps := ds.foldl (fun (ts : Array Value) t => ts.setIfInBounds t (vs t)) a.tmps } W) :
    (Code.region id ops true).wp P Q a w :=
  region_guards hm (made ++ init) hok ds hds hlt hdn (fun p hp hn => by
    rcases List.mem_append.1 hp with hp | hp
    · exact absurd (by simpa using List.all_eq_true.1 hmd p hp) hn
    · exact h0.at_ p hp) hops hQ
end Go.Proofs.YtmbdaenjeeklfaaDoor

/- What single operations of stage 8 answer, in a region that draws its order. No walk. -/
namespace Go.Proofs.YtmbdaenjeeklfaaDoor
open Go.RowKit

section
variable {vals : List (Tmp × Value)} {w : World} {o : Oper}
theorem ov_not {t : Tmp} {a c : Bool} {ty : TypeId} (ho : o.op = .unOp .not ty (.tmp t)) (h0 : vals.lookup t = some (.bool a)) (hb : (!a) = c) : OpVal Tryd.prog o vals w (.bool c) := fun b' W hg hr => by
  have e0 := hr t _ (by rw [ho]; simp [Op.operands]) h0
  obtain ⟨dst, op, type, pos, after, guard⟩ := o
  dsimp only at ho
  subst ho
  subst hb
  refine .inl ?_
  simp only [execOp, e0]
  go_simp
theorem ov_add_w {s i : Tmp} {a c : Int} {ty : TypeId} (ho : o.op = .binOp .add 3 (.tmp s) (.tmp i) ty) (h0 : vals.lookup s = some (.int .i64 a)) (h1 : vals.lookup i = some (.int .i64 c)) : OpVal Tryd.prog o vals w (.int .i64 (wrap64 (a + c))) := fun b' W hg hr => by
  have e0 := hr s _ (by rw [ho]; simp [Op.operands]) h0
  have e1 := hr i _ (by rw [ho]; simp [Op.operands]) h1
  obtain ⟨dst, op, type, pos, after, guard⟩ := o
  dsimp only at ho
  subst ho
  refine .inl ?_
  simp only [execOp, e0, e1]
  go_simp
  unfold wrap64
  exact IntKind.wrap_i64 _
end
/-- Two boxes that a region made. -/
def BoxesB (W0 : World) (t : TypeId) (cs ds : Array Value) (x y : Value) (W : World) : Prop := ∃ Bx By, x = .pointer (some ⟨Bx, 0, none⟩) ∧ y = .pointer (some ⟨By, 0, none⟩) ∧ Bx ≠ By ∧ Blk W Bx t cs ∧ Blk W By t ds ∧ W0.grownBy W none
end Go.Proofs.YtmbdaenjeeklfaaDoor

/- A region that draws its order, whose operations read, call and make memory, some guarded by Booleans that are known; of some slots their values are known ahead, of others a predicate that growth keeps: in whatever order, at the end each operation that is wanted has answered so. No program. -/
namespace Go.Proofs.YtmbdaenjeeklfaaDoor
open Go.RowKit

abbrev VP := Value → World → Prop
def AllV (f : Tmp → VP → Prop) : List (Tmp × VP) → Prop
  | [] => True
  | p :: l => f p.1 p.2 ∧ AllV f l
theorem AllV.at_ {f : Tmp → VP → Prop} : ∀ {l : List (Tmp × VP)}, AllV f l → ∀ {t : Tmp} {p : VP}, l.lookup t = some p → f t p
  | q :: l, h, t, p, hp => by
    rw [List.lookup_cons] at hp
    split at hp
    · rename_i e
      injection hp with hp
      subst hp
      have := eq_of_beq e
      subst this
      exact h.1
    · exact h.2.at_ hp
def KeepsV (_ : Tmp) (p : VP) : Prop := ∀ v W W', p v W → W.grownBy W' none → p v W'
def inW (vals : List (Tmp × Value)) (xs : List Tmp) (t : Tmp) : Bool := (vals.lookup t).isSome || xs.contains t
def guardOkX (vals : List (Tmp × Value)) (xs : List Tmp) (ops : Array Oper) (o : Oper) : Bool := match o.guard with
  | none => match o.dst with
    | some t => inW vals xs t
    | none => false
  | some (j, want) => (o.after.toList.any fun e => Region.binds .any e && e.on == j) && (match (((ops[j]?).bind (·.dst)).bind fun t => vals.lookup t) with
    | some (.bool c) => (match o.dst with
      | some t => if c == want then inW vals xs t else !inW vals xs t
      | none => false)
    | _ => false)
def depsX (vals : List (Tmp × Value)) (xs : List Tmp) (ops : Array Oper) (o : Oper) : Bool := o.op.operands.toList.all fun
  | .tmp t => (!inW vals xs t) || (ops.toList.all fun oj => oj.dst != some t) || o.after.toList.any fun e => Region.binds .any e && ((ops[e.on]?).bind (·.dst) == some t)
  | _ => true
def regOkX (vals : List (Tmp × Value)) (xs : List Tmp) (ops : Array Oper) : Bool := ops.toList.zipIdx.all fun (o, i) => guardOkX vals xs ops o && (o.after.toList.all fun e => !Region.binds .any e || decide (e.on < i)) && depsX vals xs ops o
section
variable {vals : List (Tmp × Value)} {xs : List Tmp} {ops : Array Oper}
theorem regOkX_at (h : regOkX vals xs ops = true) {i : Nat} {o : Oper} (hi : ops[i]? = some o) : guardOkX vals xs ops o = true ∧ (∀ e ∈ o.after, Region.binds .any e = true → e.on < i) ∧ depsX vals xs ops o = true := by
  unfold regOkX at h
  rw [List.all_eq_true] at h
  have h1 := h (o, i) (List.mem_iff_getElem?.2 ⟨i, by rw [List.getElem?_zipIdx, Array.getElem?_toList, hi]; simp⟩)
  simp only [Bool.and_eq_true, List.all_eq_true, Bool.or_eq_true, Bool.not_eq_true', decide_eq_true_eq] at h1
  refine ⟨h1.1.1, fun e he hb => ?_, h1.2⟩
  rcases h1.1.2 e (Array.mem_toList_iff.2 he) with h2 | h2
  · rw [hb] at h2; cases h2
  · exact h2
theorem all_listedX (hok : regOkX vals xs ops = true) {listed : Array Bool} (hs : listed.size = ops.size) (hr : Region.ready .any ops listed = []) : ∀ i, i < ops.size → listed.getD i false = true := by
  intro i
  induction i using Nat.strongRecOn with
  | _ i ih =>
    intro hi
    cases hl : listed.getD i false with
    | true => rfl
    | false =>
      have ho : ops[i]? = some ops[i] := Array.getElem?_eq_getElem hi
      have hm : i ∈ Region.ready .any ops listed := mem_ready.2 ⟨by simpa [hs, hi] using hl, ops[i], ho, fun e he hb => by
        have := (regOkX_at hok ho).2.1 e he hb
        exact ih e.on this (by omega)⟩
      rw [hr] at hm
      cases hm
/-- An operation is wanted, and answers; or it is not wanted. -/
theorem guard_casesX {o : Oper} (h : guardOkX vals xs ops o = true) {listed : Array Bool} {tmps : Array Value} (hall : ∀ e ∈ o.after, Region.binds .any e = true → listed.getD e.on false = true)
    (hv : ∀ (i : Nat) (oi : Oper) (t : Tmp) (c : Value), listed.getD i false = true → ops[i]? = some oi → oi.dst = some t → vals.lookup t = some c → tmps.getD t undef = c) :
    ∃ t, o.dst = some t ∧ (Region.wanted o (yielded ops tmps) = true ∧ inW vals xs t = true ∨ Region.wanted o (yielded ops tmps) = false ∧ inW vals xs t = false) := by
  unfold guardOkX at h
  cases hg : o.guard with
  | none =>
    rw [hg] at h
    dsimp only at h
    cases ht : o.dst with
    | none => rw [ht] at h; cases h
    | some t =>
      rw [ht] at h
      exact ⟨t, rfl, .inl ⟨by simp [Region.wanted, hg], h⟩⟩
  | some p =>
    obtain ⟨j, want⟩ := p
    rw [hg] at h
    dsimp only at h
    rw [Bool.and_eq_true, List.any_eq_true] at h
    obtain ⟨⟨e, he, hb⟩, h2⟩ := h
    simp only [Bool.and_eq_true, beq_iff_eq] at hb
    have hl := hall e (Array.mem_toList_iff.1 he) hb.1
    rw [hb.2] at hl
    split at h2
    · rename_i c hc
      obtain ⟨tj, htj, hc⟩ := Option.bind_eq_some_iff.1 hc
      obtain ⟨oj, hoj, htj⟩ := Option.bind_eq_some_iff.1 htj
      cases ht : o.dst with
      | none => rw [ht] at h2; cases h2
      | some t =>
        rw [ht] at h2
        dsimp only at h2
        have hw := hv j oj tj (.bool c) hl hoj htj hc
        have hy : yielded ops tmps j = some c := by
          unfold yielded
          have hlt : tj < tmps.size := by
            rcases Nat.lt_or_ge tj tmps.size with h | h
            · exact h
            · have hn : ¬ tj < tmps.size := Nat.not_lt.2 h
              simp [Array.getD_eq_getD_getElem?, hn] at hw
              cases hw
          have hx : tmps[tj]? = some (.bool c) := by
            rw [Array.getD_eq_getD_getElem?, Array.getElem?_eq_getElem hlt] at hw
            rw [Array.getElem?_eq_getElem hlt]
            exact congrArg some hw
          simp [hoj, htj, hx]
        refine ⟨t, rfl, ?_⟩
        by_cases hcw : c = want
        · rw [if_pos (by simp [hcw])] at h2
          exact .inl ⟨by simp [Region.wanted, hg, hy, hcw], h2⟩
        · rw [if_neg (by simp [hcw])] at h2
          exact .inr ⟨by simp [Region.wanted, hg, hy, hcw], by simpa using h2⟩
    · cases h2
end
/-- What an operation owes that fills slot t. -/
def OpP (P : Program) (o : Oper) (vals : List (Tmp × Value)) (ex : List (Tmp × VP)) (w : World) (p : VP) : Prop :=
  ∀ (b : Act) (W : World), w.grownBy W none → (∀ t v, Operand.tmp t ∈ o.op.operands → vals.lookup t = some v → b.eval (.tmp t) = v) → (∀ t q, Operand.tmp t ∈ o.op.operands → ex.lookup t = some q → q (b.eval (.tmp t)) W) →
    (∃ x W', (execOp b.eval o).run P W = .ok (.value x) W' ∧ W.grownBy W' none ∧ p x W') ∨ ∃ f args, (execOp b.eval o).run P W = .ok (.enter f args) W ∧ Calls P f args W fun e w'' => ∃ x, e = .returned x ∧ W.grownBy w'' none ∧ p x w''
def SlotP (vals : List (Tmp × Value)) (ex : List (Tmp × VP)) (t : Tmp) : VP := fun x W => (∀ c, vals.lookup t = some c → x = c) ∧ (∀ p, ex.lookup t = some p → p x W)
def OpB (P : Program) (o : Oper) (vals : List (Tmp × Value)) (ex : List (Tmp × VP)) (w : World) : Prop := ∃ t, o.dst = some t ∧ (inW vals (ex.map (·.1)) t = true → OpP P o vals ex w (SlotP vals ex t))

theorem region_both {P : Program} {ops : Array Oper} {Q : Exit → Act → World → Prop} {id : Nat} {a : Act} {w : World} (hm : P.follows .mixedOrders = true) (made init : List (Tmp × Value)) (ex : List (Tmp × VP)) (hk : AllV KeepsV ex) (hok : regOkX (made ++ init) (ex.map (·.1)) ops = true) (ds : List Tmp) (hds : dstsOf ops = ds) (hlt : (ds.all fun t => decide (t < a.tmps.size)) = true) (hdn : ds.Nodup)
    (hmd : (made.all fun p => ds.contains p.1) = true) (hxd : ((ex.map (·.1)).all fun t => ds.contains t) = true) (h0 : InitOk a init)
    (hops : AllOps (fun _ o => OpB P o (made ++ init) ex w) ops.toList 0)
    (hQ : ∀ (vs : Tmp → Value) (W : World), w.grownBy W none → (∀ t v, (made ++ init).lookup t = some v → t ∈ ds → vs t = v) → (∀ t p, ex.lookup t = some p → p (vs t) W) →
      Q .normal { a with tmps := ds.foldl (fun (ts : Array Value) t => ts.setIfInBounds t (vs t)) a.tmps } W) :
    (Code.region id ops true).wp P Q a w := by
  have h0' : ∀ p ∈ made ++ init, p.1 ∉ ds → a.tmps.getD p.1 undef = p.2 := fun p hp hn => by
    rcases List.mem_append.1 hp with hp | hp
    · exact absurd (by simpa using List.all_eq_true.1 hmd p hp) hn
    · exact h0.at_ p hp
  have hxd' : ∀ t p, ex.lookup t = some p → t ∈ ds := fun t p h => by
    have : t ∈ ex.map (·.1) := by
      clear hok hops hQ hk hxd
      induction ex with
      | nil => cases h
      | cons q l ih =>
        rw [List.lookup_cons] at h
        split at h
        · rename_i e
          rw [eq_of_beq e]
          simp
        · simp only [List.map_cons, List.mem_cons]
          exact .inr (ih h)
    simpa using List.all_eq_true.1 hxd t this
  generalize hvs : made ++ init = vals at *
  clear h0 hmd hvs
  subst hds
  have hu : ∀ (i j : Nat) (oi oj : Oper) (t : Tmp), ops[i]? = some oi → ops[j]? = some oj → oi.dst = some t → oj.dst = some t → i = j := fun i j oi oj t hi hj ei ej =>
    nodup_at hdn (by rw [Array.getElem?_toList]; exact hi) (by rw [Array.getElem?_toList]; exact hj) ei ej
  have hdl : ∀ t ∈ dstsOf ops, t < a.tmps.size := fun t ht => by simpa using List.all_eq_true.1 hlt t ht
  have hxs : ∀ t p, ex.lookup t = some p → (ex.map (·.1)).contains t = true := fun t p h => by
    clear hok hops hQ hk hxd hxd'
    induction ex with
    | nil => cases h
    | cons q l ih =>
      rw [List.lookup_cons] at h
      split at h
      · rename_i e
        rw [eq_of_beq e]
        simp
      · have := ih h
        simp only [List.map_cons, List.contains_cons, Bool.or_eq_true]
        exact .inr this
  refine wp_region_any hm (wpAny_inv (fun listed b W => w.grownBy W none ∧ b.defers = a.defers ∧ b.tmps.size = a.tmps.size ∧ (∀ t, t ∉ dstsOf ops → b.tmps[t]? = a.tmps[t]?) ∧
    (∀ (i : Nat) (o : Oper) (t : Tmp), listed.getD i false = true → ops[i]? = some o → o.dst = some t → SlotP vals ex t (b.tmps.getD t undef) W)) ?_ ?_ ops.size _ _ _ (by simp) (by
      have := List.countP_le_length (p := (! ·)) (l := (Array.replicate ops.size false).toList)
      simpa using this) ?_)
  · rintro listed b W hs ⟨i1, i2, i3, i4, i5⟩ i hi
    obtain ⟨hni, o, ho, hall⟩ := mem_ready.1 hi
    have hil : i < ops.size := (Array.getElem?_eq_some_iff.1 ho).1
    obtain ⟨g1, g2, g3⟩ := regOkX_at hok ho
    have hdep : ∀ t, Operand.tmp t ∈ o.op.operands → inW vals (ex.map (·.1)) t = true → t ∉ dstsOf ops ∨ ∃ j oj, listed.getD j false = true ∧ ops[j]? = some oj ∧ oj.dst = some t := fun t ht hin => by
      unfold depsX at g3
      rw [List.all_eq_true] at g3
      have h1 := g3 (.tmp t) (Array.mem_toList_iff.2 ht)
      simp only [Bool.or_eq_true, List.all_eq_true, List.any_eq_true, Bool.and_eq_true, bne_iff_ne, ne_eq, beq_iff_eq, hin, Bool.not_true, Bool.false_eq_true, false_or] at h1
      rcases h1 with h1 | ⟨e, he, hb, hx⟩
      · exact .inl fun hm => by
          obtain ⟨i, oi, hi, e⟩ := mem_dsts.1 hm
          exact h1 oi (List.mem_iff_getElem?.2 ⟨i, by rw [Array.getElem?_toList]; exact hi⟩) e
      · obtain ⟨oj, hoj, e1⟩ := Option.bind_eq_some_iff.1 hx
        exact .inr ⟨e.on, oj, hall e (Array.mem_toList_iff.1 he) hb, hoj, e1⟩
    have henv : ∀ t v, Operand.tmp t ∈ o.op.operands → vals.lookup t = some v → b.eval (.tmp t) = v := fun t v ht hv => by
      rcases hdep t ht (by simp [inW, hv]) with h4 | ⟨j, oj, h1, h2, h3⟩
      · show b.tmps.getD t undef = v
        rw [Array.getD_eq_getD_getElem?, i4 t h4, ← Array.getD_eq_getD_getElem?]
        exact h0' (t, v) (lookup_mem hv) h4
      · exact (i5 j oj t h1 h2 h3).1 v hv
    have henx : ∀ t q, Operand.tmp t ∈ o.op.operands → ex.lookup t = some q → q (b.eval (.tmp t)) W := fun t q ht hq => by
      rcases hdep t ht (by unfold inW; rw [hxs t q hq]; simp) with h4 | ⟨j, oj, h1, h2, h3⟩
      · exact absurd (hxd' t q hq) h4
      · exact (i5 j oj t h1 h2 h3).2 q hq
    have hset : ∀ j, i ≠ j → (listed.setIfInBounds i true).getD j false = listed.getD j false := fun j hij => getD_set_ne false hij
    obtain ⟨t, htd, hcase⟩ := guard_casesX g1 hall (fun j oj t c h1 h2 h3 h4 => (i5 j oj t h1 h2 h3).1 c h4)
    have key : ∀ (x : Value) W', W.grownBy W' none → SlotP vals ex t x W' → w.grownBy W' none ∧ (b.put o.dst x).defers = a.defers ∧ (b.put o.dst x).tmps.size = a.tmps.size ∧ (∀ t, t ∉ dstsOf ops → (b.put o.dst x).tmps[t]? = a.tmps[t]?) ∧
        (∀ (j : Nat) (oj : Oper) (t' : Tmp), (listed.setIfInBounds i true).getD j false = true → ops[j]? = some oj → oj.dst = some t' → SlotP vals ex t' ((b.put o.dst x).tmps.getD t' undef) W') := fun x W' hg hx => by
      refine ⟨only_trans i1 hg, by rw [htd]; exact i2, by simp [Act.put, htd, i3], fun t' ht' => ?_, fun j oj t' hl hoj e1 => ?_⟩
      · have hne : t ≠ t' := fun e => ht' (mem_dsts.2 ⟨i, o, ho, by rw [htd, e]⟩)
        rw [htd]
        simp only [Act.put]
        rw [Array.getElem?_setIfInBounds_ne hne]
        exact i4 t' ht'
      · by_cases hij : i = j
        · subst hij
          rw [ho] at hoj
          obtain rfl := Option.some.inj hoj
          rw [htd] at e1
          obtain rfl := Option.some.inj e1
          have : t < b.tmps.size := by rw [i3]; exact hdl t (mem_dsts.2 ⟨i, o, ho, htd⟩)
          rw [htd, show (b.put (some t) x).tmps.getD t undef = x by simp [Act.put, this]]
          exact hx
        · have hne : t ≠ t' := fun e => hij (hu i j o oj t ho hoj htd (by rw [e]; exact e1))
          rw [hset j hij] at hl
          rw [htd]
          simp only [Act.put]
          rw [Array.getD_eq_getD_getElem?, Array.getElem?_setIfInBounds_ne hne, ← Array.getD_eq_getD_getElem?]
          obtain ⟨k1, k2⟩ := i5 j oj t' hl hoj e1
          exact ⟨k1, fun p hp => hk.at_ hp _ _ _ (k2 p hp) hg⟩
    unfold wpOp
    simp only [ho]
    rcases hcase with ⟨hw, hc⟩ | ⟨hw, hc⟩
    · rw [if_pos hw]
      refine .inl ?_
      obtain ⟨t2, ht2, hop⟩ := hops.at_ i o (by rw [Array.getElem?_toList]; exact ho)
      rw [htd] at ht2
      obtain rfl := Option.some.inj ht2
      unfold Oper.wp
      rcases hop hc b W i1 henv henx with ⟨x, W', h, hg, hx⟩ | ⟨f, args, h, hcall⟩
      · rw [h, Oper.upon_value]
        exact key x W' hg hx
      · rw [h, Oper.upon_enter]
        refine hcall.mono ?_
        rintro e w'' ⟨x, rfl, hg, hx⟩
        exact key x w'' hg hx
    · rw [if_neg (by rw [hw]; decide)]
      refine key undef W (only_refl _ _) ⟨fun c hc' => ?_, fun p hp => ?_⟩
      · unfold inW at hc; rw [hc'] at hc; simp at hc
      · unfold inW at hc; rw [hxs t p hp] at hc; simp at hc
  · rintro listed b W hs ⟨i1, i2, i3, i4, i5⟩ hr
    have hl := all_listedX hok hs hr
    have hlo : ∀ {i o}, ops[i]? = some o → listed.getD i false = true := fun h => hl _ (Array.getElem?_eq_some_iff.1 h).1
    have hb : b = { a with tmps := (dstsOf ops).foldl (fun (ts : Array Value) t => ts.setIfInBounds t (b.tmps.getD t undef)) a.tmps } := by
      obtain ⟨bt, bd⟩ := b
      obtain ⟨at_, ad⟩ := a
      simp only [Act.mk.injEq]
      refine ⟨?_, i2⟩
      apply Array.ext_getElem?
      intro t
      dsimp only at i3 i4
      rw [foldSet]
      by_cases h1 : t ∈ dstsOf ops
      · by_cases h2 : t < at_.size
        · have : t < bt.size := by omega
          simp [h1, h2, this]
        · simp [h2, i3]
      · simp only [h1, false_and, if_false]
        exact i4 t h1
    rw [hb]
    refine hQ (fun t => b.tmps.getD t undef) W i1 (fun t v hv ht => ?_) (fun t p hp => ?_)
    · obtain ⟨i, o, ho, e⟩ := mem_dsts.1 ht
      exact (i5 i o t (hlo ho) ho e).1 v hv
    · obtain ⟨i, o, ho, e⟩ := mem_dsts.1 (hxd' t p hp)
      exact (i5 i o t (hlo ho) ho e).2 p hp
  · have hno : ∀ j, (Array.replicate ops.size false).getD j false = false := fun j => by
      simp only [Array.getD_eq_getD_getElem?, Array.getElem?_replicate]
      split <;> rfl
    refine ⟨only_drew (only_refl w none), rfl, rfl, fun _ _ => rfl, fun i o t hl => ?_⟩
    rw [hno] at hl; cases hl

/-! ### What single operations owe -/
section
variable {P : Program} {vals : List (Tmp × Value)} {ex : List (Tmp × VP)} {w : World} {o : Oper}
/-- A value that is known. -/
theorem obv {t : Tmp} {c : Value} (ho : o.dst = some t) (hv : vals.lookup t = some c) (hx : ex.lookup t = none) (h : OpVal P o vals w c) : OpB P o vals ex w := ⟨t, ho, fun _ b W hg h1 _ => by
  have key : ∀ W', SlotP vals ex t c W' := fun W' => ⟨fun c' h' => by rw [hv] at h'; exact Option.some.inj h', fun p hp => by rw [hx] at hp; cases hp⟩
  rcases h b W hg h1 with h | ⟨f, args, h, hc⟩
  · exact .inl ⟨c, W, h, only_refl _ _, key W⟩
  · refine .inr ⟨f, args, h, hc.mono ?_⟩
    rintro e w'' ⟨rfl, hg⟩
    exact ⟨c, rfl, hg, key w''⟩⟩
/-- One of which a predicate is told. -/
theorem obx {t : Tmp} {p : VP} (ho : o.dst = some t) (hv : vals.lookup t = none) (hx : ex.lookup t = some p) (h : OpP P o vals ex w p) : OpB P o vals ex w := ⟨t, ho, fun _ b W hg h1 h2 => by
  have key : ∀ x W', p x W' → SlotP vals ex t x W' := fun x W' hp => ⟨fun c' h' => (by rw [hv] at h'; cases h'), fun q hq => (by rw [hx] at hq; obtain rfl := Option.some.inj hq; exact hp)⟩
  rcases h b W hg h1 h2 with ⟨x, W', h, hg, hp⟩ | ⟨f, args, h, hc⟩
  · exact .inl ⟨x, W', h, hg, key x W' hp⟩
  · refine .inr ⟨f, args, h, hc.mono ?_⟩
    rintro e w'' ⟨x, rfl, hg, hp⟩
    exact ⟨x, rfl, hg, key x w'' hp⟩⟩
/-- A known value that hangs on predicates. -/
theorem obp {t : Tmp} {c : Value} (ho : o.dst = some t) (hv : vals.lookup t = some c) (hx : ex.lookup t = none) (h : OpP P o vals ex w (fun v _ => v = c)) : OpB P o vals ex w := ⟨t, ho, fun _ b W hg h1 h2 => by
  have key : ∀ W', SlotP vals ex t c W' := fun W' => ⟨fun c' h' => by rw [hv] at h'; exact Option.some.inj h', fun p hp => by rw [hx] at hp; cases hp⟩
  rcases h b W hg h1 h2 with ⟨x, W', h, hg, he⟩ | ⟨f, args, h, hc⟩
  · exact .inl ⟨x, W', h, hg, he ▸ key W'⟩
  · refine .inr ⟨f, args, h, hc.mono ?_⟩
    rintro e w'' ⟨x, rfl, hg, he⟩
    exact ⟨x, rfl, hg, he ▸ key w''⟩⟩
/-- One that is not wanted. -/
theorem obs {t : Tmp} (ho : o.dst = some t) (hv : inW vals (ex.map (·.1)) t = false) : OpB P o vals ex w := ⟨t, ho, fun h => by rw [hv] at h; cases h⟩
end
end Go.Proofs.YtmbdaenjeeklfaaDoor

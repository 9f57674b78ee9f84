/- A region that draws its order, whose operations only read, call and make memory, and some of which are guarded by values that are known: in whatever order, at the end each operation that is wanted has answered its value. No program. -/
import Derived.Test.YtoklaajiajilhaaDoorTwo
namespace Go.Proofs.YtoklaajiajilhaaDoor
open Go.RowKit

def guardOk (vals : List (Tmp × Value)) (ops : Array Oper) (o : Oper) : Bool := match o.guard with
  | none => (o.dst.bind fun t => vals.lookup t).isSome
  | some (j, want) => (o.after.toList.any fun e => Region.binds .any e && e.on == j) && (match (((ops[j]?).bind (·.dst)).bind fun t => vals.lookup t) with
    | some (.bool c) => o.dst.isSome && (if c == want then (o.dst.bind fun t => vals.lookup t).isSome else (o.dst.bind fun t => vals.lookup t).isNone)
    | _ => false)
def depsG (vals : List (Tmp × Value)) (ops : Array Oper) (o : Oper) : Bool := o.op.operands.toList.all fun
  | .tmp t => (vals.lookup t).isNone || (ops.toList.all fun oj => oj.dst != some t) || o.after.toList.any fun e => Region.binds .any e && ((ops[e.on]?).bind (·.dst) == some t)
  | _ => true
def regOkG (vals : List (Tmp × Value)) (ops : Array Oper) : Bool := ops.toList.zipIdx.all fun (o, i) => guardOk vals ops o && (o.after.toList.all fun e => !Region.binds .any e || decide (e.on < i)) && depsG vals ops o
section
variable {vals : List (Tmp × Value)} {ops : Array Oper}
theorem regOkG_at (h : regOkG vals ops = true) {i : Nat} {o : Oper} (hi : ops[i]? = some o) : guardOk vals ops o = true ∧ (∀ e ∈ o.after, Region.binds .any e = true → e.on < i) ∧ depsG vals ops o = true := by
  unfold regOkG at h
  rw [List.all_eq_true] at h
  have h1 := h (o, i) (List.mem_iff_getElem?.2 ⟨i, by rw [List.getElem?_zipIdx, Array.getElem?_toList, hi]; simp⟩)
  simp only [Bool.and_eq_true, List.all_eq_true, Bool.or_eq_true, Bool.not_eq_true', decide_eq_true_eq] at h1
  refine ⟨h1.1.1, fun e he hb => ?_, h1.2⟩
  rcases h1.1.2 e (Array.mem_toList_iff.2 he) with h2 | h2
  · rw [hb] at h2; cases h2
  · exact h2
theorem all_listedG (hok : regOkG vals ops = true) {listed : Array Bool} (hs : listed.size = ops.size) (hr : Region.ready .any ops listed = []) : ∀ i, i < ops.size → listed.getD i false = true := by
  intro i
  induction i using Nat.strongRecOn with
  | _ i ih =>
    intro hi
    cases hl : listed.getD i false with
    | true => rfl
    | false =>
      have ho : ops[i]? = some ops[i] := Array.getElem?_eq_getElem hi
      have hm : i ∈ Region.ready .any ops listed := mem_ready.2 ⟨by simpa [hs, hi] using hl, ops[i], ho, fun e he hb => by
        have := (regOkG_at hok ho).2.1 e he hb
        exact ih e.on this (by omega)⟩
      rw [hr] at hm
      cases hm
/-- An operation is wanted, and answers; or it is not wanted. -/
theorem guard_cases {o : Oper} (h : guardOk vals ops o = true) {listed : Array Bool} {tmps : Array Value} (hall : ∀ e ∈ o.after, Region.binds .any e = true → listed.getD e.on false = true)
    (hv : ∀ (i : Nat) (oi : Oper) (t : Tmp) (c : Value), listed.getD i false = true → ops[i]? = some oi → oi.dst = some t → vals.lookup t = some c → tmps.getD t undef = c) :
    ∃ t, o.dst = some t ∧ (Region.wanted o (yielded ops tmps) = true ∧ (∃ c, vals.lookup t = some c) ∨ Region.wanted o (yielded ops tmps) = false ∧ vals.lookup t = none) := by
  unfold guardOk at h
  cases hg : o.guard with
  | none =>
    rw [hg] at h
    dsimp only at h
    obtain ⟨c, hc⟩ := Option.isSome_iff_exists.1 h
    obtain ⟨t, ht, hc⟩ := Option.bind_eq_some_iff.1 hc
    exact ⟨t, ht, .inl ⟨by simp [Region.wanted, hg], c, hc⟩⟩
  | some p =>
    obtain ⟨j, want⟩ := p
    rw [hg] at h
    dsimp only at h
    rw [Bool.and_eq_true, List.any_eq_true] at h
    obtain ⟨⟨e, he, hb⟩, h2⟩ := h
    simp only [Bool.and_eq_true, beq_iff_eq] at hb
    have hl := hall e (Array.mem_toList_iff.1 he) hb.1
    rw [hb.2] at hl
    split at h2
    · rename_i c hc
      obtain ⟨tj, htj, hc⟩ := Option.bind_eq_some_iff.1 hc
      obtain ⟨oj, hoj, htj⟩ := Option.bind_eq_some_iff.1 htj
      rw [Bool.and_eq_true] at h2
      obtain ⟨t, ht⟩ := Option.isSome_iff_exists.1 h2.1
      have h3 := h2.2
      rw [ht, Option.bind_some] at h3
      have hw := hv j oj tj (.bool c) hl hoj htj hc
      have hy : yielded ops tmps j = some c := by
        unfold yielded
        have hlt : tj < tmps.size := by
          rcases Nat.lt_or_ge tj tmps.size with h | h
          · exact h
          · have hn : ¬ tj < tmps.size := Nat.not_lt.2 h
            simp [Array.getD_eq_getD_getElem?, hn] at hw
            cases hw
        have hx : tmps[tj]? = some (.bool c) := by
          rw [Array.getD_eq_getD_getElem?, Array.getElem?_eq_getElem hlt] at hw
          rw [Array.getElem?_eq_getElem hlt]
          exact congrArg some hw
        simp [hoj, htj, hx]
      refine ⟨t, ht, ?_⟩
      by_cases hcw : c = want
      · rw [if_pos (by simp [hcw])] at h3
        exact .inl ⟨by simp [Region.wanted, hg, hy, hcw], Option.isSome_iff_exists.1 h3⟩
      · rw [if_neg (by simp [hcw])] at h3
        exact .inr ⟨by simp [Region.wanted, hg, hy, hcw], by simpa using h3⟩
    · cases h2
end

theorem region_guards {P : Program} {ops : Array Oper} {Q : Exit → Act → World → Prop} {id : Nat} {a : Act} {w : World} (hm : P.follows .mixedOrders = true) (vals : List (Tmp × Value)) (hok : regOkG vals ops = true) (ds : List Tmp) (hds : dstsOf ops = ds) (hlt : (ds.all fun t => decide (t < a.tmps.size)) = true) (hdn : ds.Nodup)
    (h0 : ∀ p ∈ vals, p.1 ∉ ds → a.tmps.getD p.1 undef = p.2)
    (hops : AllOps (fun _ o => ∀ t c, o.dst = some t → vals.lookup t = some c → OpVal P o vals w c) ops.toList 0)
    (hQ : ∀ (vs : Tmp → Value) (W : World), w.grownBy W none → (∀ t v, vals.lookup t = some v → t ∈ ds → vs t = v) →
      Q .normal { a with tmps := ds.foldl (fun (ts : Array Value) t => ts.setIfInBounds t (vs t)) a.tmps } W) :
    (Code.region id ops true).wp P Q a w := by
  subst hds
  have hu : ∀ (i j : Nat) (oi oj : Oper) (t : Tmp), ops[i]? = some oi → ops[j]? = some oj → oi.dst = some t → oj.dst = some t → i = j := fun i j oi oj t hi hj ei ej =>
    nodup_at hdn (by rw [Array.getElem?_toList]; exact hi) (by rw [Array.getElem?_toList]; exact hj) ei ej
  have hdl : ∀ t ∈ dstsOf ops, t < a.tmps.size := fun t ht => by simpa using List.all_eq_true.1 hlt t ht
  refine wp_region_any hm (wpAny_inv (fun listed b W => w.grownBy W none ∧ b.defers = a.defers ∧ b.tmps.size = a.tmps.size ∧ (∀ t, t ∉ dstsOf ops → b.tmps[t]? = a.tmps[t]?) ∧
    (∀ (i : Nat) (o : Oper) (t : Tmp) (c : Value), listed.getD i false = true → ops[i]? = some o → o.dst = some t → vals.lookup t = some c → b.tmps.getD t undef = c)) ?_ ?_ ops.size _ _ _ (by simp) (by
      have := List.countP_le_length (p := (! ·)) (l := (Array.replicate ops.size false).toList)
      simpa using this) ?_)
  · rintro listed b W hs ⟨i1, i2, i3, i4, i5⟩ i hi
    obtain ⟨hni, o, ho, hall⟩ := mem_ready.1 hi
    have hil : i < ops.size := (Array.getElem?_eq_some_iff.1 ho).1
    obtain ⟨g1, g2, g3⟩ := regOkG_at hok ho
    have henv : ∀ t v, Operand.tmp t ∈ o.op.operands → vals.lookup t = some v → b.eval (.tmp t) = v := fun t v ht hv => by
      unfold depsG at g3
      rw [List.all_eq_true] at g3
      have h1 := g3 (.tmp t) (Array.mem_toList_iff.2 ht)
      simp only [Bool.or_eq_true, List.all_eq_true, List.any_eq_true, Bool.and_eq_true, bne_iff_ne, ne_eq, beq_iff_eq, hv, Option.isNone_some, Bool.false_eq_true, false_or] at h1
      rcases h1 with h1 | ⟨e, he, hb, hx⟩
      · have h4 : t ∉ dstsOf ops := fun hm => by
          obtain ⟨i, oi, hi, e⟩ := mem_dsts.1 hm
          exact h1 oi (List.mem_iff_getElem?.2 ⟨i, by rw [Array.getElem?_toList]; exact hi⟩) e
        have h5 := i4 t h4
        show b.tmps.getD t undef = v
        rw [Array.getD_eq_getD_getElem?, h5, ← Array.getD_eq_getD_getElem?]
        exact h0 (t, v) (lookup_mem hv) h4
      · obtain ⟨oj, hoj, e1⟩ := Option.bind_eq_some_iff.1 hx
        exact i5 e.on oj t v (hall e (Array.mem_toList_iff.1 he) hb) hoj e1 hv
    have hset : ∀ j, i ≠ j → (listed.setIfInBounds i true).getD j false = listed.getD j false := fun j hij => getD_set_ne false hij
    obtain ⟨t, htd, hcase⟩ := guard_cases g1 hall i5
    have key : ∀ (x : Value) W', W.grownBy W' none → (∀ c, vals.lookup t = some c → x = c) → w.grownBy W' none ∧ (b.put o.dst x).defers = a.defers ∧ (b.put o.dst x).tmps.size = a.tmps.size ∧ (∀ t, t ∉ dstsOf ops → (b.put o.dst x).tmps[t]? = a.tmps[t]?) ∧
        (∀ (j : Nat) (oj : Oper) (t' : Tmp) (c' : Value), (listed.setIfInBounds i true).getD j false = true → ops[j]? = some oj → oj.dst = some t' → vals.lookup t' = some c' → (b.put o.dst x).tmps.getD t' undef = c') := fun x W' hg hx => by
      refine ⟨only_trans i1 hg, by rw [htd]; exact i2, by simp [Act.put, htd, i3], fun t' ht' => ?_, fun j oj t' c' hl hoj e1 e2 => ?_⟩
      · have hne : t ≠ t' := fun e => ht' (mem_dsts.2 ⟨i, o, ho, by rw [htd, e]⟩)
        rw [htd]
        simp only [Act.put]
        rw [Array.getElem?_setIfInBounds_ne hne]
        exact i4 t' ht'
      · by_cases hij : i = j
        · subst hij
          rw [ho] at hoj
          obtain rfl := Option.some.inj hoj
          rw [htd] at e1
          obtain rfl := Option.some.inj e1
          have : t < b.tmps.size := by rw [i3]; exact hdl t (mem_dsts.2 ⟨i, o, ho, htd⟩)
          rw [htd, ← hx c' e2]
          simp [Act.put, this]
        · have hne : t ≠ t' := fun e => hij (hu i j o oj t ho hoj htd (by rw [e]; exact e1))
          rw [hset j hij] at hl
          rw [htd]
          simp only [Act.put]
          rw [Array.getD_eq_getD_getElem?, Array.getElem?_setIfInBounds_ne hne, ← Array.getD_eq_getD_getElem?]
          exact i5 j oj t' c' hl hoj e1 e2
    unfold wpOp
    simp only [ho]
    rcases hcase with ⟨hw, c, hc⟩ | ⟨hw, hc⟩
    · rw [if_pos hw]
      refine .inl ?_
      have hop := hops.at_ i o (by rw [Array.getElem?_toList]; exact ho) t c htd hc
      unfold Oper.wp
      rcases hop b W i1 henv with h | ⟨f, args, h, hcall⟩
      · rw [h, Oper.upon_value]
        exact key c W (only_refl _ _) (fun c' h' => by rw [hc] at h'; exact Option.some.inj h')
      · rw [h, Oper.upon_enter]
        refine hcall.mono ?_
        rintro e w'' ⟨rfl, hg⟩
        exact key c w'' hg (fun c' h' => by rw [hc] at h'; exact Option.some.inj h')
    · rw [if_neg (by rw [hw]; decide)]
      exact key undef W (only_refl _ _) (fun c' h' => by rw [hc] at h'; cases h')
  · rintro listed b W hs ⟨i1, i2, i3, i4, i5⟩ hr
    have hl := all_listedG hok hs hr
    have hlo : ∀ {i o}, ops[i]? = some o → listed.getD i false = true := fun h => hl _ (Array.getElem?_eq_some_iff.1 h).1
    have hb : b = { a with tmps := (dstsOf ops).foldl (fun (ts : Array Value) t => ts.setIfInBounds t (b.tmps.getD t undef)) a.tmps } := by
      obtain ⟨bt, bd⟩ := b
      obtain ⟨at_, ad⟩ := a
      simp only [Act.mk.injEq]
      refine ⟨?_, i2⟩
      apply Array.ext_getElem?
      intro t
      dsimp only at i3 i4
      rw [foldSet]
      by_cases h1 : t ∈ dstsOf ops
      · by_cases h2 : t < at_.size
        · have : t < bt.size := by omega
          simp [h1, h2, this]
        · simp [h2, i3]
      · simp only [h1, false_and, if_false]
        exact i4 t h1
    rw [hb]
    refine hQ (fun t => b.tmps.getD t undef) W i1 (fun t v hv ht => ?_)
    obtain ⟨i, o, ho, e⟩ := mem_dsts.1 ht
    exact i5 i o t v (hlo ho) ho e hv
  · have hno : ∀ j, (Array.replicate ops.size false).getD j false = false := fun j => by
      simp only [Array.getD_eq_getD_getElem?, Array.getElem?_replicate]
      split <;> rfl
    refine ⟨only_drew (only_refl w none), rfl, rfl, fun _ _ => rfl, fun i o t c hl => ?_⟩
    rw [hno] at hl; cases hl

/-! ### What single operations answer -/
section
variable {vals : List (Tmp × Value)} {w : World} {o : Oper}
/-- Of an operation that is wanted. -/
theorem og {P : Program} {t : Tmp} {c : Value} (ho : o.dst = some t) (hv : vals.lookup t = some c) (h : OpVal P o vals w c) : ∀ t c, o.dst = some t → vals.lookup t = some c → OpVal P o vals w c := fun t' c' h1 h2 => by
  rw [ho] at h1
  obtain rfl := Option.some.inj h1
  rw [hv] at h2
  obtain rfl := Option.some.inj h2
  exact h
/-- Of one that is not. -/
theorem oskip {P : Program} {t : Tmp} (ho : o.dst = some t) (hv : vals.lookup t = none) : ∀ t c, o.dst = some t → vals.lookup t = some c → OpVal P o vals w c := fun t' c' h1 h2 => by
  rw [ho] at h1
  obtain rfl := Option.some.inj h1
  rw [hv] at h2
  cases h2
theorem ov_neq_int {s i : Tmp} {a c : Int} {b : Bool} {ty : TypeId} (ho : o.op = .binOp .neq 3 (.tmp s) (.tmp i) ty) (hs : vals.lookup s = some (.int .i64 a)) (hi : vals.lookup i = some (.int .i64 c)) (hb : (a != c) = b) : OpVal Tryd.prog o vals w (.bool b) := fun b' W hg hr => by
  have he := hr s _ (by rw [ho]; simp [Op.operands]) hs
  have hf := hr i _ (by rw [ho]; simp [Op.operands]) hi
  obtain ⟨dst, op, type, pos, after, guard⟩ := o
  dsimp only at ho
  subst ho
  subst hb
  refine .inl ?_
  simp only [execOp, he, hf]
  go_simp
theorem ov_eql_int {s i : Tmp} {a c : Int} {b : Bool} {ty : TypeId} (ho : o.op = .binOp .eql 3 (.tmp s) (.tmp i) ty) (hs : vals.lookup s = some (.int .i64 a)) (hi : vals.lookup i = some (.int .i64 c)) (hb : (a == c) = b) : OpVal Tryd.prog o vals w (.bool b) := fun b' W hg hr => by
  have he := hr s _ (by rw [ho]; simp [Op.operands]) hs
  have hf := hr i _ (by rw [ho]; simp [Op.operands]) hi
  obtain ⟨dst, op, type, pos, after, guard⟩ := o
  dsimp only at ho
  subst ho
  subst hb
  refine .inl ?_
  simp only [execOp, he, hf]
  go_simp
theorem ov_neq_bool {s i : Tmp} {a c : Bool} {b : Bool} {ty : TypeId} (ho : o.op = .binOp .neq 4 (.tmp s) (.tmp i) ty) (hs : vals.lookup s = some (.bool a)) (hi : vals.lookup i = some (.bool c)) (hb : (a != c) = b) : OpVal Tryd.prog o vals w (.bool b) := fun b' W hg hr => by
  have he := hr s _ (by rw [ho]; simp [Op.operands]) hs
  have hf := hr i _ (by rw [ho]; simp [Op.operands]) hi
  obtain ⟨dst, op, type, pos, after, guard⟩ := o
  dsimp only at ho
  subst ho
  subst hb
  refine .inl ?_
  simp only [execOp, he, hf]
  cases a <;> cases c <;> go_simp
theorem ov_gtr_c {s : Tmp} {a c : Int} {b : Bool} {ty : TypeId} (ho : o.op = .binOp .gtr 3 (.tmp s) (.const (.int .i64 c)) ty) (hs : vals.lookup s = some (.int .i64 a)) (hb : decide (a > c) = b) : OpVal Tryd.prog o vals w (.bool b) := fun b' W hg hr => by
  have he := hr s _ (by rw [ho]; simp [Op.operands]) hs
  obtain ⟨dst, op, type, pos, after, guard⟩ := o
  dsimp only at ho
  subst ho
  subst hb
  refine .inl ?_
  simp only [execOp, he]
  go_simp
theorem ov_sub_c {s : Tmp} {a c : Int} {ty : TypeId} (ho : o.op = .binOp .sub 3 (.tmp s) (.const (.int .i64 c)) ty) (hs : vals.lookup s = some (.int .i64 a)) (h0 : -1000000000 ≤ a) (h1 : a ≤ 1000000000) (h2 : -1000000000 ≤ c) (h3 : c ≤ 1000000000) : OpVal Tryd.prog o vals w (.int .i64 (a - c)) := fun b' W hg hr => by
  have he := hr s _ (by rw [ho]; simp [Op.operands]) hs
  have hw : IntKind.i64.wrap (a - c) = a - c := IntWalk.i64_in _ ⟨by omega, by omega⟩
  obtain ⟨dst, op, type, pos, after, guard⟩ := o
  dsimp only at ho
  subst ho
  refine .inl ?_
  simp only [execOp, he]
  go_simp
theorem ov_pick_true {s : Tmp} {u v : Operand} {c : Value} (ho : o.op = .pick (.tmp s) u v) (hs : vals.lookup s = some (.bool true)) (hu : ∀ b : Act, (∀ t v, Operand.tmp t ∈ o.op.operands → vals.lookup t = some v → b.eval (.tmp t) = v) → b.eval u = c) : OpVal Tryd.prog o vals w c := fun b W hg hr => by
  have he := hr s _ (by rw [ho]; simp [Op.operands]) hs
  have hf := hu b hr
  obtain ⟨dst, op, type, pos, after, guard⟩ := o
  dsimp only at ho
  subst ho
  refine .inl ?_
  simp only [execOp, he, hf]
  go_simp
theorem ov_pick_false {s : Tmp} {u v : Operand} {c : Value} (ho : o.op = .pick (.tmp s) u v) (hs : vals.lookup s = some (.bool false)) (hu : ∀ b : Act, (∀ t v, Operand.tmp t ∈ o.op.operands → vals.lookup t = some v → b.eval (.tmp t) = v) → b.eval v = c) : OpVal Tryd.prog o vals w c := fun b W hg hr => by
  have he := hr s _ (by rw [ho]; simp [Op.operands]) hs
  have hf := hu b hr
  obtain ⟨dst, op, type, pos, after, guard⟩ := o
  dsimp only at ho
  subst ho
  refine .inl ?_
  simp only [execOp, he, hf]
  go_simp
theorem ov_index_edge {s i : Tmp} {b0 off n c k : Nat} (ho : o.op = .indexAddr 37 (.tmp s) (.tmp i)) (hs : vals.lookup s = some (.slice (some ⟨b0, off, none⟩) n c)) (hi : vals.lookup i = some (.int .i64 (k : Int))) (hk : k < n) : OpVal Tryd.prog o vals w (.pointer (some ⟨b0, off + k * 2, none⟩)) := fun b W hg hr => by
  have he := hr s _ (by rw [ho]; simp [Op.operands]) hs
  have hf := hr i _ (by rw [ho]; simp [Op.operands]) hi
  have hk0 : (0 : Int) ≤ (k : Int) := by omega
  have hk1 : (k : Int) < (n : Int) := by omega
  obtain ⟨dst, op, type, pos, after, guard⟩ := o
  dsimp only at ho
  subst ho
  refine .inl ?_
  simp only [execOp, he, hf]
  go_simp
theorem ov_field_edge0 {t : Tmp} {g off : Nat} (ho : o.op = .fieldAddr 36 (.tmp t) 0) (hv : vals.lookup t = some (.pointer (some ⟨g, off, none⟩))) : OpVal Tryd.prog o vals w (.pointer (some ⟨g, off, none⟩)) := fun b W hg hr => by
  have he := hr t _ (by rw [ho]; simp [Op.operands]) hv
  obtain ⟨dst, op, type, pos, after, guard⟩ := o
  dsimp only at ho
  subst ho
  refine .inl ?_
  simp only [execOp, he]
  go_simp
/-- A call of four arguments. -/
theorem ov_call4 {f : FuncId} {t1 t2 t3 t4 : Tmp} {c1 c2 c3 c4 r : Value} {ts : Array TypeId} (ho : o.op = .call { callee := .value (.func f), args := #[.tmp t1, .tmp t2, .tmp t3, .tmp t4], argTypes := ts }) (h1 : vals.lookup t1 = some c1) (h2 : vals.lookup t2 = some c2) (h3 : vals.lookup t3 = some c3) (h4 : vals.lookup t4 = some c4) (hrun : ∀ W, (callFunc f #[c1, c2, c3, c4]).run Tryd.prog W = .ok (.enter f #[c1, c2, c3, c4]) W)
    (hc : ∀ W, w.grownBy W none → Calls Tryd.prog f #[c1, c2, c3, c4] W fun e w'' => e = .returned r ∧ W.grownBy w'' none) : OpVal Tryd.prog o vals w r := fun b W hg hr => by
  have e1 := hr t1 _ (by rw [ho]; simp [Op.operands, Call.operands]) h1
  have e2 := hr t2 _ (by rw [ho]; simp [Op.operands, Call.operands]) h2
  have e3 := hr t3 _ (by rw [ho]; simp [Op.operands, Call.operands]) h3
  have e4 := hr t4 _ (by rw [ho]; simp [Op.operands, Call.operands]) h4
  obtain ⟨dst, op, type, pos, after, guard⟩ := o
  dsimp only at ho
  subst ho
  refine .inr ⟨f, #[c1, c2, c3, c4], ?_, hc W hg⟩
  have e1' : b.tmps[t1]?.getD undef = c1 := by simpa [Act.eval] using e1
  have e2' : b.tmps[t2]?.getD undef = c2 := by simpa [Act.eval] using e2
  have e3' : b.tmps[t3]?.getD undef = c3 := by simpa [Act.eval] using e3
  have e4' : b.tmps[t4]?.getD undef = c4 := by simpa [Act.eval] using e4
  simp [execOp, resolve, Deferred.ofValue, invoke, Act.eval, e1', e2', e3', e4', hrun W]
end
end Go.Proofs.YtoklaajiajilhaaDoor

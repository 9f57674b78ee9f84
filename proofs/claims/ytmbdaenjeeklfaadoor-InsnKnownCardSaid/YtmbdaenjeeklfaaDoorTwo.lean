/- Regions that draw their order and make two boxes: the law, said for two, and what single operations answer there. -/
import Derived.Test.YtmbdaenjeeklfaaDoorBox
import Derived.Test.YtmbdaenjeeklfaaDoorGTab
namespace Go.Proofs.YtmbdaenjeeklfaaDoor
open Go.RowKit

def AllOps (f : Nat → Oper → Prop) : List Oper → Nat → Prop
  | [], _ => True
  | o :: l, i => f i o ∧ AllOps f l (i + 1)
theorem AllOps.at_ {f : Nat → Oper → Prop} : ∀ {l : List Oper} {k : Nat}, AllOps f l k → ∀ (i : Nat) (o : Oper), l[i]? = some o → f (k + i) o
  | [], _, _, i, o, h => by simp at h
  | x :: l, k, ⟨h1, h2⟩, i, o, h => by
    cases i with
    | zero =>
      simp only [List.getElem?_cons_zero, Option.some.injEq] at h
      subst h
      exact h1
    | succ i =>
      rw [List.getElem?_cons_succ] at h
      have := AllOps.at_ h2 i o h
      rwa [show k + (i + 1) = k + 1 + i by omega]
theorem nodup_at {α β : Type} {f : α → Option β} : ∀ {l : List α} {i j : Nat} {x y : α} {t : β}, (l.filterMap f).Nodup → l[i]? = some x → l[j]? = some y → f x = some t → f y = some t → i = j
  | [], i, _, _, _, _, _, h, _, _, _ => by simp at h
  | z :: l, i, j, x, y, t, hn, hi, hj, hx, hy => by
    have mem : ∀ (k : Nat) (u : α), l[k]? = some u → f u = some t → t ∈ l.filterMap f := fun k u hk hu => List.mem_filterMap.2 ⟨u, List.mem_of_getElem? hk, hu⟩
    cases i with
    | zero =>
      simp only [List.getElem?_cons_zero, Option.some.injEq] at hi
      subst hi
      cases j with
      | zero => rfl
      | succ j =>
        rw [List.getElem?_cons_succ] at hj
        rw [List.filterMap_cons_some hx] at hn
        exact absurd (mem j y hj hy) (List.nodup_cons.1 hn).1
    | succ i =>
      rw [List.getElem?_cons_succ] at hi
      cases j with
      | zero =>
        simp only [List.getElem?_cons_zero, Option.some.injEq] at hj
        subst hj
        rw [List.filterMap_cons_some hy] at hn
        exact absurd (mem i x hi hx) (List.nodup_cons.1 hn).1
      | succ j =>
        rw [List.getElem?_cons_succ] at hj
        have hn' : (l.filterMap f).Nodup := by
          cases hz : f z with
          | none => rwa [List.filterMap_cons_none hz] at hn
          | some u => rw [List.filterMap_cons_some hz] at hn; exact (List.nodup_cons.1 hn).2
        rw [nodup_at hn' hi hj hx hy]
theorem lookup_mem {l : List (Nat × Value)} {t : Nat} {v : Value} (h : l.lookup t = some v) : (t, v) ∈ l := by
  induction l with
  | nil => cases h
  | cons q l ih =>
    obtain ⟨t', d'⟩ := q
    rw [List.lookup_cons] at h
    split at h
    · rename_i e
      simp only [Option.some.injEq] at h
      subst h
      rw [eq_of_beq e]
      exact List.mem_cons_self
    · exact List.mem_cons_of_mem _ (ih h)

/-- What an operation is in a region that makes two boxes. -/
inductive IsOp (P : Program) (vals : List (Tmp × Value)) (w : World) (x y : Bx) : Nat → Oper → Prop where
  | val {i : Nat} {o : Oper} (t : Tmp) (c : Value) : o.dst = some t → vals.lookup t = some c → (x.slot != t && y.slot != t && x.al != i && y.al != i && x.st != i && y.st != i) = true → OpVal P o vals w c → IsOp P vals w x y i o
  | al1 {i : Nat} {o : Oper} : x.al = i → o.op = .alloc x.ty → o.dst = some x.slot → IsOp P vals w x y i o
  | al2 {i : Nat} {o : Oper} : y.al = i → o.op = .alloc y.ty → o.dst = some y.slot → IsOp P vals w x y i o
  | st1 {i : Nat} {o : Oper} : x.st = i → o.op = .store x.ty (.tmp x.slot) (.tmp x.src) → o.dst = none → IsOp P vals w x y i o
  | st2 {i : Nat} {o : Oper} : y.st = i → o.op = .store y.ty (.tmp y.slot) (.tmp y.src) → o.dst = none → IsOp P vals w x y i o

theorem region_two {P : Program} {ops : Array Oper} {Q : Exit → Act → World → Prop} {id : Nat} {a : Act} {w : World} (hm : P.follows .mixedOrders = true) (hok : regOkB ops = true) (ds : List Tmp) (hds : dstsOf ops = ds) (hlt : (ds.all fun t => decide (t < a.tmps.size)) = true) (hnd : ds.Nodup)
    (vals : List (Tmp × Value)) (x y : Bx) (h0 : ∀ p ∈ vals, p.1 ∉ ds → a.tmps.getD p.1 undef = p.2)
    (hx : Boxed P x) (hy : Boxed P y) (hxs : vals.lookup x.src = some (.agg x.cs)) (hys : vals.lookup y.src = some (.agg y.cs))
    (hxn : (vals.lookup x.slot).isNone = true) (hyn : (vals.lookup y.slot).isNone = true)
    (hne : x.al ≠ y.al ∧ x.st ≠ y.st ∧ x.slot ≠ y.slot ∧ x.al ≠ x.st ∧ x.al ≠ y.st ∧ y.al ≠ x.st ∧ y.al ≠ y.st)
    (hax : (ops[x.al]?).bind (·.dst) = some x.slot) (hay : (ops[y.al]?).bind (·.dst) = some y.slot) (hsx : (ops[x.st]?).isSome = true) (hsy : (ops[y.st]?).isSome = true)
    (hops : AllOps (IsOp P vals w x y) ops.toList 0)
    (hQ : ∀ (vs : Tmp → Value) (W : World) (B1 B2 : Nat), w.grownBy W none → vs x.slot = .pointer (some ⟨B1, 0, none⟩) → vs y.slot = .pointer (some ⟨B2, 0, none⟩) → B1 ≠ B2 → w.heap.size ≤ B1 → w.heap.size ≤ B2 → Blk W B1 x.ty x.cs → Blk W B2 y.ty y.cs →
      Q .normal { a with tmps := ds.foldl (fun (ts : Array Value) t => ts.setIfInBounds t (vs t)) a.tmps } W) :
    (Code.region id ops true).wp P Q a w := by
  subst hds
  obtain ⟨oax, hoax, hdax⟩ := Option.bind_eq_some_iff.1 hax
  obtain ⟨oay, hoay, hday⟩ := Option.bind_eq_some_iff.1 hay
  obtain ⟨osx, hosx⟩ := Option.isSome_iff_exists.1 hsx
  obtain ⟨osy, hosy⟩ := Option.isSome_iff_exists.1 hsy
  obtain ⟨n1, n2, n3, n4, n5, n6, n7⟩ := hne
  have hu : ∀ (i j : Nat) (oi oj : Oper) (t : Tmp), ops[i]? = some oi → ops[j]? = some oj → oi.dst = some t → oj.dst = some t → i = j := fun i j oi oj t hi hj ei ej =>
    nodup_at hnd (by rw [Array.getElem?_toList]; exact hi) (by rw [Array.getElem?_toList]; exact hj) ei ej
  refine region_boxes hm hok hlt hu vals [x, y] (fun t v hv ht => h0 (t, v) (lookup_mem hv) ht) (fun i o ho => ?_) (fun z hz => ?_) (fun z hz t c e hl => ?_) (fun z hz u hu' => ?_) (fun vs W hg hv hb hap => ?_)
  · have h := hops.at_ i o (by rw [Array.getElem?_toList]; exact ho)
    rw [Nat.zero_add] at h
    cases h with
    | val t c h1 h2 h3 h4 =>
      simp only [Bool.and_eq_true, bne_iff_ne, ne_eq] at h3
      obtain ⟨⟨⟨⟨⟨a1, a2⟩, a3⟩, a4⟩, a5⟩, a6⟩ := h3
      refine .inl ⟨t, c, h1, h2, fun z hz => ?_, h4⟩
      simp only [List.mem_cons, List.not_mem_nil, or_false] at hz
      rcases hz with rfl | rfl
      · exact ⟨a1, a3, a5⟩
      · exact ⟨a2, a4, a6⟩
    | al1 h1 h2 h3 => exact .inr (.inl ⟨x, by simp, h1, h2, h3⟩)
    | al2 h1 h2 h3 => exact .inr (.inl ⟨y, by simp, h1, h2, h3⟩)
    | st1 h1 h2 h3 => exact .inr (.inr ⟨x, by simp, h1, h2, h3, oax, hoax, hdax⟩)
    | st2 h1 h2 h3 => exact .inr (.inr ⟨y, by simp, h1, h2, h3, oay, hoay, hday⟩)
  · simp only [List.mem_cons, List.not_mem_nil, or_false] at hz
    rcases hz with rfl | rfl
    · exact ⟨hx, hxs⟩
    · exact ⟨hy, hys⟩
  · simp only [List.mem_cons, List.not_mem_nil, or_false] at hz
    rcases hz with rfl | rfl
    · rw [e, hl] at hxn; cases hxn
    · rw [e, hl] at hyn; cases hyn
  · simp only [List.mem_cons, List.not_mem_nil, or_false] at hz hu'
    rcases hz with rfl | rfl <;> rcases hu' with rfl | rfl
    · exact ⟨fun _ => rfl, fun _ => rfl, fun _ => rfl, n4⟩
    · exact ⟨fun e => absurd e n1, fun e => absurd e n2, fun e => absurd e n3, n5⟩
    · exact ⟨fun e => absurd e.symm n1, fun e => absurd e.symm n2, fun e => absurd e.symm n3, n6⟩
    · exact ⟨fun _ => rfl, fun _ => rfl, fun _ => rfl, n7⟩
  · obtain ⟨B1, e1, w1, k1⟩ := hb x (by simp) ⟨_, hoax⟩ ⟨_, hosx⟩
    obtain ⟨B2, e2, w2, k2⟩ := hb y (by simp) ⟨_, hoay⟩ ⟨_, hosy⟩
    refine hQ vs W B1 B2 hg e1 e2 (fun e => ?_) w1 w2 k1 k2
    subst e
    exact hap x (by simp) y (by simp) n1 ⟨_, hoax⟩ ⟨_, hoay⟩ B1 e1 e2

/-! ### What single operations answer -/
section
variable {vals : List (Tmp × Value)} {w : World} {o : Oper}
theorem ov_move {t : Tmp} {c : Value} (ho : o.op = .move (.tmp t)) (hv : vals.lookup t = some c) : OpVal Tryd.prog o vals w c := fun b W _ hr => by
  have e := hr t c (by rw [ho]; simp [Op.operands]) hv
  obtain ⟨dst, op, type, pos, after, guard⟩ := o
  dsimp only at ho
  subst ho
  exact .inl (by simp only [execOp, e, Sem.run_pure])
theorem ov_load_int {t : Tmp} {p : Addr} {n : Int} (ho : o.op = .load 3 (.tmp t)) (hv : vals.lookup t = some (.pointer (some p))) (hc : w.cell? p = some (.int .i64 n)) : OpVal Tryd.prog o vals w (.int .i64 n) := fun b W hg hr => by
  have he := hr t _ (by rw [ho]; simp [Op.operands]) hv
  have c0 := Keeps.grown hg _ _ hc
  obtain ⟨dst, op, type, pos, after, guard⟩ := o
  dsimp only at ho
  subst ho
  refine .inl ?_
  simp only [execOp, he]
  go_simp
theorem ov_add {s i : Tmp} {a c : Int} {ty : TypeId} (ho : o.op = .binOp .add 3 (.tmp s) (.tmp i) ty) (hs : vals.lookup s = some (.int .i64 a)) (hi : vals.lookup i = some (.int .i64 c)) (h0 : 0 ≤ a) (h1 : a ≤ 1000000) (h2 : 0 ≤ c) (h3 : c ≤ 1000000) : OpVal Tryd.prog o vals w (.int .i64 (a + c)) := fun b W hg hr => by
  have he := hr s _ (by rw [ho]; simp [Op.operands]) hs
  have hf := hr i _ (by rw [ho]; simp [Op.operands]) hi
  obtain ⟨dst, op, type, pos, after, guard⟩ := o
  have hw : IntKind.i64.wrap (a + c) = a + c := IntWalk.i64_in _ ⟨by omega, by omega⟩
  dsimp only at ho
  subst ho
  refine .inl ?_
  simp only [execOp, he, hf]
  go_simp
/-- A call of two arguments. -/
theorem ov_call2 {f : FuncId} {t u : Tmp} {c d r : Value} {ts : Array TypeId} (ho : o.op = .call { callee := .value (.func f), args := #[.tmp t, .tmp u], argTypes := ts }) (ht : vals.lookup t = some c) (hu : vals.lookup u = some d) (hrun : ∀ W, (callFunc f #[c, d]).run Tryd.prog W = .ok (.enter f #[c, d]) W)
    (hc : ∀ W, w.grownBy W none → Calls Tryd.prog f #[c, d] W fun e w'' => e = .returned r ∧ W.grownBy w'' none) : OpVal Tryd.prog o vals w r := fun b W hg hr => by
  have he := hr t _ (by rw [ho]; simp [Op.operands, Call.operands]) ht
  have hf := hr u _ (by rw [ho]; simp [Op.operands, Call.operands]) hu
  obtain ⟨dst, op, type, pos, after, guard⟩ := o
  dsimp only at ho
  subst ho
  refine .inr ⟨f, #[c, d], ?_, hc W hg⟩
  have he' : b.tmps[t]?.getD undef = c := by simpa [Act.eval] using he
  have hf' : b.tmps[u]?.getD undef = d := by simpa [Act.eval] using hf
  simp [execOp, resolve, Deferred.ofValue, invoke, Act.eval, he', hf', hrun W]
end
end Go.Proofs.YtmbdaenjeeklfaaDoor

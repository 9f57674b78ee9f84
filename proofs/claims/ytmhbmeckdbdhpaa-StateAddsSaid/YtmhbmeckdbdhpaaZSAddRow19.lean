/- Texts joined for the claim's sake: Any, Box. -/
import Derived.Test.YtmhbmeckdbdhpaaZSAddRow0
import Derived.Orders
import Derived.Laws.Tables
import Derived.Laws.MakeOwn
import Derived.Great.BuildSlice
namespace Go.Proofs.Ytmhbmeckdbdhpaa
open Go.RowKit

section
variable {P : Program} {ops : Array Oper} {Q : Exit → Act → World → Prop} {md : Region.Mode}

theorem count_set {l : List Bool} {i : Nat} (h : l[i]? = some false) : (l.set i true).countP (! ·) + 1 = l.countP (! ·) := by
  induction l generalizing i with
  | nil => simp at h
  | cons b l ih =>
    cases i with
    | zero =>
      simp only [List.getElem?_cons_zero, Option.some.injEq] at h
      subst h
      simp
    | succ i =>
      rw [List.getElem?_cons_succ] at h
      have := ih h
      simp only [List.set_cons_succ, List.countP_cons]
      omega
/-- All orders, by what holds between two operations. -/
theorem wpAny_inv (I : Array Bool → Act → World → Prop)
    (hstep : ∀ listed a w, listed.size = ops.size → I listed a w → ∀ i ∈ Region.ready md ops listed, wpOp P ops Q i (I (listed.setIfInBounds i true)) a w)
    (hdone : ∀ listed a w, listed.size = ops.size → I listed a w → Region.ready md ops listed = [] → Q .normal a w) :
    ∀ (fuel : Nat) (listed : Array Bool) (a : Act) (w : World), listed.size = ops.size → listed.toList.countP (! ·) ≤ fuel → I listed a w → wpAny P md ops Q fuel listed a w
  | 0, listed, a, w, hs, hc, h => by
    have hr : Region.ready md ops listed = [] := by
      rw [List.eq_nil_iff_forall_not_mem]
      intro i hi
      obtain ⟨h0, _⟩ := mem_ready.1 hi
      rcases Nat.lt_or_ge i listed.size with hlt | hge
      · have h1 : listed[i] = false := by simpa [hlt] using h0
        have h2 : 0 < listed.toList.countP (! ·) := List.countP_pos_iff.2 ⟨false, by rw [← h1]; exact Array.getElem_mem_toList hlt, rfl⟩
        omega
      · simp [Array.getElem?_eq_none hge] at h0
    exact ⟨hr, hdone _ _ _ hs h hr⟩
  | fuel + 1, listed, a, w, hs, hc, h => by
    refine ⟨hdone _ _ _ hs h, fun i hi => wpOp_mono (fun a' w' h' => wpAny_inv I hstep hdone fuel _ _ _ (by simpa using hs) ?_ h') (hstep _ _ _ hs h i hi)⟩
    obtain ⟨h0, _⟩ := mem_ready.1 hi
    rcases Nat.lt_or_ge i listed.size with hlt | hge
    · have h1 : listed.toList[i]? = some false := by
        have : listed[i] = false := by simpa [hlt] using h0
        rw [Array.getElem?_toList, Array.getElem?_eq_getElem hlt, this]
      have h2 := count_set h1
      rw [← Array.toList_setIfInBounds] at h2
      omega
    · simp [Array.getElem?_eq_none hge] at h0
end

/-- What a cell reads as: a value; or a slice whose row lies in a block of its own. -/
inductive Cl where
  | v (u : Value)
  | s (e : TypeId) (cs : List Cl) (n : Nat)
mutual
def Cell (W : World) : Cl → Value → Prop
  | .v u, x => x = u
  | .s e cs n, x => ∃ b us, x = .slice (some ⟨b, 0, none⟩) n n ∧ Blk W b e us ∧ Cells W cs us.toList
def Cells (W : World) : List Cl → List Value → Prop
  | [], [] => True
  | c :: cs, u :: us => Cell W c u ∧ Cells W cs us
  | [], _ :: _ => False
  | _ :: _, [] => False
end
mutual
theorem Cell.kept {W W' : World} (hg : W.grownBy W' none) : ∀ (c : Cl) (x : Value), Cell W c x → Cell W' c x
  | .v _, _, h => h
  | .s _ cs _, _, h => by
    simp only [Cell] at h ⊢
    obtain ⟨b, us, h1, h2, h3⟩ := h
    exact ⟨b, us, h1, h2.kept hg, Cells.kept hg cs us.toList h3⟩
theorem Cells.kept {W W' : World} (hg : W.grownBy W' none) : ∀ (cs : List Cl) (us : List Value), Cells W cs us → Cells W' cs us
  | [], [], _ => trivial
  | c :: cs, u :: us, h => ⟨Cell.kept hg c u h.1, Cells.kept hg cs us h.2⟩
end
theorem Cells.length {W : World} : ∀ {cs : List Cl} {us : List Value}, Cells W cs us → cs.length = us.length
  | [], [], _ => rfl
  | _ :: cs, _ :: us, h => by simp [Cells.length h.2]
theorem Cells.set {W : World} {c : Cl} {u : Value} (hc : Cell W c u) : ∀ {cs : List Cl} {us : List Value} (i : Nat), Cells W cs us → Cells W (cs.set i c) (us.set i u)
  | [], [], _, _ => trivial
  | _ :: _, _ :: _, 0, h => ⟨hc, h.2⟩
  | _ :: _, _ :: _, i + 1, h => ⟨h.1, Cells.set hc i h.2⟩
theorem Cells.at_ {W : World} : ∀ {cs : List Cl} {us : List Value} (i : Nat) (c : Cl), Cells W cs us → cs[i]? = some c → ∃ u, us[i]? = some u ∧ Cell W c u
  | [], [], _, _, _, h => by simp at h
  | c :: _, u :: _, 0, c', h, hc => by
    simp only [List.getElem?_cons_zero, Option.some.injEq] at hc
    subst hc
    exact ⟨u, rfl, h.1⟩
  | _ :: _, _ :: _, i + 1, c', h, hc => by
    rw [List.getElem?_cons_succ] at hc ⊢
    exact Cells.at_ i c' h.2 hc
/-- What a value reads as: one cell; or a struct's cells. -/
inductive Rd where
  | one (c : Cl)
  | agg (cs : List Cl)
def Rd.cells : Rd → List Cl
  | .one c => [c]
  | .agg cs => cs
def Reads (W : World) : Rd → Value → Prop
  | .one c, x => Cell W c x ∧ x.cells = #[x]
  | .agg cs, x => ∃ us, x = .agg us ∧ Cells W cs us.toList
theorem Reads.kept {W W' : World} (hg : W.grownBy W' none) : ∀ (d : Rd) (x : Value), Reads W d x → Reads W' d x
  | .one c, x, h => ⟨Cell.kept hg c x h.1, h.2⟩
  | .agg cs, _, ⟨us, h1, h2⟩ => ⟨us, h1, Cells.kept hg cs us.toList h2⟩
theorem Reads.cells {W : World} : ∀ {d : Rd} {x : Value}, Reads W d x → Cells W d.cells x.cells.toList
  | .one c, x, h => by rw [h.2]; exact ⟨h.1, trivial⟩
  | .agg cs, _, ⟨us, h1, h2⟩ => by subst h1; exact h2

/-! ### What an operation makes of what it is handed -/
/-- What a type is to a literal: a struct's places and zero cells; a slice's elements. -/
inductive Ty where
  | st (pl : List (Nat × Nat)) (zs : List Value)
  | sl (e : TypeId) (size : Nat) (zs : List Value)
section
variable {P : Program} {E : List (Tmp × Rd)} {W : World} {b : Act}
end

/-! ### All operations, in the text's order -/
def LeE (E E' : List (Tmp × Rd)) : Prop := ∀ t d, E.lookup t = some d → E'.lookup t = some d
theorem LeE.cons {E : List (Tmp × Rd)} {t : Tmp} {d : Rd} (h : (E.lookup t).isSome = false) : LeE E ((t, d) :: E) := fun t' d' h' => by
  rw [List.lookup_cons]
  by_cases e : (t' == t) = true
  · rw [eq_of_beq e, ] at h'
    rw [h'] at h; cases h
  · rw [Bool.not_eq_true] at e
    rw [e]; exact h'
/-! ### The region -/
def dstsOf (ops : Array Oper) : List Tmp := ops.toList.filterMap (·.dst)
def depsOk (ops : Array Oper) (o : Oper) : Bool := o.op.operands.toList.all fun
  | .tmp t => (ops.toList.all fun oj => oj.dst != some t) || o.after.toList.any fun e => Region.binds .any e && ((ops[e.on]?).bind (·.dst) == some t)
  | _ => true
def regOk (ops : Array Oper) : Bool := ops.toList.zipIdx.all fun (o, i) => o.guard.isNone && (o.after.toList.all fun e => decide (e.on < i)) && depsOk ops o
theorem foldSet {vs : Tmp → Value} : ∀ (l : List Tmp) (A : Array Value) (t : Nat), (l.foldl (fun (ts : Array Value) t => ts.setIfInBounds t (vs t)) A)[t]? = if t ∈ l ∧ t < A.size then some (vs t) else A[t]?
  | [], A, t => by simp
  | x :: l, A, t => by
    rw [List.foldl_cons, foldSet l]
    simp only [Array.size_setIfInBounds, List.mem_cons, Array.getElem?_setIfInBounds]
    by_cases h1 : t < A.size
    · by_cases h2 : t ∈ l
      · simp [h1, h2]
      · by_cases h3 : x = t
        · subst h3; simp [h1]
        · have h4 : ¬ t = x := fun e => h3 e.symm
          simp [h2, h3, h4]
    · simp [h1]
      intros
      omega
theorem mem_dsts {ops : Array Oper} {t : Tmp} : t ∈ dstsOf ops ↔ ∃ (i : Nat) (o : Oper), ops[i]? = some o ∧ o.dst = some t := by
  unfold dstsOf
  rw [List.mem_filterMap]
  constructor
  · rintro ⟨o, ho, h⟩
    obtain ⟨i, hi⟩ := List.mem_iff_getElem?.1 ho
    exact ⟨i, o, by rw [← Array.getElem?_toList]; exact hi, h⟩
  · rintro ⟨i, o, ho, h⟩
    exact ⟨o, List.mem_iff_getElem?.2 ⟨i, by rw [Array.getElem?_toList]; exact ho⟩, h⟩

end Go.Proofs.Ytmhbmeckdbdhpaa

namespace Go.Proofs.Ytmhbmeckdbdhpaa
open Go.RowKit

/-- A box: its slot, its type, its zero cells, what it is to hold, the slot of that, the operations that make and fill it. -/
structure Bx where
  slot : Tmp
  ty : TypeId
  zs : Array Value
  cs : Array Value
  src : Tmp
  al : Nat
  st : Nat
/-- An operation that answers c, whatever has come ahead of it: by itself, or by a call. -/
def OpVal (P : Program) (o : Oper) (vals : List (Tmp × Value)) (w : World) (c : Value) : Prop :=
  ∀ (b : Act) (W : World), w.grownBy W none → (∀ t v, Operand.tmp t ∈ o.op.operands → vals.lookup t = some v → b.eval (.tmp t) = v) →
    ((execOp b.eval o).run P W = .ok (.value c) W ∨ ∃ f args, (execOp b.eval o).run P W = .ok (.enter f args) W ∧ Calls P f args W fun e w'' => e = .returned c ∧ W.grownBy w'' none)
/-- A box as it is: zero, or filled. -/
def Boxed (P : Program) (x : Bx) : Prop := (∀ W : World, (Instr.alloc x.ty true (.tuple #[])).run P W = .ok (.pointer (some ⟨W.heap.size, 0, none⟩)) (W.alloc (.cells x.zs x.ty))) ∧ (P.info? x.ty).map (·.size) = some x.cs.size ∧ x.zs.size = x.cs.size ∧ x.cs.all (·.oneCell') = true

/-- As regOk; of what does not bind nothing is asked. -/
def regOkB (ops : Array Oper) : Bool := ops.toList.zipIdx.all fun (o, i) => o.guard.isNone && (o.after.toList.all fun e => !Region.binds .any e || decide (e.on < i)) && depsOk ops o
theorem regOkB_at {ops : Array Oper} (h : regOkB ops = true) {i : Nat} {o : Oper} (hi : ops[i]? = some o) : o.guard = none ∧ (∀ e ∈ o.after, Region.binds .any e = true → e.on < i) ∧ depsOk ops o = true := by
  unfold regOkB at h
  rw [List.all_eq_true] at h
  have h1 := h (o, i) (List.mem_iff_getElem?.2 ⟨i, by rw [List.getElem?_zipIdx, Array.getElem?_toList, hi]; simp⟩)
  simp only [Bool.and_eq_true, List.all_eq_true, Bool.or_eq_true, Bool.not_eq_true', decide_eq_true_eq, Option.isNone_iff_eq_none] at h1
  refine ⟨h1.1.1, fun e he hb => ?_, h1.2⟩
  rcases h1.1.2 e (Array.mem_toList_iff.2 he) with h2 | h2
  · rw [hb] at h2; cases h2
  · exact h2
theorem all_listedB {ops : Array Oper} (hok : regOkB ops = true) {listed : Array Bool} (hs : listed.size = ops.size) (hr : Region.ready .any ops listed = []) : ∀ i, i < ops.size → listed.getD i false = true := by
  intro i
  induction i using Nat.strongRecOn with
  | _ i ih =>
    intro hi
    cases hl : listed.getD i false with
    | true => rfl
    | false =>
      have ho : ops[i]? = some ops[i] := Array.getElem?_eq_getElem hi
      have hm : i ∈ Region.ready .any ops listed := mem_ready.2 ⟨by simpa [hs, hi] using hl, ops[i], ho, fun e he hb => by
        have := (regOkB_at hok ho).2.1 e he hb
        exact ih e.on this (by omega)⟩
      rw [hr] at hm
      cases hm
theorem getD_set_at {l : Array Bool} {i : Nat} (h : i < l.size) : (l.setIfInBounds i true).getD i false = true := by simp [h]

theorem region_boxes {P : Program} {ops : Array Oper} {Q : Exit → Act → World → Prop} {id : Nat} {a : Act} {w : World} (hm : P.follows .mixedOrders = true) (hok : regOkB ops = true) (hlt : ((dstsOf ops).all fun t => decide (t < a.tmps.size)) = true)
    (hu : ∀ (i j : Nat) (oi oj : Oper) (t : Tmp), ops[i]? = some oi → ops[j]? = some oj → oi.dst = some t → oj.dst = some t → i = j)
    (vals : List (Tmp × Value)) (boxes : List Bx)
    (h0 : ∀ t v, vals.lookup t = some v → t ∉ dstsOf ops → a.tmps.getD t undef = v)
    (hcls : ∀ (i : Nat) (o : Oper), ops[i]? = some o → (∃ t c, o.dst = some t ∧ vals.lookup t = some c ∧ (∀ x ∈ boxes, x.slot ≠ t ∧ x.al ≠ i ∧ x.st ≠ i) ∧ OpVal P o vals w c) ∨ (∃ x ∈ boxes, x.al = i ∧ o.op = .alloc x.ty ∧ o.dst = some x.slot) ∨
      (∃ x ∈ boxes, x.st = i ∧ o.op = .store x.ty (.tmp x.slot) (.tmp x.src) ∧ o.dst = none ∧ ∃ oa, ops[x.al]? = some oa ∧ oa.dst = some x.slot))
    (hbx : ∀ x ∈ boxes, Boxed P x ∧ vals.lookup x.src = some (.agg x.cs))
    (hbnv : ∀ x ∈ boxes, ∀ t c, x.slot = t → vals.lookup t = some c → False)
    (hbu : ∀ x ∈ boxes, ∀ y ∈ boxes, (x.al = y.al → x = y) ∧ (x.st = y.st → x = y) ∧ (x.slot = y.slot → x = y) ∧ x.al ≠ y.st)
    (hQ : ∀ (vs : Tmp → Value) (W : World), w.grownBy W none → (∀ t v, vals.lookup t = some v → t ∈ dstsOf ops → vs t = v) → (∀ x ∈ boxes, (∃ o, ops[x.al]? = some o) → (∃ o, ops[x.st]? = some o) → ∃ B, vs x.slot = .pointer (some ⟨B, 0, none⟩) ∧ w.heap.size ≤ B ∧ Blk W B x.ty x.cs) →
      (∀ x ∈ boxes, ∀ y ∈ boxes, x.al ≠ y.al → (∃ o, ops[x.al]? = some o) → (∃ o, ops[y.al]? = some o) → ∀ B, vs x.slot = .pointer (some ⟨B, 0, none⟩) → vs y.slot ≠ .pointer (some ⟨B, 0, none⟩)) →
      Q .normal { a with tmps := (dstsOf ops).foldl (fun (ts : Array Value) t => ts.setIfInBounds t (vs t)) a.tmps } W) :
    (Code.region id ops true).wp P Q a w := by
  have hdl : ∀ t ∈ dstsOf ops, t < a.tmps.size := fun t ht => by simpa using List.all_eq_true.1 hlt t ht
  refine wp_region_any hm (wpAny_inv (fun listed b W => w.grownBy W none ∧ b.defers = a.defers ∧ b.tmps.size = a.tmps.size ∧ (∀ t, t ∉ dstsOf ops → b.tmps[t]? = a.tmps[t]?) ∧
    (∀ (i : Nat) (o : Oper) (t : Tmp) (c : Value), listed.getD i false = true → ops[i]? = some o → o.dst = some t → vals.lookup t = some c → b.tmps.getD t undef = c) ∧
    (∀ x ∈ boxes, listed.getD x.st false = true → listed.getD x.al false = true) ∧
    (∀ x ∈ boxes, listed.getD x.al false = true → ∃ B, b.tmps.getD x.slot undef = .pointer (some ⟨B, 0, none⟩) ∧ w.heap.size ≤ B ∧ Blk W B x.ty (if listed.getD x.st false = true then x.cs else x.zs)) ∧
    (∀ x ∈ boxes, ∀ y ∈ boxes, x.al ≠ y.al → listed.getD x.al false = true → listed.getD y.al false = true → ∀ B, b.tmps.getD x.slot undef = .pointer (some ⟨B, 0, none⟩) → b.tmps.getD y.slot undef ≠ .pointer (some ⟨B, 0, none⟩))) ?_ ?_ ops.size _ _ _ (by simp) (by
      have := List.countP_le_length (p := (! ·)) (l := (Array.replicate ops.size false).toList)
      simpa using this) ?_)
  · rintro listed b W hs ⟨i1, i2, i3, i4, i5, i6, i7, i8⟩ i hi
    obtain ⟨hni, o, ho, hall⟩ := mem_ready.1 hi
    have hil : i < ops.size := (Array.getElem?_eq_some_iff.1 ho).1
    have hni' : listed.getD i false = false := by
      have hl : i < listed.size := by omega
      simpa [hl] using hni
    obtain ⟨g1, g2, g3⟩ := regOkB_at hok ho
    have henv : ∀ t v, Operand.tmp t ∈ o.op.operands → vals.lookup t = some v → b.eval (.tmp t) = v := fun t v ht hv => by
      unfold depsOk at g3
      rw [List.all_eq_true] at g3
      have h1 := g3 (.tmp t) (Array.mem_toList_iff.2 ht)
      simp only [Bool.or_eq_true, List.all_eq_true, List.any_eq_true, Bool.and_eq_true, bne_iff_ne, ne_eq, beq_iff_eq] at h1
      rcases h1 with h1 | ⟨e, he, hb, hx⟩
      · have h4 : t ∉ dstsOf ops := fun hm => by
          obtain ⟨i, oi, hi, e⟩ := mem_dsts.1 hm
          exact h1 oi (List.mem_iff_getElem?.2 ⟨i, by rw [Array.getElem?_toList]; exact hi⟩) e
        have h5 := i4 t h4
        show b.tmps.getD t undef = v
        rw [Array.getD_eq_getD_getElem?, h5, ← Array.getD_eq_getD_getElem?]
        exact h0 t v hv h4
      · obtain ⟨oj, hoj, e1⟩ := Option.bind_eq_some_iff.1 hx
        exact i5 e.on oj t v (hall e (Array.mem_toList_iff.1 he) hb) hoj e1 hv
    unfold wpOp
    simp only [ho]
    rw [if_pos (by simp [Region.wanted, g1])]
    refine .inl ?_
    have hset : ∀ j, i ≠ j → (listed.setIfInBounds i true).getD j false = listed.getD j false := fun j hij => getD_set_ne false hij
    rcases hcls i o ho with ⟨t, c, b1, b2, b3, b4⟩ | ⟨x, hx, hxi, b1, b2⟩ | ⟨x, hx, hxi, b1, b2, oa, hoa, hoad⟩
    · have key : ∀ W', W.grownBy W' none → w.grownBy W' none ∧ (b.put o.dst c).defers = a.defers ∧ (b.put o.dst c).tmps.size = a.tmps.size ∧ (∀ t, t ∉ dstsOf ops → (b.put o.dst c).tmps[t]? = a.tmps[t]?) ∧
          (∀ (j : Nat) (oj : Oper) (t' : Tmp) (c' : Value), (listed.setIfInBounds i true).getD j false = true → ops[j]? = some oj → oj.dst = some t' → vals.lookup t' = some c' → (b.put o.dst c).tmps.getD t' undef = c') ∧
          (∀ x ∈ boxes, (listed.setIfInBounds i true).getD x.st false = true → (listed.setIfInBounds i true).getD x.al false = true) ∧
          (∀ x ∈ boxes, (listed.setIfInBounds i true).getD x.al false = true → ∃ B, (b.put o.dst c).tmps.getD x.slot undef = .pointer (some ⟨B, 0, none⟩) ∧ w.heap.size ≤ B ∧ Blk W' B x.ty (if (listed.setIfInBounds i true).getD x.st false = true then x.cs else x.zs)) ∧
          (∀ x ∈ boxes, ∀ y ∈ boxes, x.al ≠ y.al → (listed.setIfInBounds i true).getD x.al false = true → (listed.setIfInBounds i true).getD y.al false = true → ∀ B, (b.put o.dst c).tmps.getD x.slot undef = .pointer (some ⟨B, 0, none⟩) → (b.put o.dst c).tmps.getD y.slot undef ≠ .pointer (some ⟨B, 0, none⟩)) := fun W' hg => by
        have hsl : ∀ t', t ≠ t' → (b.put o.dst c).tmps.getD t' undef = b.tmps.getD t' undef := fun t' hne => by
          rw [b1]
          simp [Act.put, Array.getElem?_setIfInBounds_ne hne]
        refine ⟨only_trans i1 hg, by rw [b1]; exact i2, by simp [Act.put, b1, i3], fun t' ht' => ?_, fun j oj t' c' hl hoj e1 e2 => ?_, fun x hx hl => ?_, fun x hx hl => ?_, fun x hx y hy hne hlx hly B hB => ?_⟩
        · have hne : t ≠ t' := fun e => ht' (mem_dsts.2 ⟨i, o, ho, by rw [b1, e]⟩)
          rw [b1]
          simp only [Act.put]
          rw [Array.getElem?_setIfInBounds_ne hne]
          exact i4 t' ht'
        · by_cases hij : i = j
          · subst hij
            rw [ho] at hoj
            obtain rfl := Option.some.inj hoj
            rw [b1] at e1
            obtain rfl := Option.some.inj e1
            rw [b2] at e2
            obtain rfl := Option.some.inj e2
            have : t < b.tmps.size := by rw [i3]; exact hdl t (mem_dsts.2 ⟨i, o, ho, b1⟩)
            rw [b1]
            simp [Act.put, this]
          · have hne : t ≠ t' := fun e => hij (hu i j o oj t ho hoj b1 (by rw [e]; exact e1))
            rw [hset j hij] at hl
            rw [hsl t' hne]
            exact i5 j oj t' c' hl hoj e1 e2
        · obtain ⟨n1, n2, n3⟩ := b3 x hx
          rw [hset _ (fun e => n3 e.symm)] at hl
          rw [hset _ (fun e => n2 e.symm)]
          exact i6 x hx hl
        · obtain ⟨n1, n2, n3⟩ := b3 x hx
          rw [hset _ (fun e => n2 e.symm)] at hl
          rw [hset _ (fun e => n3 e.symm), hsl _ (fun e => n1 e.symm)]
          obtain ⟨B, hB, hw, hblk⟩ := i7 x hx hl
          exact ⟨B, hB, hw, hblk.kept hg⟩
        · obtain ⟨n1, n2, n3⟩ := b3 x hx
          obtain ⟨m1, m2, m3⟩ := b3 y hy
          rw [hset _ (fun e => n2 e.symm)] at hlx
          rw [hset _ (fun e => m2 e.symm)] at hly
          rw [hsl _ (fun e => n1 e.symm)] at hB
          rw [hsl _ (fun e => m1 e.symm)]
          exact i8 x hx y hy hne hlx hly B hB
      unfold Oper.wp
      rcases b4 b W i1 henv with hv | ⟨f, args, hv, hcall⟩
      · rw [hv, Oper.upon_value]
        exact key W (only_refl W none)
      · rw [hv, Oper.upon_enter]
        refine hcall.mono fun e w'' hh => ?_
        obtain ⟨rfl, hg⟩ := hh
        exact key w'' hg
    · subst hxi
      obtain ⟨⟨r1, r2, r3, r4⟩, _⟩ := hbx x hx
      have hv : (execOp b.eval o).run P W = .ok (.value (.pointer (some ⟨W.heap.size, 0, none⟩))) (W.alloc (.cells x.zs x.ty)) := by
        unfold execOp
        simp only [b1, Sem.run_bind, r1, Result.andThen_ok, Sem.run_pure]
      have hnst : listed.getD x.st false = false := by
        cases h : listed.getD x.st false with
        | false => rfl
        | true => rw [i6 x hx h] at hni'; cases hni'
      have hslot : x.slot < b.tmps.size := by rw [i3]; exact hdl _ (mem_dsts.2 ⟨_, o, ho, b2⟩)
      have hsl : ∀ t', x.slot ≠ t' → (b.put o.dst (.pointer (some ⟨W.heap.size, 0, none⟩))).tmps.getD t' undef = b.tmps.getD t' undef := fun t' hne => by
        rw [b2]
        simp [Act.put, Array.getElem?_setIfInBounds_ne hne]
      have hself : (b.put o.dst (.pointer (some ⟨W.heap.size, 0, none⟩))).tmps.getD x.slot undef = .pointer (some ⟨W.heap.size, 0, none⟩) := by
        rw [b2]
        simp [Act.put, hslot]
      have hself1 : (listed.setIfInBounds x.al true).getD x.al false = true := getD_set_at (by omega)
      have hst : ∀ y ∈ boxes, (listed.setIfInBounds x.al true).getD y.st false = listed.getD y.st false := fun y hy => hset _ ((hbu x hx y hy).2.2.2)
      unfold Oper.wp
      rw [hv, Oper.upon_value]
      refine ⟨only_alloc i1 _, by rw [b2]; exact i2, by simp [Act.put, b2, i3], fun t' ht' => ?_, fun j oj t' c' hl hoj e1 e2 => ?_, fun y hy hl => ?_, fun y hy hl => ?_, fun y hy z hz hne hly hlz B hB => ?_⟩
      · have hne : x.slot ≠ t' := fun e => ht' (mem_dsts.2 ⟨_, o, ho, by rw [b2, e]⟩)
        rw [b2]
        simp only [Act.put]
        rw [Array.getElem?_setIfInBounds_ne hne]
        exact i4 t' ht'
      · by_cases hij : x.al = j
        · subst hij
          rw [ho] at hoj
          obtain rfl := Option.some.inj hoj
          exfalso
          rcases hcls _ o ho with ⟨t, c, c1, c2, c3, _⟩ | ⟨y, hy, hyi, c1, c2⟩ | ⟨y, hy, hyi, c1, _⟩
          · exact (c3 x hx).2.1 rfl
          · exact hbnv x hx t' c' (by rw [b2] at e1; exact (Option.some.inj e1)) e2
          · rw [b1] at c1; cases c1
        · have hne : x.slot ≠ t' := fun e => hij (hu _ j o oj t' ho hoj (by rw [b2, e]) e1)
          rw [hset j hij] at hl
          rw [hsl t' hne]
          exact i5 j oj t' c' hl hoj e1 e2
      · rw [hst y hy] at hl
        by_cases hxy : x.al = y.al
        · rw [← hxy]; exact hself1
        · rw [hset _ hxy]; exact i6 y hy hl
      · by_cases hxy : x.al = y.al
        · obtain rfl := (hbu x hx y hy).1 hxy
          rw [hst x hx, hnst]
          exact ⟨_, hself, i1.size, Blk.new W _ _⟩
        · rw [hset _ hxy] at hl
          rw [hst y hy, hsl _ (fun e => hxy (by rw [(hbu x hx y hy).2.2.1 e]))]
          obtain ⟨B, hB, hw, hblk⟩ := i7 y hy hl
          exact ⟨B, hB, hw, hblk.alloc _⟩
      · by_cases hxy : x.al = y.al
        · obtain rfl := (hbu x hx y hy).1 hxy
          have hxz : x.al ≠ z.al := hne
          rw [hself] at hB
          rw [hset _ hxz] at hlz
          rw [hsl _ (fun e => hxz (by rw [(hbu x hx z hz).2.2.1 e]))]
          obtain ⟨B', hB', _, hblk⟩ := i7 z hz hlz
          have := hblk.lt
          intro hh
          rw [hB'] at hh
          rw [← hB] at hh
          simp only [Value.pointer.injEq, Option.some.injEq, Addr.mk.injEq, and_true] at hh
          omega
        · rw [hset _ hxy] at hly
          rw [hsl _ (fun e => hxy (by rw [(hbu x hx y hy).2.2.1 e]))] at hB
          by_cases hxz : x.al = z.al
          · obtain rfl := (hbu x hx z hz).1 hxz
            rw [hself]
            obtain ⟨B', hB', _, hblk⟩ := i7 y hy hly
            have := hblk.lt
            intro hh
            rw [hB'] at hB
            rw [← hB] at hh
            simp only [Value.pointer.injEq, Option.some.injEq, Addr.mk.injEq, and_true] at hh
            omega
          · rw [hset _ hxz] at hlz
            rw [hsl _ (fun e => hxz (by rw [(hbu x hx z hz).2.2.1 e]))]
            exact i8 y hy z hz hne hly hlz B hB
    · subst hxi
      obtain ⟨⟨r1, r2, r3, r4⟩, rv⟩ := hbx x hx
      have hops : o.op.operands = #[.tmp x.slot, .tmp x.src] := by rw [b1]; rfl
      have hsrc : b.eval (.tmp x.src) = .agg x.cs := henv _ _ (by rw [hops]; simp) rv
      have hal : listed.getD x.al false = true := by
        unfold depsOk at g3
        rw [List.all_eq_true] at g3
        have h1 := g3 (.tmp x.slot) (Array.mem_toList_iff.2 (by rw [hops]; simp))
        simp only [Bool.or_eq_true, List.all_eq_true, List.any_eq_true, Bool.and_eq_true, bne_iff_ne, ne_eq, beq_iff_eq] at h1
        rcases h1 with h1 | ⟨e, he, hb, hx'⟩
        · exact absurd hoad (h1 oa (List.mem_iff_getElem?.2 ⟨_, by rw [Array.getElem?_toList]; exact hoa⟩))
        · obtain ⟨oj, hoj, e1⟩ := Option.bind_eq_some_iff.1 hx'
          have := hall e (Array.mem_toList_iff.1 he) hb
          rw [hu _ _ oj oa x.slot hoj hoa e1 hoad] at this
          exact this
      obtain ⟨B, hB, hwB, hblk⟩ := i7 x hx hal
      rw [if_neg (by rw [hni']; simp)] at hblk
      have hg : W.grownBy (W.setRow B x.cs) (some B) := ⟨rfl, rfl, rfl, by simp, fun k _ hk => setRow_other W B k x.cs (fun e => hk (by rw [e]))⟩
      refine wp_store_row x.ty (.tmp x.slot) (.tmp x.src) b1 B x.cs hB hsrc x.ty x.zs hblk r2 r3 r4 ?_
      have hput : b.put o.dst undef = b := by rw [b2]; rfl
      rw [hput]
      have hst' : (listed.setIfInBounds x.st true).getD x.st false = true := getD_set_at (by omega)
      have hal' : ∀ y ∈ boxes, (listed.setIfInBounds x.st true).getD y.al false = listed.getD y.al false := fun y hy => hset _ (fun e => (hbu y hy x hx).2.2.2 e.symm)
      refine ⟨only_new i1 hg hwB, i2, i3, i4, fun j oj t' c' hl hoj e1 e2 => ?_, fun y hy hl => ?_, fun y hy hl => ?_, fun y hy z hz hne hly hlz B' hB' => ?_⟩
      · by_cases hij : x.st = j
        · subst hij
          rw [ho] at hoj
          obtain rfl := Option.some.inj hoj
          rw [b2] at e1
          cases e1
        · rw [hset j hij] at hl
          exact i5 j oj t' c' hl hoj e1 e2
      · rw [hal' y hy]
        by_cases hxy : x.st = y.st
        · obtain rfl := (hbu x hx y hy).2.1 hxy
          exact hal
        · rw [hset _ hxy] at hl
          exact i6 y hy hl
      · rw [hal' y hy] at hl
        by_cases hxy : x.st = y.st
        · obtain rfl := (hbu x hx y hy).2.1 hxy
          rw [if_pos hst']
          exact ⟨B, hB, hwB, setRow_heap W B x.zs x.cs x.ty _ hblk⟩
        · rw [hset _ hxy]
          obtain ⟨B', hB', hw', hblk'⟩ := i7 y hy hl
          refine ⟨B', hB', hw', hblk'.grown hg (fun e => ?_)⟩
          have hne : x.al ≠ y.al := fun e => hxy (by rw [(hbu x hx y hy).1 e])
          simp only [Option.some.injEq] at e
          subst e
          exact i8 x hx y hy hne hal hl _ hB hB'
      · rw [hal' y hy] at hly
        rw [hal' z hz] at hlz
        exact i8 y hy z hz hne hly hlz B' hB'
  · rintro listed b W hs ⟨i1, i2, i3, i4, i5, i6, i7, i8⟩ hr
    have hl := all_listedB hok hs hr
    have hlo : ∀ {i o}, ops[i]? = some o → listed.getD i false = true := fun h => hl _ (Array.getElem?_eq_some_iff.1 h).1
    have hb : b = { a with tmps := (dstsOf ops).foldl (fun (ts : Array Value) t => ts.setIfInBounds t (b.tmps.getD t undef)) a.tmps } := by
      obtain ⟨bt, bd⟩ := b
      obtain ⟨at_, ad⟩ := a
      simp only [Act.mk.injEq]
      refine ⟨?_, i2⟩
      apply Array.ext_getElem?
      intro t
      dsimp only at i3 i4
      rw [foldSet]
      by_cases h1 : t ∈ dstsOf ops
      · by_cases h2 : t < at_.size
        · have : t < bt.size := by omega
          simp [h1, h2, this]
        · simp [h2, i3]
      · simp only [h1, false_and, if_false]
        exact i4 t h1
    rw [hb]
    refine hQ _ W i1 (fun t v hv ht => ?_) (fun x hx ⟨oa, ha⟩ ⟨os, hs'⟩ => ?_) (fun x hx y hy hne ⟨oa, ha⟩ ⟨ob, hb'⟩ B hB => ?_)
    · obtain ⟨i, o, ho, e⟩ := mem_dsts.1 ht
      exact i5 i o t v (hlo ho) ho e hv
    · obtain ⟨B, hB, hw, hblk⟩ := i7 x hx (hlo ha)
      rw [if_pos (hlo hs')] at hblk
      exact ⟨B, hB, hw, hblk⟩
    · exact i8 x hx y hy hne (hlo ha) (hlo hb') B hB
  · have hno : ∀ j, (Array.replicate ops.size false).getD j false = false := fun j => by
      simp only [Array.getD_eq_getD_getElem?, Array.getElem?_replicate]
      split <;> rfl
    refine ⟨only_drew (only_refl w none), rfl, rfl, fun _ _ => rfl, fun i o t d hl => ?_, fun x _ hl => ?_, fun x _ hl => ?_, fun x _ y _ _ hl => ?_⟩
    all_goals (rw [hno] at hl; cases hl)
end Go.Proofs.Ytmhbmeckdbdhpaa

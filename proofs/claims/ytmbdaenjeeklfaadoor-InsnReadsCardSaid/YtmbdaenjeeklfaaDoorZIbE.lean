/- Texts joined for the claim's sake: Any, Box, GLaw, GNod, GTab, Two, Chain. -/
import Derived.Test.YtmbdaenjeeklfaaDoorWords
import Derived.Orders
import Derived.Laws.Tables
import Derived.Laws.MakeOwn
import Derived.Great.BuildSlice
import Derived.RangeFuncNested
import Derived.RangeFuncWrites
import Derived.RangeFuncBound
import Derived.RangeFuncCalls
import Derived.RangeFuncLeaves
import Derived.OrdersIn
/- A region that draws its order and whose operations hang on one another by their values alone (literals, each of whose rows lies in a block of its own): in whatever order they come, at the end each value reads as reckoned. No program. -/
namespace Go.Proofs.YtmbdaenjeeklfaaDoor
open Go.RowKit

section
variable {P : Program} {ops : Array Oper} {Q : Exit → Act → World → Prop} {md : Region.Mode}

theorem count_set {l : List Bool} {i : Nat} (h : l[i]? = some false) : (l.set i true).countP (! ·) + 1 = l.countP (! ·) := by
  induction l generalizing i with
  | nil => simp at h
  | cons b l ih =>
    cases i with
    | zero =>
      simp only [List.getElem?_cons_zero, Option.some.injEq] at h
      subst h
      simp
    | succ i =>
      rw [List.getElem?_cons_succ] at h
      have := ih h
      simp only [List.set_cons_succ, List.countP_cons]
      omega
/-- All orders, by what holds between two operations. -/
theorem wpAny_inv (I : Array Bool → Act → World → Prop)
    (hstep : ∀ listed a w, listed.size = ops.size → I listed a w → ∀ i ∈ Region.ready md ops listed, wpOp P ops Q i (I (listed.setIfInBounds i true)) a w)
    (hdone : ∀ listed a w, listed.size = ops.size → I listed a w → Region.ready md ops listed = [] → Q .normal a w) :
    ∀ (fuel : Nat) (listed : Array Bool) (a : Act) (w : World), listed.size = ops.size → listed.toList.countP (! ·) ≤ fuel → I listed a w → wpAny P md ops Q fuel listed a w
  | 0, listed, a, w, hs, hc, h => by
    have hr : Region.ready md ops listed = [] := by
      rw [List.eq_nil_iff_forall_not_mem]
      intro i hi
      obtain ⟨h0, _⟩ := mem_ready.1 hi
      rcases Nat.lt_or_ge i listed.size with hlt | hge
      · have h1 : listed[i] = false := by simpa [hlt] using h0
        have h2 : 0 < listed.toList.countP (! ·) := List.countP_pos_iff.2 ⟨false, by rw [← h1]; exact Array.getElem_mem_toList hlt, rfl⟩
        omega
      · simp [Array.getElem?_eq_none hge] at h0
    exact ⟨hr, hdone _ _ _ hs h hr⟩
  | fuel + 1, listed, a, w, hs, hc, h => by
    refine ⟨hdone _ _ _ hs h, fun i hi => wpOp_mono (fun a' w' h' => wpAny_inv I hstep hdone fuel _ _ _ (by simpa using hs) ?_ h') (hstep _ _ _ hs h i hi)⟩
    obtain ⟨h0, _⟩ := mem_ready.1 hi
    rcases Nat.lt_or_ge i listed.size with hlt | hge
    · have h1 : listed.toList[i]? = some false := by
        have : listed[i] = false := by simpa [hlt] using h0
        rw [Array.getElem?_toList, Array.getElem?_eq_getElem hlt, this]
      have h2 := count_set h1
      rw [← Array.toList_setIfInBounds] at h2
      omega
    · simp [Array.getElem?_eq_none hge] at h0
end

/-- What a cell reads as: a value; or a slice whose row lies in a block of its own. -/
inductive Cl where
  | v (u : Value)
  | s (e : TypeId) (cs : List Cl) (n : Nat)
mutual
def Cell (W : World) : Cl → Value → Prop
  | .v u, x => x = u
  | .s e cs n, x => ∃ b us, x = .slice (some ⟨b, 0, none⟩) n n ∧ Blk W b e us ∧ Cells W cs us.toList
def Cells (W : World) : List Cl → List Value → Prop
  | [], [] => True
  | c :: cs, u :: us => Cell W c u ∧ Cells W cs us
  | [], _ :: _ => False
  | _ :: _, [] => False
end
mutual
theorem Cell.kept {W W' : World} (hg : W.grownBy W' none) : ∀ (c : Cl) (x : Value), Cell W c x → Cell W' c x
  | .v _, _, h => h
  | .s _ cs _, _, h => by
    simp only [Cell] at h ⊢
    obtain ⟨b, us, h1, h2, h3⟩ := h
    exact ⟨b, us, h1, h2.kept hg, Cells.kept hg cs us.toList h3⟩
theorem Cells.kept {W W' : World} (hg : W.grownBy W' none) : ∀ (cs : List Cl) (us : List Value), Cells W cs us → Cells W' cs us
  | [], [], _ => trivial
  | c :: cs, u :: us, h => ⟨Cell.kept hg c u h.1, Cells.kept hg cs us h.2⟩
end
theorem Cells.length {W : World} : ∀ {cs : List Cl} {us : List Value}, Cells W cs us → cs.length = us.length
  | [], [], _ => rfl
  | _ :: cs, _ :: us, h => by simp [Cells.length h.2]
theorem Cells.set {W : World} {c : Cl} {u : Value} (hc : Cell W c u) : ∀ {cs : List Cl} {us : List Value} (i : Nat), Cells W cs us → Cells W (cs.set i c) (us.set i u)
  | [], [], _, _ => trivial
  | _ :: _, _ :: _, 0, h => ⟨hc, h.2⟩
  | _ :: _, _ :: _, i + 1, h => ⟨h.1, Cells.set hc i h.2⟩
theorem Cells.at_ {W : World} : ∀ {cs : List Cl} {us : List Value} (i : Nat) (c : Cl), Cells W cs us → cs[i]? = some c → ∃ u, us[i]? = some u ∧ Cell W c u
  | [], [], _, _, _, h => by simp at h
  | c :: _, u :: _, 0, c', h, hc => by
    simp only [List.getElem?_cons_zero, Option.some.injEq] at hc
    subst hc
    exact ⟨u, rfl, h.1⟩
  | _ :: _, _ :: _, i + 1, c', h, hc => by
    rw [List.getElem?_cons_succ] at hc ⊢
    exact Cells.at_ i c' h.2 hc
theorem Cells.of_map {W : World} : ∀ (us : List Value), Cells W (us.map .v) us
  | [] => trivial
  | _ :: us => ⟨rfl, Cells.of_map us⟩

/-- What a value reads as: one cell; or a struct's cells. -/
inductive Rd where
  | one (c : Cl)
  | agg (cs : List Cl)
def Rd.cells : Rd → List Cl
  | .one c => [c]
  | .agg cs => cs
def Reads (W : World) : Rd → Value → Prop
  | .one c, x => Cell W c x ∧ x.cells = #[x]
  | .agg cs, x => ∃ us, x = .agg us ∧ Cells W cs us.toList
theorem Reads.kept {W W' : World} (hg : W.grownBy W' none) : ∀ (d : Rd) (x : Value), Reads W d x → Reads W' d x
  | .one c, x, h => ⟨Cell.kept hg c x h.1, h.2⟩
  | .agg cs, _, ⟨us, h1, h2⟩ => ⟨us, h1, Cells.kept hg cs us.toList h2⟩
theorem Reads.cells {W : World} : ∀ {d : Rd} {x : Value}, Reads W d x → Cells W d.cells x.cells.toList
  | .one c, x, h => by rw [h.2]; exact ⟨h.1, trivial⟩
  | .agg cs, _, ⟨us, h1, h2⟩ => by subst h1; exact h2

/-! ### What an operation makes of what it is handed -/
def fillD (place : Nat → Option (Nat × Nat)) (cells : List Cl) : List (Nat × List Cl) → Option (List Cl)
  | [] => some cells
  | (i, v) :: rest =>
    match place i with
    | none => none
    | some (off, size) => if v.length ≠ size || off + v.length > cells.length then none else fillD place (v.zipIdx.foldl (fun cs (c, j) => cs.set (off + j) c) cells) rest
theorem putAll_rel {W : World} (off : Nat) : ∀ {vs : List Cl} {us : List Value} (k : Nat) {cs : List Cl} {xs : Array Value}, Cells W vs us → Cells W cs xs.toList →
    Cells W ((vs.zipIdx k).foldl (fun cs (c, j) => cs.set (off + j) c) cs) ((us.zipIdx k).foldl (fun (cs : Array Value) (c, j) => cs.setIfInBounds (off + j) c) xs).toList
  | [], [], _, _, _, _, h => h
  | v :: vs, u :: us, k, cs, xs, hv, h => by
    simp only [List.zipIdx_cons, List.foldl_cons]
    refine putAll_rel off (k + 1) hv.2 ?_
    rw [Array.toList_setIfInBounds]
    exact Cells.set hv.1 _ h
/-- The parts, each at its place. -/
def PartsRel (W : World) : List (Nat × List Cl) → List (Nat × Value) → Prop
  | [], [] => True
  | (i, d) :: ds, (j, u) :: us => i = j ∧ Cells W d u.cells.toList ∧ PartsRel W ds us
  | [], _ :: _ => False
  | _ :: _, [] => False
theorem fill_rel {W : World} {place : Nat → Option (Nat × Nat)} : ∀ {ds : List (Nat × List Cl)} {us : List (Nat × Value)} {cs cs' : List Cl} {xs : Array Value}, PartsRel W ds us → Cells W cs xs.toList → fillD place cs ds = some cs' →
    ∃ xs', Instr.fill place xs us = some xs' ∧ Cells W cs' xs'.toList
  | [], [], _, _, xs, _, h, hf => by
    simp only [fillD, Option.some.injEq] at hf
    subst hf
    exact ⟨xs, rfl, h⟩
  | (i, d) :: ds, (j, u) :: us, cs, cs', xs, hp, h, hf => by
    obtain ⟨rfl, hd, hp⟩ := hp
    simp only [fillD] at hf
    cases hpl : place i with
    | none => rw [hpl] at hf; cases hf
    | some q =>
      obtain ⟨off, size⟩ := q
      rw [hpl] at hf
      dsimp only at hf
      have hl := hd.length
      have hl2 := h.length
      simp only [Array.length_toList] at hl hl2
      by_cases hc : (decide (d.length ≠ size) || decide (off + d.length > cs.length)) = true
      · rw [if_pos hc] at hf; cases hf
      · rw [if_neg hc] at hf
        obtain ⟨xs', h1, h2⟩ := fill_rel (xs := u.cells.zipIdx.foldl (fun cs (c, j) => cs.setIfInBounds (off + j) c) xs) hp (by
          have := putAll_rel off 0 hd h
          rwa [← Array.foldl_toList, Array.toList_zipIdx]) hf
        refine ⟨xs', ?_, h2⟩
        rw [hl, hl2] at hc
        simp only [Instr.fill, hpl]
        rw [if_neg (by simpa using hc)]
        exact h1

/-- What a type is to a literal: a struct's places and zero cells; a slice's elements. -/
inductive Ty where
  | st (pl : List (Nat × Nat)) (zs : List Value)
  | sl (e : TypeId) (size : Nat) (zs : List Value)
def tyOf (P : Program) (t : TypeId) : Option Ty :=
  match P.info? t, P.underlying t with
  | some it, some (.struct fields) =>
    match it.zero, fields.toList.mapM (fun f => (P.info? f.type).map fun i => (f.offset, i.size)) with
    | some z, some places => some (.st places z.cells.toList)
    | _, _ => none
  | _, some (.slice e) =>
    match P.info? e with
    | some ie =>
      match ie.zero with
      | some z => if ie.size = 0 ∨ 4096 < ie.bytes ∨ z.cells.size ≠ ie.size then none else some (.sl e ie.size z.cells.toList)
      | none => none
    | none => none
  | _, _ => none
theorem run_ty_st {P : Program} {t : TypeId} {pl : List (Nat × Nat)} {zs : List Value} (h : tyOf P t = some (.st pl zs)) {parts : Array (Nat × Value)} {xs : Array Value} (hf : Instr.fill (pl.toArray[·]?) zs.toArray parts.toList = some xs) (W : World) :
    (Instr.build t parts).run P W = .ok (.agg xs) W := by
  refine run_build W t parts xs ?_
  unfold tyOf at h
  unfold Program.built
  split at h
  · rename_i it fields h1 h2
    rw [h1, h2]
    dsimp only
    split at h
    · rename_i z places h3 h4
      rw [h3, h4]
      simp only [Option.some.injEq, Ty.st.injEq] at h
      obtain ⟨rfl, rfl⟩ := h
      exact hf
    · cases h
  · split at h
    · split at h
      · split at h <;> cases h
      · cases h
    · cases h
  · cases h
theorem ty_sl {P : Program} {t e : TypeId} {size : Nat} {zs : List Value} (h : tyOf P t = some (.sl e size zs)) :
    ∃ ie z, P.underlying t = some (.slice e) ∧ P.info? e = some ie ∧ ie.zero = some z ∧ ie.size = size ∧ z.cells.toList = zs ∧ size ≠ 0 ∧ ie.bytes ≤ 4096 ∧ z.cells.size = size := by
  unfold tyOf at h
  split at h
  · split at h <;> cases h
  · rename_i e' h2 h3
    split at h
    · rename_i ie h4
      split at h
      · rename_i z h5
        split at h
        · cases h
        · rename_i hc
          simp only [Option.some.injEq, Ty.sl.injEq] at h
          obtain ⟨rfl, rfl, rfl⟩ := h
          exact ⟨ie, z, h3, h4, h5, rfl, rfl, by omega, by omega, by omega⟩
      · cases h
    · cases h
  · cases h
def madeD (zs : List Value) (n : Nat) : List Cl := ((List.range n).map fun j => zs.toArray[j % zs.toArray.size]!).map .v
theorem madeD_cells {W : World} (z : Array Value) (n : Nat) : Cells W (madeD z.toList n) (madeCells z n).toList := by
  have : (madeCells z n).toList = (List.range n).map fun j => z.toList.toArray[j % z.toList.toArray.size]! := by simp [madeCells]
  rw [this]
  exact Cells.of_map _

def isOne : Value → Bool
  | .int .. | .bool .. | .string .. | .slice .. | .pointer .. => true
  | _ => false
theorem isOne_cells {v : Value} (h : isOne v = true) : v.cells = #[v] := by
  cases v <;> first | rfl | (simp [isOne] at h)
def symX (E : List (Tmp × Rd)) : Operand → Option Rd
  | .const v => if isOne v then some (.one (.v v)) else none
  | .tmp t => E.lookup t
  | _ => none
def symParts (E : List (Tmp × Rd)) : List (Nat × Operand) → Option (List (Nat × List Cl))
  | [] => some []
  | (i, x) :: ps => match symX E x, symParts E ps with
    | some d, some ds => some ((i, d.cells) :: ds)
    | _, _ => none
/-- What an operation's value reads as. -/
def symOp (P : Program) (E : List (Tmp × Rd)) : Op → Option Rd
  | .move x => symX E x
  | .assign x => symX E x
  | .build t parts => match tyOf P t, symParts E parts.toList with
    | some (.st pl zs), some ps => (fillD (pl.toArray[·]?) (zs.map .v) ps).map .agg
    | _, _ => none
  | .buildSlice t n parts => match tyOf P t, symParts E parts.toList with
    | some (.sl e size zs), some ps => if n * size > 2 ^ 24 ∨ n * size = 0 then none else (fillD (fun i => some (i * size, size)) (madeD zs (n * size)) ps).map fun cs => .one (.s e cs n)
    | _, _ => none
  | .makeSlice t lo co => match lo, co with
    | .const (.int _ l), .const (.int _ c) => match tyOf P t with
      | some (.sl e size zs) => if l = c ∧ 0 ≤ l ∧ l ≤ 1000 then some (.one (.s e (madeD zs (l.toNat * size)) l.toNat)) else none
      | _ => none
    | _, _ => none
  | _ => none
section
variable {P : Program} {E : List (Tmp × Rd)} {W : World} {b : Act}
theorem symX_ok {x : Operand} {d : Rd} (h : ∀ t d, x = .tmp t → E.lookup t = some d → Reads W d (b.eval (.tmp t))) (hx : symX E x = some d) : Reads W d (b.eval x) := by
  cases x with
  | tmp t => exact h t d rfl hx
  | const v =>
    simp only [symX] at hx
    split at hx
    · rename_i h1
      simp only [Option.some.injEq] at hx
      subst hx
      exact ⟨rfl, isOne_cells h1⟩
    · cases hx
  | global g => simp [symX] at hx
  | func f => simp [symX] at hx
theorem symParts_ok : ∀ {ps : List (Nat × Operand)} {ds : List (Nat × List Cl)}, (∀ t d, (∃ i, (i, Operand.tmp t) ∈ ps) → E.lookup t = some d → Reads W d (b.eval (.tmp t))) → symParts E ps = some ds →
    PartsRel W ds (ps.map fun (i, x) => (i, b.eval x))
  | [], ds, _, h => by
    simp only [symParts, Option.some.injEq] at h
    subst h
    trivial
  | (i, x) :: ps, ds, he, h => by
    simp only [symParts] at h
    split at h
    · rename_i d ds' h1 h2
      simp only [Option.some.injEq] at h
      subst h
      exact ⟨rfl, (symX_ok (fun t d e hl => he t d ⟨i, by rw [← e]; exact List.mem_cons_self⟩ hl) h1).cells, symParts_ok (fun t d ⟨j, hj⟩ hl => he t d ⟨j, List.mem_cons_of_mem _ hj⟩ hl) h2⟩
    · cases h
theorem grown_refl (W : World) : W.grownBy W none := only_refl W none
theorem symOp_ok {o : Oper} {d : Rd} (h : ∀ t d, Operand.tmp t ∈ o.op.operands → E.lookup t = some d → Reads W d (b.eval (.tmp t))) (hs : symOp P E o.op = some d) :
    ∃ v W', (execOp b.eval o).run P W = .ok (.value v) W' ∧ W.grownBy W' none ∧ Reads W' d v := by
  obtain ⟨dst, op, type, pos, after, guard⟩ := o
  dsimp only at h hs

  cases op <;> simp only [symOp] at hs <;> try (cases hs; done)
  case move x => exact ⟨_, W, rfl, grown_refl W, symX_ok (fun t d e hl => h t d (by simp [Op.operands, e]) hl) hs⟩
  case assign x => exact ⟨_, W, rfl, grown_refl W, symX_ok (fun t d e hl => h t d (by simp [Op.operands, e]) hl) hs⟩
  case build t parts =>
    split at hs
    · rename_i pl zs ps h1 h2
      obtain ⟨cs, hcs, rfl⟩ := Option.map_eq_some_iff.1 hs
      obtain ⟨xs, h3, h4⟩ := fill_rel (xs := zs.toArray) (symParts_ok (fun t d ⟨i, hi⟩ hl => h t d (by simp only [Op.operands]; exact List.mem_toArray.2 (List.mem_map.2 ⟨_, hi, rfl⟩)) hl) h2) (by simpa using Cells.of_map (W := W) zs) hcs
      have h5 := run_ty_st h1 (parts := parts.map fun (i, x) => (i, b.eval x)) (xs := xs) (by rw [Array.toList_map]; exact h3) W
      exact ⟨.agg xs, W, by simp [execOp, h5], grown_refl W, xs, rfl, h4⟩
    · cases hs
  case buildSlice t n parts =>
    split at hs
    · rename_i e size zs ps h1 h2
      split at hs
      · cases hs
      · rename_i hc
        obtain ⟨cs, hcs, rfl⟩ := Option.map_eq_some_iff.1 hs
        obtain ⟨ie, z, g1, g2, g3, g4, g5, g6, g7, g8⟩ := ty_sl h1
        subst g5 g4
        obtain ⟨xs, h3, h4⟩ := fill_rel (symParts_ok (fun t d ⟨i, hi⟩ hl => h t d (by simp only [Op.operands]; exact List.mem_toArray.2 (List.mem_map.2 ⟨_, hi, rfl⟩)) hl) h2) (madeD_cells (W := W) z.cells (n * ie.size)) hcs
        have h5 := run_buildSlice W t e n (parts.map fun (i, x) => (i, b.eval x)) xs ie z g1 g2 g3 (by omega) (by omega) (by rw [Array.toList_map]; exact h3)
        have hg := only_alloc (only_refl W none) (.cells xs e)
        exact ⟨_, _, by simp [execOp, h5], hg, ⟨_, xs, rfl, Blk.new W e xs, Cells.kept hg _ _ h4⟩, rfl⟩
    · cases hs
  case makeSlice t lo co =>
    split at hs
    · rename_i kl l kc c
      split at hs
      · rename_i e size zs h1
        split at hs
        · rename_i hc
          simp only [Option.some.injEq] at hs
          subst hs
          obtain ⟨ie, z, g1, g2, g3, g4, g5, g6, g7, g8⟩ := ty_sl h1
          obtain ⟨rfl, hl0, hl1⟩ := hc
          subst g5 g4
          have hb : (ie.bytes : Int) * l ≤ 4096 * 1000 := Int.mul_le_mul (by omega) hl1 hl0 (by omega)
          have h5 := run_make W t e ie z g1 g2 g3 kl kc l l hl0 (Int.le_refl _) (by omega) (by omega)
          have hg := only_alloc (only_refl W none) (.cells (madeCells z.cells (l.toNat * ie.size)) e)
          exact ⟨_, _, by simp [execOp, Act.eval, h5], hg, ⟨_, _, rfl, Blk.new W e _, Cells.kept hg _ _ (madeD_cells z.cells _)⟩, rfl⟩
        · cases hs
      · cases hs
    · cases hs
end

/-! ### All operations, in the text's order -/
def symAll (P : Program) (pre : List (Nat × Rd)) : List Oper → Nat → List (Tmp × Rd) → Option (List (Tmp × Rd))
  | [], _, E => some E
  | o :: os, i, E => match o.dst, (match pre.lookup i with | some d => some d | none => symOp P E o.op) with
    | some t, some d => if (E.lookup t).isSome then none else symAll P pre os (i + 1) ((t, d) :: E)
    | _, _ => none
def LeE (E E' : List (Tmp × Rd)) : Prop := ∀ t d, E.lookup t = some d → E'.lookup t = some d
theorem LeE.cons {E : List (Tmp × Rd)} {t : Tmp} {d : Rd} (h : (E.lookup t).isSome = false) : LeE E ((t, d) :: E) := fun t' d' h' => by
  rw [List.lookup_cons]
  by_cases e : (t' == t) = true
  · rw [eq_of_beq e, ] at h'
    rw [h'] at h; cases h
  · rw [Bool.not_eq_true] at e
    rw [e]; exact h'
theorem symX_mono {E E' : List (Tmp × Rd)} (h : LeE E E') {x : Operand} {d : Rd} (hx : symX E x = some d) : symX E' x = some d := by
  cases x <;> first | exact hx | exact h _ _ hx
theorem symParts_mono {E E' : List (Tmp × Rd)} (h : LeE E E') : ∀ {ps : List (Nat × Operand)} {ds : List (Nat × List Cl)}, symParts E ps = some ds → symParts E' ps = some ds
  | [], _, hp => hp
  | (i, x) :: ps, ds, hp => by
    simp only [symParts] at hp ⊢
    split at hp
    · rename_i d ds' h1 h2
      rw [symX_mono h h1, symParts_mono h h2]
      exact hp
    · cases hp
theorem symOp_mono {P : Program} {E E' : List (Tmp × Rd)} (h : LeE E E') {op : Op} {d : Rd} (hs : symOp P E op = some d) : symOp P E' op = some d := by
  cases op <;> simp only [symOp] at hs ⊢ <;> try (cases hs; done)
  case move x => exact symX_mono h hs
  case assign x => exact symX_mono h hs
  case build t parts =>
    split at hs
    · rename_i pl zs ps h1 h2
      rw [h1, symParts_mono h h2]; exact hs
    · cases hs
  case buildSlice t n parts =>
    split at hs
    · rename_i e size zs ps h1 h2
      rw [h1, symParts_mono h h2]; exact hs
    · cases hs
  case makeSlice t lo co => exact hs
theorem symAll_ok {P : Program} {pre : List (Nat × Rd)} : ∀ {os : List Oper} {k : Nat} {E0 E : List (Tmp × Rd)}, symAll P pre os k E0 = some E →
    LeE E0 E ∧ (∀ (j : Nat) (o : Oper), os[j]? = some o → ∃ t d, o.dst = some t ∧ E.lookup t = some d ∧ E0.lookup t = none ∧ (pre.lookup (k + j) = some d ∨ symOp P E o.op = some d)) ∧
    (∀ t d, E.lookup t = some d → E0.lookup t = some d ∨ ∃ o ∈ os, o.dst = some t) ∧
    (∀ (i j : Nat) (oi oj : Oper) (t : Tmp), os[i]? = some oi → os[j]? = some oj → oi.dst = some t → oj.dst = some t → i = j)
  | [], k, E0, E, h => by
    simp only [symAll, Option.some.injEq] at h
    subst h
    exact ⟨fun _ _ h => h, fun j o h => by simp at h, fun t d h => .inl h, fun i j oi oj t h => by simp at h⟩
  | o :: os, k, E0, E, h => by
    simp only [symAll] at h
    split at h
    · rename_i t d h1 h2
      split at h
      · cases h
      · rename_i hn
        rw [Bool.not_eq_true] at hn
        have hle := LeE.cons (d := d) hn
        obtain ⟨a1, a2, a3, a4⟩ := symAll_ok h
        have ht : E.lookup t = some d := a1 t d (by rw [List.lookup_cons]; simp)
        have hnot : ∀ (j : Nat) (oj : Oper), os[j]? = some oj → oj.dst ≠ some t := fun j oj hj e => by
          obtain ⟨t', d', b1, b2, b3, _⟩ := a2 j oj hj
          rw [b1] at e
          simp only [Option.some.injEq] at e
          subst e
          rw [List.lookup_cons] at b3
          simp at b3
        refine ⟨fun t' d' h' => a1 t' d' (hle t' d' h'), fun j oj hj => ?_, fun t' d' h' => ?_, fun i j oi oj t' hi hj e1 e2 => ?_⟩
        · cases j with
          | zero =>
            simp only [List.getElem?_cons_zero, Option.some.injEq] at hj
            subst hj
            refine ⟨t, d, h1, ht, by simpa using hn, ?_⟩
            rw [Nat.add_zero]
            split at h2
            · rename_i d' h3
              exact .inl (h3.trans h2)
            · exact .inr (symOp_mono (fun t' d' h' => a1 t' d' (hle t' d' h')) h2)
          | succ j =>
            rw [List.getElem?_cons_succ] at hj
            obtain ⟨t', d', b1, b2, b3, b4⟩ := a2 j oj hj
            refine ⟨t', d', b1, b2, ?_, by rw [show k + (j + 1) = k + 1 + j by omega]; exact b4⟩
            rw [List.lookup_cons] at b3
            split at b3
            · cases b3
            · exact b3
        · rcases a3 t' d' h' with h3 | ⟨oj, hj, e⟩
          · rw [List.lookup_cons] at h3
            split at h3
            · rename_i e
              exact .inr ⟨o, List.mem_cons_self, by rw [h1, eq_of_beq e]⟩
            · exact .inl h3
          · exact .inr ⟨oj, List.mem_cons_of_mem _ hj, e⟩
        · cases i with
          | zero =>
            simp only [List.getElem?_cons_zero, Option.some.injEq] at hi
            subst hi
            rw [h1] at e1
            simp only [Option.some.injEq] at e1
            subst e1
            cases j with
            | zero => rfl
            | succ j => exact absurd e2 (hnot j oj (by simpa using hj))
          | succ i =>
            cases j with
            | zero =>
              simp only [List.getElem?_cons_zero, Option.some.injEq] at hj
              subst hj
              rw [h1] at e2
              simp only [Option.some.injEq] at e2
              subst e2
              exact absurd e1 (hnot i oi (by simpa using hi))
            | succ j =>
              rw [a4 i j oi oj t' (by simpa using hi) (by simpa using hj) e1 e2]
    · cases h

/-! ### The region -/
def dstsOf (ops : Array Oper) : List Tmp := ops.toList.filterMap (·.dst)
def depsOk (ops : Array Oper) (o : Oper) : Bool := o.op.operands.toList.all fun
  | .tmp t => (ops.toList.all fun oj => oj.dst != some t) || o.after.toList.any fun e => Region.binds .any e && ((ops[e.on]?).bind (·.dst) == some t)
  | _ => true
def regOk (ops : Array Oper) : Bool := ops.toList.zipIdx.all fun (o, i) => o.guard.isNone && (o.after.toList.all fun e => decide (e.on < i)) && depsOk ops o
theorem regOk_at {ops : Array Oper} (h : regOk ops = true) {i : Nat} {o : Oper} (hi : ops[i]? = some o) : o.guard = none ∧ (∀ e ∈ o.after, e.on < i) ∧ depsOk ops o = true := by
  unfold regOk at h
  rw [List.all_eq_true] at h
  have h1 := h (o, i) (List.mem_iff_getElem?.2 ⟨i, by rw [List.getElem?_zipIdx, Array.getElem?_toList, hi]; simp⟩)
  simp only [Bool.and_eq_true, List.all_eq_true, decide_eq_true_eq, Option.isNone_iff_eq_none] at h1
  exact ⟨h1.1.1, fun e he => h1.1.2 e (Array.mem_toList_iff.2 he), h1.2⟩
theorem all_listed {ops : Array Oper} (hok : regOk ops = true) {listed : Array Bool} (hs : listed.size = ops.size) (hr : Region.ready .any ops listed = []) : ∀ i, i < ops.size → listed.getD i false = true := by
  intro i
  induction i using Nat.strongRecOn with
  | _ i ih =>
    intro hi
    cases hl : listed.getD i false with
    | true => rfl
    | false =>
      have ho : ops[i]? = some ops[i] := Array.getElem?_eq_getElem hi
      have hm : i ∈ Region.ready .any ops listed := mem_ready.2 ⟨by simpa [hs, hi] using hl, ops[i], ho, fun e he _ => by
        have := (regOk_at hok ho).2.1 e he
        exact ih e.on this (by omega)⟩
      rw [hr] at hm
      cases hm
theorem foldSet {vs : Tmp → Value} : ∀ (l : List Tmp) (A : Array Value) (t : Nat), (l.foldl (fun (ts : Array Value) t => ts.setIfInBounds t (vs t)) A)[t]? = if t ∈ l ∧ t < A.size then some (vs t) else A[t]?
  | [], A, t => by simp
  | x :: l, A, t => by
    rw [List.foldl_cons, foldSet l]
    simp only [Array.size_setIfInBounds, List.mem_cons, Array.getElem?_setIfInBounds]
    by_cases h1 : t < A.size
    · by_cases h2 : t ∈ l
      · simp [h1, h2]
      · by_cases h3 : x = t
        · subst h3; simp [h1]
        · have h4 : ¬ t = x := fun e => h3 e.symm
          simp [h2, h3, h4]
    · simp [h1]
      intros
      omega
theorem mem_dsts {ops : Array Oper} {t : Tmp} : t ∈ dstsOf ops ↔ ∃ (i : Nat) (o : Oper), ops[i]? = some o ∧ o.dst = some t := by
  unfold dstsOf
  rw [List.mem_filterMap]
  constructor
  · rintro ⟨o, ho, h⟩
    obtain ⟨i, hi⟩ := List.mem_iff_getElem?.1 ho
    exact ⟨i, o, by rw [← Array.getElem?_toList]; exact hi, h⟩
  · rintro ⟨i, o, ho, h⟩
    exact ⟨o, List.mem_iff_getElem?.2 ⟨i, by rw [Array.getElem?_toList]; exact ho⟩, h⟩

theorem region_reads {P : Program} {ops : Array Oper} {Q : Exit → Act → World → Prop} {id : Nat} {a : Act} {w : World} (hm : P.follows .mixedOrders = true) (hok : regOk ops = true) (hlt : ((dstsOf ops).all fun t => decide (t < a.tmps.size)) = true)
    (pre : List (Nat × Rd)) (E0 E : List (Tmp × Rd)) (hE : symAll P pre ops.toList 0 E0 = some E)
    (h0 : ∀ t d, E0.lookup t = some d → Reads w d (a.tmps.getD t undef))
    (hpre : ∀ (i : Nat) (d : Rd) (o : Oper), pre.lookup i = some d → ops[i]? = some o → ∀ (b : Act) (W : World), w.grownBy W none → (∀ t d, Operand.tmp t ∈ o.op.operands → E.lookup t = some d → Reads W d (b.eval (.tmp t))) → ∃ v, (execOp b.eval o).run P W = .ok (.value v) W ∧ Reads W d v)
    (hQ : ∀ (vs : Tmp → Value) (W : World), w.grownBy W none → (∀ t d, E.lookup t = some d → t ∈ dstsOf ops → Reads W d (vs t)) → Q .normal { a with tmps := (dstsOf ops).foldl (fun (ts : Array Value) t => ts.setIfInBounds t (vs t)) a.tmps } W) :
    (Code.region id ops true).wp P Q a w := by
  obtain ⟨a1, a2, a3, a4⟩ := symAll_ok hE
  have hdl : ∀ t ∈ dstsOf ops, t < a.tmps.size := fun t ht => by simpa using List.all_eq_true.1 hlt t ht
  refine wp_region_any hm (wpAny_inv (fun listed b W => w.grownBy W none ∧ b.defers = a.defers ∧ b.tmps.size = a.tmps.size ∧ (∀ t, t ∉ dstsOf ops → b.tmps[t]? = a.tmps[t]?) ∧
    (∀ (i : Nat) (o : Oper) (t : Tmp) (d : Rd), listed.getD i false = true → ops[i]? = some o → o.dst = some t → E.lookup t = some d → Reads W d (b.tmps.getD t undef))) ?_ ?_ ops.size _ _ _ (by simp) (by
      have := List.countP_le_length (p := (! ·)) (l := (Array.replicate ops.size false).toList)
      simpa using this) ⟨only_drew (only_refl w none), rfl, rfl, fun _ _ => rfl, fun i o t d hl => by
      simp only [Array.getD_eq_getD_getElem?, Array.getElem?_replicate] at hl
      split at hl <;> cases hl⟩)
  · rintro listed b W hs ⟨i1, i2, i3, i4, i5⟩ i hi
    obtain ⟨_, o, ho, hall⟩ := mem_ready.1 hi
    obtain ⟨g1, g2, g3⟩ := regOk_at hok ho
    obtain ⟨t, d, b1, b2, b3, b4⟩ := a2 i o (by rw [Array.getElem?_toList]; exact ho)
    rw [Nat.zero_add] at b4
    have henv : ∀ t d, Operand.tmp t ∈ o.op.operands → E.lookup t = some d → Reads W d (b.eval (.tmp t)) := fun t d ht hd => by
      unfold depsOk at g3
      rw [List.all_eq_true] at g3
      have h1 := g3 (.tmp t) (Array.mem_toList_iff.2 ht)
      simp only [Bool.or_eq_true, List.all_eq_true, List.any_eq_true, Bool.and_eq_true, bne_iff_ne, ne_eq, beq_iff_eq] at h1
      rcases h1 with h1 | ⟨e, he, hb, hx⟩
      · rcases a3 t d hd with h2 | ⟨oj, hj, e⟩
        · have h3 := Reads.kept i1 d _ (h0 t d h2)
          have h4 : t ∉ dstsOf ops := fun hm => by
            obtain ⟨i, oi, hi, e⟩ := mem_dsts.1 hm
            exact h1 oi (List.mem_iff_getElem?.2 ⟨i, by rw [Array.getElem?_toList]; exact hi⟩) e
          have h5 := i4 t h4
          show Reads W d (b.tmps.getD t undef)
          rw [Array.getD_eq_getD_getElem?, h5, ← Array.getD_eq_getD_getElem?]
          exact h3
        · exact absurd e (h1 oj hj)
      · obtain ⟨oj, hoj, e1⟩ := Option.bind_eq_some_iff.1 hx
        exact i5 e.on oj t d (hall e (Array.mem_toList_iff.1 he) hb) hoj e1 hd
    have hrun : ∃ v W', (execOp b.eval o).run P W = .ok (.value v) W' ∧ W.grownBy W' none ∧ Reads W' d v := by
      rcases b4 with h1 | h1
      · obtain ⟨v, hv, hr⟩ := hpre i d o h1 ho b W i1 henv
        exact ⟨v, W, hv, only_refl W none, hr⟩
      · exact symOp_ok henv h1
    obtain ⟨v, W', hv, hg, hr⟩ := hrun
    unfold wpOp
    simp only [ho]
    rw [if_pos (by simp [Region.wanted, g1])]
    refine .inl ?_
    unfold Oper.wp
    rw [hv, Oper.upon_value, b1]
    refine ⟨only_trans i1 hg, i2, by simp [Act.put, i3], fun t' ht' => ?_, fun j oj t' d' hl hoj e1 e2 => ?_⟩
    · have hne : t ≠ t' := fun e => ht' (mem_dsts.2 ⟨i, o, ho, by rw [b1, e]⟩)
      simp only [Act.put]
      rw [Array.getElem?_setIfInBounds_ne hne]
      exact i4 t' ht'
    · by_cases hij : i = j
      · subst hij
        rw [ho] at hoj
        simp only [Option.some.injEq] at hoj
        subst hoj
        rw [b1] at e1
        simp only [Option.some.injEq] at e1
        subst e1
        rw [b2] at e2
        simp only [Option.some.injEq] at e2
        subst e2
        have : t < b.tmps.size := by rw [i3]; exact hdl t (mem_dsts.2 ⟨i, o, ho, b1⟩)
        simpa [Act.put, this] using hr
      · have hne : t ≠ t' := fun e => hij (a4 i j o oj t (by rw [Array.getElem?_toList]; exact ho) (by rw [Array.getElem?_toList]; exact hoj) b1 (by rw [e]; exact e1))
        rw [getD_set_ne false hij] at hl
        have := Reads.kept hg d' _ (i5 j oj t' d' hl hoj e1 e2)
        simpa [Act.put, Array.getElem?_setIfInBounds_ne hne] using this
  · rintro listed b W hs ⟨i1, i2, i3, i4, i5⟩ hr
    have hl := all_listed hok hs hr
    have hb : b = { a with tmps := (dstsOf ops).foldl (fun (ts : Array Value) t => ts.setIfInBounds t (b.tmps.getD t undef)) a.tmps } := by
      obtain ⟨bt, bd⟩ := b
      obtain ⟨at_, ad⟩ := a
      simp only [Act.mk.injEq]
      refine ⟨?_, i2⟩
      apply Array.ext_getElem?
      intro t
      dsimp only at i3 i4
      rw [foldSet]
      by_cases h1 : t ∈ dstsOf ops
      · by_cases h2 : t < at_.size
        · have : t < bt.size := by omega
          simp [h1, h2, this]
        · simp [h2, i3]
      · simp only [h1, false_and, if_false]
        exact i4 t h1
    rw [hb]
    refine hQ _ W i1 fun t d hd ht => ?_
    obtain ⟨i, o, ho, e⟩ := mem_dsts.1 ht
    exact i5 i o t d (hl i (Array.getElem?_eq_some_iff.1 ho).1) ho e hd
/-- .. with what is wanted of them named ahead. -/
theorem region_reads_want {P : Program} {ops : Array Oper} {Q : Exit → Act → World → Prop} {id : Nat} {a : Act} {w : World} (hm : P.follows .mixedOrders = true) (hok : regOk ops = true) (ds : List Tmp) (hds : dstsOf ops = ds) (hlt : (ds.all fun t => decide (t < a.tmps.size)) = true)
    (pre : List (Nat × Rd)) (E0 : List (Tmp × Rd)) (want : List (Tmp × Rd)) (hE : (symAll P pre ops.toList 0 E0).map (fun E => want.map fun p => E.lookup p.1) = some (want.map fun p => some p.2))
    (h0 : ∀ p ∈ E0, Reads w p.2 (a.tmps.getD p.1 undef))
    (hpre : ∀ p ∈ pre, ∀ (o : Oper), ops[p.1]? = some o → ∀ (b : Act) (W : World), w.grownBy W none → (∀ q ∈ want, Operand.tmp q.1 ∈ o.op.operands → Reads W q.2 (b.eval (.tmp q.1))) → ∃ v, (execOp b.eval o).run P W = .ok (.value v) W ∧ Reads W p.2 v)
    (hQ : ∀ (vs : Tmp → Value) (W : World), w.grownBy W none → (∀ q ∈ want, q.1 ∈ ds → Reads W q.2 (vs q.1)) → Q .normal { a with tmps := ds.foldl (fun (ts : Array Value) t => ts.setIfInBounds t (vs t)) a.tmps } W) :
    (Code.region id ops true).wp P Q a w := by
  subst hds
  obtain ⟨E, hE1, hE2⟩ := Option.map_eq_some_iff.1 hE
  have hw : ∀ q ∈ want, E.lookup q.1 = some q.2 := fun q hq => by
    obtain ⟨i, hi⟩ := List.mem_iff_getElem?.1 hq
    have h1 := congrArg (fun l => l[i]?) hE2
    simpa [hi] using h1
  have hlk : ∀ {l : List (Nat × Rd)} {t : Nat} {d : Rd}, l.lookup t = some d → (t, d) ∈ l := fun {l t d} h => by
    induction l with
    | nil => cases h
    | cons q l ih =>
      obtain ⟨t', d'⟩ := q
      rw [List.lookup_cons] at h
      split at h
      · rename_i e
        simp only [Option.some.injEq] at h
        subst h
        rw [eq_of_beq e]
        exact List.mem_cons_self
      · exact List.mem_cons_of_mem _ (ih h)
  exact region_reads hm hok hlt pre E0 E hE1 (fun t d h => h0 _ (hlk h)) (fun i d o h ho b W hg hr => hpre _ (hlk h) o ho b W hg fun q hq hm => hr q.1 q.2 hm (hw q hq))
    (fun vs W hg hr => hQ vs W hg fun q hq hm => hr q.1 q.2 (hw q hq) hm)
end Go.Proofs.YtmbdaenjeeklfaaDoor

/- A region that draws its order, reads, calls, and makes boxes of what it read and was answered: in whatever order, at the end each box is there, by itself, and holds what it was to hold. No program. -/
namespace Go.Proofs.YtmbdaenjeeklfaaDoor
open Go.RowKit

/-- A box: its slot, its type, its zero cells, what it is to hold, the slot of that, the operations that make and fill it. -/
structure Bx where
  slot : Tmp
  ty : TypeId
  zs : Array Value
  cs : Array Value
  src : Tmp
  al : Nat
  st : Nat
/-- An operation that answers c, whatever has come ahead of it: by itself, or by a call. -/
def OpVal (P : Program) (o : Oper) (vals : List (Tmp × Value)) (w : World) (c : Value) : Prop :=
  ∀ (b : Act) (W : World), w.grownBy W none → (∀ t v, Operand.tmp t ∈ o.op.operands → vals.lookup t = some v → b.eval (.tmp t) = v) →
    ((execOp b.eval o).run P W = .ok (.value c) W ∨ ∃ f args, (execOp b.eval o).run P W = .ok (.enter f args) W ∧ Calls P f args W fun e w'' => e = .returned c ∧ W.grownBy w'' none)
/-- A box as it is: zero, or filled. -/
def Boxed (P : Program) (x : Bx) : Prop := (∀ W : World, (Instr.alloc x.ty true (.tuple #[])).run P W = .ok (.pointer (some ⟨W.heap.size, 0, none⟩)) (W.alloc (.cells x.zs x.ty))) ∧ (P.info? x.ty).map (·.size) = some x.cs.size ∧ x.zs.size = x.cs.size ∧ x.cs.all (·.oneCell') = true

/-- As regOk; of what does not bind nothing is asked. -/
def regOkB (ops : Array Oper) : Bool := ops.toList.zipIdx.all fun (o, i) => o.guard.isNone && (o.after.toList.all fun e => !Region.binds .any e || decide (e.on < i)) && depsOk ops o
theorem regOkB_at {ops : Array Oper} (h : regOkB ops = true) {i : Nat} {o : Oper} (hi : ops[i]? = some o) : o.guard = none ∧ (∀ e ∈ o.after, Region.binds .any e = true → e.on < i) ∧ depsOk ops o = true := by
  unfold regOkB at h
  rw [List.all_eq_true] at h
  have h1 := h (o, i) (List.mem_iff_getElem?.2 ⟨i, by rw [List.getElem?_zipIdx, Array.getElem?_toList, hi]; simp⟩)
  simp only [Bool.and_eq_true, List.all_eq_true, Bool.or_eq_true, Bool.not_eq_true', decide_eq_true_eq, Option.isNone_iff_eq_none] at h1
  refine ⟨h1.1.1, fun e he hb => ?_, h1.2⟩
  rcases h1.1.2 e (Array.mem_toList_iff.2 he) with h2 | h2
  · rw [hb] at h2; cases h2
  · exact h2
theorem all_listedB {ops : Array Oper} (hok : regOkB ops = true) {listed : Array Bool} (hs : listed.size = ops.size) (hr : Region.ready .any ops listed = []) : ∀ i, i < ops.size → listed.getD i false = true := by
  intro i
  induction i using Nat.strongRecOn with
  | _ i ih =>
    intro hi
    cases hl : listed.getD i false with
    | true => rfl
    | false =>
      have ho : ops[i]? = some ops[i] := Array.getElem?_eq_getElem hi
      have hm : i ∈ Region.ready .any ops listed := mem_ready.2 ⟨by simpa [hs, hi] using hl, ops[i], ho, fun e he hb => by
        have := (regOkB_at hok ho).2.1 e he hb
        exact ih e.on this (by omega)⟩
      rw [hr] at hm
      cases hm
theorem getD_set_at {l : Array Bool} {i : Nat} (h : i < l.size) : (l.setIfInBounds i true).getD i false = true := by simp [h]

theorem region_boxes {P : Program} {ops : Array Oper} {Q : Exit → Act → World → Prop} {id : Nat} {a : Act} {w : World} (hm : P.follows .mixedOrders = true) (hok : regOkB ops = true) (hlt : ((dstsOf ops).all fun t => decide (t < a.tmps.size)) = true)
    (hu : ∀ (i j : Nat) (oi oj : Oper) (t : Tmp), ops[i]? = some oi → ops[j]? = some oj → oi.dst = some t → oj.dst = some t → i = j)
    (vals : List (Tmp × Value)) (boxes : List Bx)
    (h0 : ∀ t v, vals.lookup t = some v → t ∉ dstsOf ops → a.tmps.getD t undef = v)
    (hcls : ∀ (i : Nat) (o : Oper), ops[i]? = some o → (∃ t c, o.dst = some t ∧ vals.lookup t = some c ∧ (∀ x ∈ boxes, x.slot ≠ t ∧ x.al ≠ i ∧ x.st ≠ i) ∧ OpVal P o vals w c) ∨ (∃ x ∈ boxes, x.al = i ∧ o.op = .alloc x.ty ∧ o.dst = some x.slot) ∨
      (∃ x ∈ boxes, x.st = i ∧ o.op = .store x.ty (.tmp x.slot) (.tmp x.src) ∧ o.dst = none ∧ ∃ oa, ops[x.al]? = some oa ∧ oa.dst = some x.slot))
    (hbx : ∀ x ∈ boxes, Boxed P x ∧ vals.lookup x.src = some (.agg x.cs))
    (hbnv : ∀ x ∈ boxes, ∀ t c, x.slot = t → vals.lookup t = some c → False)
    (hbu : ∀ x ∈ boxes, ∀ y ∈ boxes, (x.al = y.al → x = y) ∧ (x.st = y.st → x = y) ∧ (x.slot = y.slot → x = y) ∧ x.al ≠ y.st)
    (hQ : ∀ (vs : Tmp → Value) (W : World), w.grownBy W none → (∀ t v, vals.lookup t = some v → t ∈ dstsOf ops → vs t = v) → (∀ x ∈ boxes, (∃ o, ops[x.al]? = some o) → (∃ o, ops[x.st]? = some o) → ∃ B, vs x.slot = .pointer (some ⟨B, 0, none⟩) ∧ w.heap.size ≤ B ∧ Blk W B x.ty x.cs) →
      (∀ x ∈ boxes, ∀ y ∈ boxes, x.al ≠ y.al → (∃ o, ops[x.al]? = some o) → (∃ o, ops[y.al]? = some o) → ∀ B, vs x.slot = .pointer (some ⟨B, 0, none⟩) → vs y.slot ≠ .pointer (some ⟨B, 0, none⟩)) →
      Q .normal { a with tmps := (dstsOf ops).foldl (fun (ts : Array Value) t => ts.setIfInBounds t (vs t)) a.tmps } W) :
    (Code.region id ops true).wp P Q a w := by
  have hdl : ∀ t ∈ dstsOf ops, t < a.tmps.size := fun t ht => by simpa using List.all_eq_true.1 hlt t ht
  refine wp_region_any hm (wpAny_inv (fun listed b W => w.grownBy W none ∧ b.defers = a.defers ∧ b.tmps.size = a.tmps.size ∧ (∀ t, t ∉ dstsOf ops → b.tmps[t]? = a.tmps[t]?) ∧
    (∀ (i : Nat) (o : Oper) (t : Tmp) (c : Value), listed.getD i false = true → ops[i]? = some o → o.dst = some t → vals.lookup t = some c → b.tmps.getD t undef = c) ∧
    (∀ x ∈ boxes, listed.getD x.st false = true → listed.getD x.al false = true) ∧
    (∀ x ∈ boxes, listed.getD x.al false = true → ∃ B, b.tmps.getD x.slot undef = .pointer (some ⟨B, 0, none⟩) ∧ w.heap.size ≤ B ∧ Blk W B x.ty (if listed.getD x.st false = true then x.cs else x.zs)) ∧
    (∀ x ∈ boxes, ∀ y ∈ boxes, x.al ≠ y.al → listed.getD x.al false = true → listed.getD y.al false = true → ∀ B, b.tmps.getD x.slot undef = .pointer (some ⟨B, 0, none⟩) → b.tmps.getD y.slot undef ≠ .pointer (some ⟨B, 0, none⟩))) ?_ ?_ ops.size _ _ _ (by simp) (by
      have := List.countP_le_length (p := (! ·)) (l := (Array.replicate ops.size false).toList)
      simpa using this) ?_)
  · rintro listed b W hs ⟨i1, i2, i3, i4, i5, i6, i7, i8⟩ i hi
    obtain ⟨hni, o, ho, hall⟩ := mem_ready.1 hi
    have hil : i < ops.size := (Array.getElem?_eq_some_iff.1 ho).1
    have hni' : listed.getD i false = false := by
      have hl : i < listed.size := by omega
      simpa [hl] using hni
    obtain ⟨g1, g2, g3⟩ := regOkB_at hok ho
    have henv : ∀ t v, Operand.tmp t ∈ o.op.operands → vals.lookup t = some v → b.eval (.tmp t) = v := fun t v ht hv => by
      unfold depsOk at g3
      rw [List.all_eq_true] at g3
      have h1 := g3 (.tmp t) (Array.mem_toList_iff.2 ht)
      simp only [Bool.or_eq_true, List.all_eq_true, List.any_eq_true, Bool.and_eq_true, bne_iff_ne, ne_eq, beq_iff_eq] at h1
      rcases h1 with h1 | ⟨e, he, hb, hx⟩
      · have h4 : t ∉ dstsOf ops := fun hm => by
          obtain ⟨i, oi, hi, e⟩ := mem_dsts.1 hm
          exact h1 oi (List.mem_iff_getElem?.2 ⟨i, by rw [Array.getElem?_toList]; exact hi⟩) e
        have h5 := i4 t h4
        show b.tmps.getD t undef = v
        rw [Array.getD_eq_getD_getElem?, h5, ← Array.getD_eq_getD_getElem?]
        exact h0 t v hv h4
      · obtain ⟨oj, hoj, e1⟩ := Option.bind_eq_some_iff.1 hx
        exact i5 e.on oj t v (hall e (Array.mem_toList_iff.1 he) hb) hoj e1 hv
    unfold wpOp
    simp only [ho]
    rw [if_pos (by simp [Region.wanted, g1])]
    refine .inl ?_
    have hset : ∀ j, i ≠ j → (listed.setIfInBounds i true).getD j false = listed.getD j false := fun j hij => getD_set_ne false hij
    rcases hcls i o ho with ⟨t, c, b1, b2, b3, b4⟩ | ⟨x, hx, hxi, b1, b2⟩ | ⟨x, hx, hxi, b1, b2, oa, hoa, hoad⟩
    · have key : ∀ W', W.grownBy W' none → w.grownBy W' none ∧ (b.put o.dst c).defers = a.defers ∧ (b.put o.dst c).tmps.size = a.tmps.size ∧ (∀ t, t ∉ dstsOf ops → (b.put o.dst c).tmps[t]? = a.tmps[t]?) ∧
          (∀ (j : Nat) (oj : Oper) (t' : Tmp) (c' : Value), (listed.setIfInBounds i true).getD j false = true → ops[j]? = some oj → oj.dst = some t' → vals.lookup t' = some c' → (b.put o.dst c).tmps.getD t' undef = c') ∧
          (∀ x ∈ boxes, (listed.setIfInBounds i true).getD x.st false = true → (listed.setIfInBounds i true).getD x.al false = true) ∧
          (∀ x ∈ boxes, (listed.setIfInBounds i true).getD x.al false = true → ∃ B, (b.put o.dst c).tmps.getD x.slot undef = .pointer (some ⟨B, 0, none⟩) ∧ w.heap.size ≤ B ∧ Blk W' B x.ty (if (listed.setIfInBounds i true).getD x.st false = true then x.cs else x.zs)) ∧
          (∀ x ∈ boxes, ∀ y ∈ boxes, x.al ≠ y.al → (listed.setIfInBounds i true).getD x.al false = true → (listed.setIfInBounds i true).getD y.al false = true → ∀ B, (b.put o.dst c).tmps.getD x.slot undef = .pointer (some ⟨B, 0, none⟩) → (b.put o.dst c).tmps.getD y.slot undef ≠ .pointer (some ⟨B, 0, none⟩)) := fun W' hg => by
        have hsl : ∀ t', t ≠ t' → (b.put o.dst c).tmps.getD t' undef = b.tmps.getD t' undef := fun t' hne => by
          rw [b1]
          simp [Act.put, Array.getElem?_setIfInBounds_ne hne]
        refine ⟨only_trans i1 hg, by rw [b1]; exact i2, by simp [Act.put, b1, i3], fun t' ht' => ?_, fun j oj t' c' hl hoj e1 e2 => ?_, fun x hx hl => ?_, fun x hx hl => ?_, fun x hx y hy hne hlx hly B hB => ?_⟩
        · have hne : t ≠ t' := fun e => ht' (mem_dsts.2 ⟨i, o, ho, by rw [b1, e]⟩)
          rw [b1]
          simp only [Act.put]
          rw [Array.getElem?_setIfInBounds_ne hne]
          exact i4 t' ht'
        · by_cases hij : i = j
          · subst hij
            rw [ho] at hoj
            obtain rfl := Option.some.inj hoj
            rw [b1] at e1
            obtain rfl := Option.some.inj e1
            rw [b2] at e2
            obtain rfl := Option.some.inj e2
            have : t < b.tmps.size := by rw [i3]; exact hdl t (mem_dsts.2 ⟨i, o, ho, b1⟩)
            rw [b1]
            simp [Act.put, this]
          · have hne : t ≠ t' := fun e => hij (hu i j o oj t ho hoj b1 (by rw [e]; exact e1))
            rw [hset j hij] at hl
            rw [hsl t' hne]
            exact i5 j oj t' c' hl hoj e1 e2
        · obtain ⟨n1, n2, n3⟩ := b3 x hx
          rw [hset _ (fun e => n3 e.symm)] at hl
          rw [hset _ (fun e => n2 e.symm)]
          exact i6 x hx hl
        · obtain ⟨n1, n2, n3⟩ := b3 x hx
          rw [hset _ (fun e => n2 e.symm)] at hl
          rw [hset _ (fun e => n3 e.symm), hsl _ (fun e => n1 e.symm)]
          obtain ⟨B, hB, hw, hblk⟩ := i7 x hx hl
          exact ⟨B, hB, hw, hblk.kept hg⟩
        · obtain ⟨n1, n2, n3⟩ := b3 x hx
          obtain ⟨m1, m2, m3⟩ := b3 y hy
          rw [hset _ (fun e => n2 e.symm)] at hlx
          rw [hset _ (fun e => m2 e.symm)] at hly
          rw [hsl _ (fun e => n1 e.symm)] at hB
          rw [hsl _ (fun e => m1 e.symm)]
          exact i8 x hx y hy hne hlx hly B hB
      unfold Oper.wp
      rcases b4 b W i1 henv with hv | ⟨f, args, hv, hcall⟩
      · rw [hv, Oper.upon_value]
        exact key W (only_refl W none)
      · rw [hv, Oper.upon_enter]
        refine hcall.mono fun e w'' hh => ?_
        obtain ⟨rfl, hg⟩ := hh
        exact key w'' hg
    · subst hxi
      obtain ⟨⟨r1, r2, r3, r4⟩, _⟩ := hbx x hx
      have hv : (execOp b.eval o).run P W = .ok (.value (.pointer (some ⟨W.heap.size, 0, none⟩))) (W.alloc (.cells x.zs x.ty)) := by
        unfold execOp
        simp only [b1, Sem.run_bind, r1, Result.andThen_ok, Sem.run_pure]
      have hnst : listed.getD x.st false = false := by
        cases h : listed.getD x.st false with
        | false => rfl
        | true => rw [i6 x hx h] at hni'; cases hni'
      have hslot : x.slot < b.tmps.size := by rw [i3]; exact hdl _ (mem_dsts.2 ⟨_, o, ho, b2⟩)
      have hsl : ∀ t', x.slot ≠ t' → (b.put o.dst (.pointer (some ⟨W.heap.size, 0, none⟩))).tmps.getD t' undef = b.tmps.getD t' undef := fun t' hne => by
        rw [b2]
        simp [Act.put, Array.getElem?_setIfInBounds_ne hne]
      have hself : (b.put o.dst (.pointer (some ⟨W.heap.size, 0, none⟩))).tmps.getD x.slot undef = .pointer (some ⟨W.heap.size, 0, none⟩) := by
        rw [b2]
        simp [Act.put, hslot]
      have hself1 : (listed.setIfInBounds x.al true).getD x.al false = true := getD_set_at (by omega)
      have hst : ∀ y ∈ boxes, (listed.setIfInBounds x.al true).getD y.st false = listed.getD y.st false := fun y hy => hset _ ((hbu x hx y hy).2.2.2)
      unfold Oper.wp
      rw [hv, Oper.upon_value]
      refine ⟨only_alloc i1 _, by rw [b2]; exact i2, by simp [Act.put, b2, i3], fun t' ht' => ?_, fun j oj t' c' hl hoj e1 e2 => ?_, fun y hy hl => ?_, fun y hy hl => ?_, fun y hy z hz hne hly hlz B hB => ?_⟩
      · have hne : x.slot ≠ t' := fun e => ht' (mem_dsts.2 ⟨_, o, ho, by rw [b2, e]⟩)
        rw [b2]
        simp only [Act.put]
        rw [Array.getElem?_setIfInBounds_ne hne]
        exact i4 t' ht'
      · by_cases hij : x.al = j
        · subst hij
          rw [ho] at hoj
          obtain rfl := Option.some.inj hoj
          exfalso
          rcases hcls _ o ho with ⟨t, c, c1, c2, c3, _⟩ | ⟨y, hy, hyi, c1, c2⟩ | ⟨y, hy, hyi, c1, _⟩
          · exact (c3 x hx).2.1 rfl
          · exact hbnv x hx t' c' (by rw [b2] at e1; exact (Option.some.inj e1)) e2
          · rw [b1] at c1; cases c1
        · have hne : x.slot ≠ t' := fun e => hij (hu _ j o oj t' ho hoj (by rw [b2, e]) e1)
          rw [hset j hij] at hl
          rw [hsl t' hne]
          exact i5 j oj t' c' hl hoj e1 e2
      · rw [hst y hy] at hl
        by_cases hxy : x.al = y.al
        · rw [← hxy]; exact hself1
        · rw [hset _ hxy]; exact i6 y hy hl
      · by_cases hxy : x.al = y.al
        · obtain rfl := (hbu x hx y hy).1 hxy
          rw [hst x hx, hnst]
          exact ⟨_, hself, i1.size, Blk.new W _ _⟩
        · rw [hset _ hxy] at hl
          rw [hst y hy, hsl _ (fun e => hxy (by rw [(hbu x hx y hy).2.2.1 e]))]
          obtain ⟨B, hB, hw, hblk⟩ := i7 y hy hl
          exact ⟨B, hB, hw, hblk.alloc _⟩
      · by_cases hxy : x.al = y.al
        · obtain rfl := (hbu x hx y hy).1 hxy
          have hxz : x.al ≠ z.al := hne
          rw [hself] at hB
          rw [hset _ hxz] at hlz
          rw [hsl _ (fun e => hxz (by rw [(hbu x hx z hz).2.2.1 e]))]
          obtain ⟨B', hB', _, hblk⟩ := i7 z hz hlz
          have := hblk.lt
          intro hh
          rw [hB'] at hh
          rw [← hB] at hh
          simp only [Value.pointer.injEq, Option.some.injEq, Addr.mk.injEq, and_true] at hh
          omega
        · rw [hset _ hxy] at hly
          rw [hsl _ (fun e => hxy (by rw [(hbu x hx y hy).2.2.1 e]))] at hB
          by_cases hxz : x.al = z.al
          · obtain rfl := (hbu x hx z hz).1 hxz
            rw [hself]
            obtain ⟨B', hB', _, hblk⟩ := i7 y hy hly
            have := hblk.lt
            intro hh
            rw [hB'] at hB
            rw [← hB] at hh
            simp only [Value.pointer.injEq, Option.some.injEq, Addr.mk.injEq, and_true] at hh
            omega
          · rw [hset _ hxz] at hlz
            rw [hsl _ (fun e => hxz (by rw [(hbu x hx z hz).2.2.1 e]))]
            exact i8 y hy z hz hne hly hlz B hB
    · subst hxi
      obtain ⟨⟨r1, r2, r3, r4⟩, rv⟩ := hbx x hx
      have hops : o.op.operands = #[.tmp x.slot, .tmp x.src] := by rw [b1]; rfl
      have hsrc : b.eval (.tmp x.src) = .agg x.cs := henv _ _ (by rw [hops]; simp) rv
      have hal : listed.getD x.al false = true := by
        unfold depsOk at g3
        rw [List.all_eq_true] at g3
        have h1 := g3 (.tmp x.slot) (Array.mem_toList_iff.2 (by rw [hops]; simp))
        simp only [Bool.or_eq_true, List.all_eq_true, List.any_eq_true, Bool.and_eq_true, bne_iff_ne, ne_eq, beq_iff_eq] at h1
        rcases h1 with h1 | ⟨e, he, hb, hx'⟩
        · exact absurd hoad (h1 oa (List.mem_iff_getElem?.2 ⟨_, by rw [Array.getElem?_toList]; exact hoa⟩))
        · obtain ⟨oj, hoj, e1⟩ := Option.bind_eq_some_iff.1 hx'
          have := hall e (Array.mem_toList_iff.1 he) hb
          rw [hu _ _ oj oa x.slot hoj hoa e1 hoad] at this
          exact this
      obtain ⟨B, hB, hwB, hblk⟩ := i7 x hx hal
      rw [if_neg (by rw [hni']; simp)] at hblk
      have hg : W.grownBy (W.setRow B x.cs) (some B) := ⟨rfl, rfl, rfl, by simp, fun k _ hk => setRow_other W B k x.cs (fun e => hk (by rw [e]))⟩
      refine wp_store_row x.ty (.tmp x.slot) (.tmp x.src) b1 B x.cs hB hsrc x.ty x.zs hblk r2 r3 r4 ?_
      have hput : b.put o.dst undef = b := by rw [b2]; rfl
      rw [hput]
      have hst' : (listed.setIfInBounds x.st true).getD x.st false = true := getD_set_at (by omega)
      have hal' : ∀ y ∈ boxes, (listed.setIfInBounds x.st true).getD y.al false = listed.getD y.al false := fun y hy => hset _ (fun e => (hbu y hy x hx).2.2.2 e.symm)
      refine ⟨only_new i1 hg hwB, i2, i3, i4, fun j oj t' c' hl hoj e1 e2 => ?_, fun y hy hl => ?_, fun y hy hl => ?_, fun y hy z hz hne hly hlz B' hB' => ?_⟩
      · by_cases hij : x.st = j
        · subst hij
          rw [ho] at hoj
          obtain rfl := Option.some.inj hoj
          rw [b2] at e1
          cases e1
        · rw [hset j hij] at hl
          exact i5 j oj t' c' hl hoj e1 e2
      · rw [hal' y hy]
        by_cases hxy : x.st = y.st
        · obtain rfl := (hbu x hx y hy).2.1 hxy
          exact hal
        · rw [hset _ hxy] at hl
          exact i6 y hy hl
      · rw [hal' y hy] at hl
        by_cases hxy : x.st = y.st
        · obtain rfl := (hbu x hx y hy).2.1 hxy
          rw [if_pos hst']
          exact ⟨B, hB, hwB, setRow_heap W B x.zs x.cs x.ty _ hblk⟩
        · rw [hset _ hxy]
          obtain ⟨B', hB', hw', hblk'⟩ := i7 y hy hl
          refine ⟨B', hB', hw', hblk'.grown hg (fun e => ?_)⟩
          have hne : x.al ≠ y.al := fun e => hxy (by rw [(hbu x hx y hy).1 e])
          simp only [Option.some.injEq] at e
          subst e
          exact i8 x hx y hy hne hal hl _ hB hB'
      · rw [hal' y hy] at hly
        rw [hal' z hz] at hlz
        exact i8 y hy z hz hne hly hlz B' hB'
  · rintro listed b W hs ⟨i1, i2, i3, i4, i5, i6, i7, i8⟩ hr
    have hl := all_listedB hok hs hr
    have hlo : ∀ {i o}, ops[i]? = some o → listed.getD i false = true := fun h => hl _ (Array.getElem?_eq_some_iff.1 h).1
    have hb : b = { a with tmps := (dstsOf ops).foldl (fun (ts : Array Value) t => ts.setIfInBounds t (b.tmps.getD t undef)) a.tmps } := by
      obtain ⟨bt, bd⟩ := b
      obtain ⟨at_, ad⟩ := a
      simp only [Act.mk.injEq]
      refine ⟨?_, i2⟩
      apply Array.ext_getElem?
      intro t
      dsimp only at i3 i4
      rw [foldSet]
      by_cases h1 : t ∈ dstsOf ops
      · by_cases h2 : t < at_.size
        · have : t < bt.size := by omega
          simp [h1, h2, this]
        · simp [h2, i3]
      · simp only [h1, false_and, if_false]
        exact i4 t h1
    rw [hb]
    refine hQ _ W i1 (fun t v hv ht => ?_) (fun x hx ⟨oa, ha⟩ ⟨os, hs'⟩ => ?_) (fun x hx y hy hne ⟨oa, ha⟩ ⟨ob, hb'⟩ B hB => ?_)
    · obtain ⟨i, o, ho, e⟩ := mem_dsts.1 ht
      exact i5 i o t v (hlo ho) ho e hv
    · obtain ⟨B, hB, hw, hblk⟩ := i7 x hx (hlo ha)
      rw [if_pos (hlo hs')] at hblk
      exact ⟨B, hB, hw, hblk⟩
    · exact i8 x hx y hy hne (hlo ha) (hlo hb') B hB
  · have hno : ∀ j, (Array.replicate ops.size false).getD j false = false := fun j => by
      simp only [Array.getD_eq_getD_getElem?, Array.getElem?_replicate]
      split <;> rfl
    refine ⟨only_drew (only_refl w none), rfl, rfl, fun _ _ => rfl, fun i o t d hl => ?_, fun x _ hl => ?_, fun x _ hl => ?_, fun x _ y _ _ hl => ?_⟩
    all_goals (rw [hno] at hl; cases hl)
end Go.Proofs.YtmbdaenjeeklfaaDoor

/- A range over a function that tells the things of one list, one by one, and keeps cells of its own between two rounds; the loop's variable lies in a block of its own, laid anew in each round. No program. -/
namespace Go.Proofs.YtmbdaenjeeklfaaDoor
open Go.RowKit

variable {F : Fence} {n : Nat} {P : Program}

/-- All cells lie as they lay. -/
structure KeepsCells (X Y : World) : Prop where
  size : X.heap.size ≤ Y.heap.size
  same : ∀ (k : Nat) (o : Obj), X.heap[k]? = some o → o.isCells = true → Y.heap[k]? = some o
theorem KeepsCells.refl (X : World) : KeepsCells X X := ⟨Nat.le_refl _, fun _ _ h _ => h⟩
theorem KeepsCells.trans {A B C : World} (h : KeepsCells A B) (k : KeepsCells B C) : KeepsCells A C := ⟨Nat.le_trans h.size k.size, fun i o hi ho => k.same i o (h.same i o hi ho) ho⟩
theorem KeepsCells.putObj {W : World} {l : Nat} {o : Obj} (o' : Obj) (h : W.heap[l]? = some o) (hc : o.isCells = false) : KeepsCells W (W.putObj l o') :=
  ⟨by simp, fun k o'' hk ho => by
    by_cases e : k = l
    · subst e; rw [h] at hk; cases hk; rw [hc] at ho; cases ho
    · exact (World.putObj_heap_other e).trans hk⟩
theorem KeepsCells.grown {X Y : World} (h : X.grownBy Y none) : KeepsCells X Y := ⟨h.size, fun k o hk _ => (h.block k (Array.getElem?_eq_some_iff.1 hk).1 (fun e => by cases e)).trans hk⟩
theorem KeepsCells.alloc (W : World) (o : Obj) : KeepsCells W (W.alloc o) := .grown (World.grownBy_alloc W o none)
theorem Blk.keeps {X Y : World} {g : Nat} {t : TypeId} {cs : Array Value} (h : Blk X g t cs) (hk : KeepsCells X Y) : Blk Y g t cs := hk.same g _ h rfl
theorem KeepsCells.cell {X Y : World} (h : KeepsCells X Y) {a : Addr} {v : Value} (hc : X.cell? a = some v) : Y.cell? a = some v := by
  unfold World.cell? at hc ⊢
  cases hx : X.heap[a.block]? with
  | none => rw [hx] at hc; simp at hc
  | some o =>
    have ho : o.isCells = true := by
      rw [hx] at hc
      cases o <;> first | rfl | (simp at hc)
    rw [h.same _ _ hx ho]
    rw [hx] at hc
    exact hc
theorem only_keepsFrom {X Y : World} (h : X.grownBy Y none) (B : Nat) : KeepsFrom B X Y := KeepsFrom.of_grownBy h (fun _ e => by cases e)

/-- What the function owes: it tells L's things, one by one; J, what its caller keeps, speaks of nothing that is laid from its call on; Kp, what a round that goes on keeps; T0, what holds ahead. -/
def Tells {α : Type} (F : Fence) (n : Nat) (P : Program) (gf : Nat) (lb : Array Value) (encs : α → Array Value) (Kp : World → World → Prop) (T0 : World → Prop) (L : List α) : Prop :=
  ∀ (l : Nat) (J Jx : List α → World → Prop) (W : World), (∀ s X Y, J s X → Below W.heap.size X Y → J s Y) →
    (∀ pre x X, pre ++ [x] <+: L → J pre X → YieldAt F (n - 1) P l (encs x) X fun e Y => (e = .returned (.bool true) ∧ J (pre ++ [x]) Y ∧ Kp X Y) ∨ (e = .returned (.bool false) ∧ Jx (pre ++ [x]) Y)) →
    J [] W → T0 W →
    CallsIn F n P gf (#[.func (.yield l) #[] #[]] ++ lb) W fun e Y => (∃ v, e = .returned v) ∧ (J L Y ∨ ∃ pre, pre <+: L ∧ pre ≠ [] ∧ Jx pre Y)

/-- What the law itself has laid: the loop's record at D + 1, the rounds' deferred calls at D. -/
def LaidAt (rec : LoopState → Option Code → Loop) (D : Nat) (s : LoopState) (p : Option Code) (W : World) : Prop :=
  W.heap[D + 1]? = some (.loop (rec s p)) ∧ W.heap[D]? = some (.deferred (some []))
theorem LaidAt.keep {rec : LoopState → Option Code → Loop} {D B : Nat} {s : LoopState} {p : Option Code} {X Y : World} (h : LaidAt rec D s p X) (hD : B ≤ D) (hk : KeepsFrom B X Y) : LaidAt rec D s p Y :=
  ⟨hk.same _ _ (by omega) h.1 rfl, hk.same _ _ hD h.2 rfl⟩
theorem LaidAt.below {rec : LoopState → Option Code → Loop} {D B : Nat} {s : LoopState} {p : Option Code} {X Y : World} (h : LaidAt rec D s p X) (hD : D + 2 ≤ B) (hk : Below B X Y) : LaidAt rec D s p Y :=
  ⟨(hk.block _ (by omega)).trans h.1, (hk.block _ (by omega)).trans h.2⟩
theorem LaidAt.put {rec : LoopState → Option Code → Loop} {D : Nat} {s s' : LoopState} {p p' : Option Code} {W : World} (h : LaidAt rec D s p W) : LaidAt rec D s' p' (W.putObj (D + 1) (.loop (rec s' p'))) :=
  ⟨World.putObj_heap_same (Array.getElem?_eq_some_iff.1 h.1).1, (World.putObj_heap_other (by omega)).trans h.2⟩
theorem below_putObj {B l : Nat} (h : B ≤ l) (W : World) (o : Obj) : Below B W (W.putObj l o) := ⟨rfl, rfl, rfl, by simp, fun k hk => World.putObj_heap_other (by omega)⟩

/-- What the caller owes. -/
theorem wpIn_rangeFunc_tells {α : Type} {g : Operand} {ps : Array Tmp} {assign body : Code} {Q : Exit → Act → World → Prop} {a : Act} {w : World}
    (hro : F.round = none) (h1 : 1 ≤ n) {gf : Nat} {lb : Array Value} (hg : a.eval g = .func (.func gf) #[] lb) (hFg : F.fn gf) (eg : ∀ args w, (callFunc gf args).run P w = .ok (.enter gf args) w)
    {encs : α → Array Value} {Kp : World → World → Prop} {T0 : World → Prop} {L : List α} (hseq : Tells F (n - 1) P gf lb encs Kp T0 L)
    (hKt : ∀ {A B C : World}, Kp A B → Kp B C → Kp A C) (hKp : ∀ (W : World) (l : Nat) (o o' : Obj), W.heap[l]? = some o → o.isCells = false → Kp W (W.putObj l o')) (hKa : ∀ (W : World) (o : Obj), Kp W (W.alloc o))
    (hps : ∀ x, (encs x).size = ps.size) (hT0 : ∀ W, Below w.heap.size w W → T0 W)
    (I : List α → World → Prop) (Ix : Code → List α → World → Prop) (hI : ∀ s X Y, I s X → Below w.heap.size X Y → I s Y) (hIx : ∀ c s X Y, Ix c s X → Below w.heap.size X Y → Ix c s Y)
    (h0 : I [] w) (T : TypeId) (cs : α → Array Value) (a₁ : α → Nat → Act)
    (hassign : ∀ (l : Nat) (x : α) (W : World) (K : Act → World → Prop), K (a₁ x W.heap.size) (W.alloc (.cells (cs x) T)) →
      assign.wpIn (F.inRound l) (n - 1 - 1) P (Exit.then K (fun _ _ _ => False)) { tmps := (ps.zip (encs x)).foldl (fun t (p, v) => t.setIfInBounds p v) a.tmps, defers := [] } W)
    (hbody : ∀ (l : Nat) (pre : List α) (x : α) (W : World) (Bx : Nat), pre ++ [x] <+: L → w.heap.size ≤ Bx → I pre W → Blk W Bx T (cs x) → body.wpIn (F.inRound l) (n - 1 - 1) P (ownPostG w.heap.size Kp I Ix (pre ++ [x]) W) (a₁ x Bx) W)
    (hdone : ∀ (D : Nat) (W : World), w.heap.size ≤ D → I L W → W.heap[D]? = some (.deferred (some [])) → Q .normal { a with defers := { target := .collected D, args := #[] } :: a.defers } W)
    (hstop : ∀ (D : Nat) (c : Code) (pre : List α) (W : World), w.heap.size ≤ D → pre <+: L → pre ≠ [] → Ix c pre W → W.heap[D]? = some (.deferred (some [])) → c.wpIn F n P Q { a with defers := { target := .collected D, args := #[] } :: a.defers } W) :
    (Code.rangeFunc g ps assign body).wpIn F n P Q a w := by
  refine wpIn_rangeFunc fun fn hfn => ?_
  rw [hro]
  obtain ⟨rec, hrec⟩ : ∃ rec : LoopState → Option Code → Loop, rec = fun st pe => { state := st, pending := pe, fn, tmps := a.tmps, params := ps, assign, body, defers := w.heap.size } := ⟨_, rfl⟩
  obtain ⟨W1, hW1⟩ : ∃ W1, (w.alloc (.deferred (some []))).alloc (.loop (rec .ready none)) = W1 := ⟨_, rfl⟩
  have L0 : LaidAt rec w.heap.size .ready none W1 := by
    rw [← hW1]
    refine ⟨?_, (Below.heap_alloc _ _ _ (by simp)).trans (World.alloc_heap_new w _)⟩
    have := World.alloc_heap_new (w.alloc (.deferred (some []))) (.loop (rec .ready none))
    rwa [World.size_alloc] at this
  have hb1 : Below w.heap.size w W1 := hW1 ▸ ((Below.refl _ _).alloc (Nat.le_refl _) _).alloc (by simp) _
  have hz1 : W1.heap.size = w.heap.size + 2 := by rw [← hW1]; simp
  have I0 : I [] W1 := hI _ _ _ h0 hb1
  refine ⟨w.heap.size + 1, [{ target := .collected w.heap.size, args := #[] }], W1, { target := .fn (.func gf) lb, args := #[.func (.yield (w.heap.size + 1)) #[] #[]] }, W1, gf,
    #[.func (.yield (w.heap.size + 1)) #[] #[]] ++ lb, W1, ?_, ?_, ?_, ?_, fun _ => h1, ?_⟩
  · rw [← hW1, hrec]
    exact run_enterLoop_outer _ _ _ _ _
  · simp only [resolve, hg]
    simp [go_sem]
  · intro f' hf'
    simp [Target.leads] at hf'
    exact hf' ▸ hFg
  · simp [invoke, go_sem, eg]
  clear hW1
  refine (hseq (w.heap.size + 1) (fun pre W => I pre W ∧ LaidAt rec w.heap.size .ready none W) (fun pre W => ∃ c, Ix c pre W ∧ LaidAt rec w.heap.size .done (some c) W) W1
    (fun s X Y ⟨hi, hl⟩ hs => ⟨hI s X Y hi (hs.mono (by omega)), hl.below (by omega) hs⟩) ?_ ⟨I0, L0⟩ (hT0 _ hb1)).mono ?_
  · rintro pre x X hx ⟨hi, hl⟩
    have hy := run_yield (P := P) (args := encs x) hl.1 (by rw [hrec]; exact hps x)
    rw [hrec] at hy
    refine ⟨fn, _, assign, body, hy, roundIn_of_wpIn hfn (hassign _ x X _ ?_)⟩
    have hXD : w.heap.size + 1 < X.heap.size := (Array.getElem?_eq_some_iff.1 hl.1).1
    have bX := Blk.new X T (cs x)
    have kX := hKa X (.cells (cs x) T)
    have hl0 : LaidAt rec w.heap.size .ready none (X.alloc (.cells (cs x) T)) := hl.keep (Nat.le_refl _) ((KeepsOthers.alloc X _).from _)
    have hi0 : I pre (X.alloc (.cells (cs x) T)) := hI _ _ _ hi ((Below.refl _ X).alloc (by omega) _)
    generalize X.alloc (.cells (cs x) T) = X' at *
    have hb := run_beginRound (P := P) hl0.1 (by rw [hrec])
    have hbusy : ({ rec .ready none with state := .busy } : Loop) = rec .busy none := by rw [hrec]
    rw [hbusy] at hb
    have hl2 : LaidAt rec w.heap.size .busy none (X'.putObj (w.heap.size + 1) (.loop (rec .busy none))) := hl0.put
    have hi2 := hI _ _ _ hi0 (below_putObj (Nat.le_succ _) X' (.loop (rec .busy none)))
    have bX2 : Blk (X'.putObj (w.heap.size + 1) (.loop (rec .busy none))) X.heap.size T (cs x) := bX.keeps (.putObj _ hl0.1 rfl)
    have kX2 := hKt kX (hKp X' (w.heap.size + 1) _ (.loop (rec .busy none)) hl0.1 rfl)
    refine ⟨_, hb, wpIn_mono (hbody _ pre x _ X.heap.size hx (by omega) hi2 bX2) ?_⟩
    have fin : ∀ (j : Option Code) (Y : World), KeepsFrom w.heap.size (X'.putObj (w.heap.size + 1) (.loop (rec .busy none))) Y →
        LaidAt rec w.heap.size .busy none Y ∧ (Instr.endRound (w.heap.size + 1) j).run P Y = .ok (.bool j.isNone) (Y.putObj (w.heap.size + 1) (.loop (rec (if j.isNone then .ready else .done) j))) := fun j Y hk => by
      have h2 := hl2.keep (Nat.le_refl _) hk
      refine ⟨h2, ?_⟩
      have := run_endRound (P := P) j h2.1
      rw [hrec] at this ⊢
      exact this
    have out : ∀ (c : Code) (Y : World), KeepsFrom w.heap.size (X'.putObj (w.heap.size + 1) (.loop (rec .busy none))) Y → Ix c (pre ++ [x]) Y →
        ∃ v Y', (Instr.endRound (w.heap.size + 1) (some c)).run P Y = .ok v Y' ∧ ((Ending.returned v = .returned (.bool true) ∧ (I (pre ++ [x]) Y' ∧ LaidAt rec w.heap.size .ready none Y') ∧ Kp X Y') ∨ (Ending.returned v = .returned (.bool false) ∧ ∃ c, Ix c (pre ++ [x]) Y' ∧ LaidAt rec w.heap.size .done (some c) Y')) := fun c Y hk hx => by
      obtain ⟨h2, hr⟩ := fin (some c) Y hk
      exact ⟨_, _, hr, .inr ⟨rfl, c, hIx _ _ _ _ hx (below_putObj (Nat.le_succ _) _ _), h2.put⟩⟩
    intro e a3 Y hp
    cases e with
    | normal =>
      obtain ⟨hk, hkp, hi3⟩ := hp
      obtain ⟨h2, hr⟩ := fin none Y hk
      exact ⟨_, _, hr, .inl ⟨rfl, ⟨hI _ _ _ hi3 (below_putObj (Nat.le_succ _) _ _), h2.put⟩, hKt kX2 (hKt hkp (hKp _ _ _ _ h2.1 rfl))⟩⟩
    | ret => exact out _ Y hp.1 hp.2
    | exit id => exact out _ Y hp.1 hp.2
    | goto t => exact out _ Y hp.1 hp.2
    | panic ch => exact hp.elim
    | outgrown => exact hp.elim
  · rintro e Y ⟨⟨v, rfl⟩, ⟨hi, hl⟩ | ⟨pre, hpre, hne, c, hx, hl⟩⟩
    · have hr := run_endLoop (P := P) hl.1 (by rw [hrec]; simp)
      rw [hrec] at hr
      exact ⟨none, _, hr, hdone _ _ (Nat.le_refl _) (hI _ _ _ hi (below_putObj (Nat.le_succ _) _ _)) ((World.putObj_heap_other (by omega)).trans hl.2)⟩
    · have hr := run_endLoop (P := P) hl.1 (by rw [hrec]; simp)
      rw [hrec] at hr
      exact ⟨some c, _, hr, hstop _ c pre _ (Nat.le_refl _) hpre hne (hIx _ _ _ _ hx (below_putObj (Nat.le_succ _) _ _)) ((World.putObj_heap_other (by omega)).trans hl.2)⟩

/-! ### Leaving with marks -/
abbrev mark (D : Nat) : Deferred := { target := .collected D, args := #[] }
/-- Blocks that are no cells are turned, all of them from B on. -/
def Shuts (B : Nat) (X Y : World) : Prop := Below B X Y ∧ KeepsCells X Y
theorem leaves_marks {fn : Func} {tmps : Array Value} {R : Ending → World → Prop} {B : Nat} : ∀ (Ds : List Nat) (W : World), Ds.Nodup → (∀ D ∈ Ds, B ≤ D ∧ W.heap[D]? = some (.deferred (some []))) →
    (∀ W', Shuts B W W' → LeavesIn F n P fn tmps R [] .returning W') → LeavesInM F n P fn tmps R (Ds.map mark) .returning W
  | [], W, _, _, h => h W ⟨Below.refl _ _, .refl _⟩
  | D :: Ds, W, hn, hd, h => by
    rw [List.nodup_cons] at hn
    have hD := hd D (List.mem_cons_self)
    refine ⟨by simp, .inl ⟨D, _, rfl, run_takeDeferred hD.2, leaves_marks Ds _ hn.2 (fun D' hD' => ⟨(hd D' (List.mem_cons_of_mem _ hD')).1, ?_⟩) (fun W' hW' => h W' ⟨(below_putObj hD.1 _ _).trans hW'.1, (KeepsCells.putObj _ hD.2 rfl).trans hW'.2⟩)⟩⟩
    exact (World.putObj_heap_other (fun e => hn.1 (by subst e; exact hD'))).trans (hd D' (List.mem_cons_of_mem _ hD')).2
theorem marks_ret {fn : Func} {tmps : Array Value} {R : Ending → World → Prop} {B : Nat} (Ds : List Nat) (W : World) (hn : Ds.Nodup) (hd : ∀ D ∈ Ds, B ≤ D ∧ W.heap[D]? = some (.deferred (some [])))
    (h : ∀ W', Shuts B W W' → ∃ v, (results fn tmps).run P W' = .ok v W' ∧ R (.returned v) W') : bodyPostM F n P fn R .ret { tmps := tmps, defers := Ds.map mark } W :=
  leaves_marks Ds W hn hd h
theorem ret_unmarked {fn : Func} {tmps : Array Value} {R : Ending → World → Prop} {W : World} {v : Value} (hr : (results fn tmps).run P W = .ok v W) (h : R (.returned v) W) : bodyPostM F n P fn R .ret { tmps := tmps, defers := [] } W := ⟨v, hr, h⟩
theorem Shuts.grown {B : Nat} {w X Y : World} (h : Shuts B X Y) (hg : w.grownBy X none) (hB : w.heap.size ≤ B) : w.grownBy Y none :=
  ⟨h.1.os.trans hg.os, h.1.tape.trans hg.tape, h.1.output.trans hg.output, Nat.le_trans hg.size h.1.size, fun i hi _ => (h.1.block i (by omega)).trans (hg.block i hi (fun e => by cases e))⟩
theorem below_only {B : Nat} {w X Y : World} (h : Below B X Y) (hg : w.grownBy X none) (hB : w.heap.size ≤ B) : w.grownBy Y none :=
  ⟨h.os.trans hg.os, h.tape.trans hg.tape, h.output.trans hg.output, Nat.le_trans hg.size h.size, fun i hi _ => (h.block i (by omega)).trans (hg.block i hi (fun e => by cases e))⟩
end Go.Proofs.YtmbdaenjeeklfaaDoor

/- Tables of types as plain lists: shapes, edges that lead out, ways, what a type comes to, and what is wrong first. No program. -/
namespace Go.Proofs.YtmbdaenjeeklfaaDoor
open Go.RowKit

/-- An edge (to, shift), or a type (node, offset). -/
abbrev Ed := Int × Int
structure Nd where
  kind : Int
  prio : Int
  chan : Bool
  pay : Ed
  next : List Ed

def withinB (n lo hi : Int) : Bool := decide (lo ≤ n) && decide (n ≤ hi)
def leastN (k : Int) : Int := if k = 0 then 0 else 1
def mostN (k : Int) : Int := if k = 0 then 0 else if k = 3 ∨ k = 4 then 8 else 1
def paysB (k : Int) : Bool := decide (k = 1 ∨ k = 2)
def mostP (k : Int) : Int := if k = 1 ∨ k = 2 ∨ k = 3 ∨ k = 4 then 1000 else 0
def kindB (k : Int) : Bool := withinB k 0 5
def payB (x : Nd) (pays : Bool) : Bool := if x.chan then pays else decide (x.pay = (0, 0))
def edgesL (x : Nd) : List Ed := (if x.chan then [x.pay] else []) ++ x.next
def headB (x : Nd) : Bool := kindB x.kind && withinB x.next.length (leastN x.kind) (mostN x.kind) && withinB x.prio 0 (mostP x.kind) && payB x (paysB x.kind)
def shiftB (e : Ed) : Bool := withinB e.2 0 1000
def shapeB (x : Nd) : Bool := headB x && (edgesL x).all shiftB
def nodeB (n : Nat) (i : Int) : Bool := withinB i 0 ((n : Int) - 1)
def inB (n : Nat) (e : Ed) : Bool := nodeB n e.1
/-- What is wrong with a node by itself: 0, 7 or 8. -/
def illN (n : Nat) (x : Nd) : Int := if shapeB x then (if (edgesL x).all (inB n) then 0 else 8) else 7
def firstIll (n : Nat) : List Nd → Nat → Int × Int
  | [], _ => (0, 0)
  | x :: xs, k => if illN n x = 0 then firstIll n xs (k + 1) else ((k : Int), illN n x)

def nodeAt (xs : List Nd) (i : Int) : Option Nd := if 0 ≤ i then xs[i.toNat]? else none
def onlyNext (x : Nd) : Option Ed := if x.kind = 5 then (match x.next with | [e] => some e | _ => none) else none
def stepT (t e : Ed) : Ed := (e.1, wrap64 (t.2 + e.2))
/-- The way of a type, as far as the table is long. -/
def wayL (xs : List Nd) : Nat → Ed → List Ed
  | 0, _ => []
  | f + 1, t => match nodeAt xs t.1 with
    | none => []
    | some x => t :: (match onlyNext x with | some e => wayL xs f (stepT t e) | none => [])
def isAl (xs : List Nd) (t : Ed) : Bool := match nodeAt xs t.1 with | some x => decide (x.kind = 5) | none => false
def pickL (xs : List Nd) : List Ed → Ed
  | [] => (-1, 0)
  | t :: ts => if isAl xs t then pickL xs ts else t
def resolveL (xs : List Nd) (t : Ed) : Ed := pickL xs (wayL xs xs.length t)
/-- Whether the way of node i comes to nothing. -/
def lostB (xs : List Nd) (i : Nat) : Bool := (wayL xs xs.length ((i : Int), 0)).all (isAl xs)
/-- From node k on, f nodes. -/
def firstLost (xs : List Nd) : Nat → Nat → Int
  | 0, _ => -1
  | f + 1, k => if lostB xs k then (k : Int) else firstLost xs f (k + 1)
def checkL (xs : List Nd) : Int × Int :=
  if xs.length = 0 then (-1, 2)
  else if 64 < xs.length then (-1, 4)
  else if (firstIll xs.length xs 0).2 = 0 then
    (if firstLost xs xs.length 0 < 0 then (-1, 0) else (firstLost xs xs.length 0, 9))
  else firstIll xs.length xs 0

theorem nodeAt_some {xs : List Nd} {i : Int} {x : Nd} (h : nodeAt xs i = some x) : 0 ≤ i ∧ i < xs.length ∧ xs[i.toNat]? = some x := by
  unfold nodeAt at h
  by_cases hi : 0 ≤ i
  · rw [if_pos hi] at h
    have := (List.getElem?_eq_some_iff.1 h).1
    exact ⟨hi, by omega, h⟩
  · rw [if_neg hi] at h; cases h
theorem nodeAt_none {xs : List Nd} {i : Int} (h : nodeAt xs i = none) : nodeB xs.length i = false := by
  unfold nodeAt at h
  by_cases hi : 0 ≤ i
  · rw [if_pos hi] at h
    have := List.getElem?_eq_none_iff.1 h
    simp [nodeB, withinB]
    omega
  · simp [nodeB, withinB]; omega
theorem nodeB_true {n : Nat} {i : Int} : nodeB n i = true ↔ 0 ≤ i ∧ i < n := by
  simp [nodeB, withinB]; omega
theorem nodeAt_nat {xs : List Nd} {i : Nat} : nodeAt xs (i : Int) = xs[i]? := by
  unfold nodeAt
  rw [if_pos (by omega)]
  simp
theorem nodeAt_of {xs : List Nd} {i : Int} (h : nodeB xs.length i = true) : ∃ x, nodeAt xs i = some x ∧ xs[i.toNat]? = some x := by
  have := nodeB_true.1 h
  unfold nodeAt
  rw [if_pos this.1]
  have hl : i.toNat < xs.length := by omega
  exact ⟨xs[i.toNat], List.getElem?_eq_getElem hl, List.getElem?_eq_getElem hl⟩
theorem pickL_nil_of_all {xs : List Nd} {L : List Ed} (h : L.all (isAl xs) = true) : pickL xs L = (-1, 0) := by
  induction L with
  | nil => rfl
  | cons t L ih =>
    simp only [List.all_cons, Bool.and_eq_true] at h
    simp only [pickL, h.1, if_true]
    exact ih h.2
theorem pickL_at {xs : List Nd} {pre rest : List Ed} {t : Ed} (h : pre.all (isAl xs) = true) (ht : isAl xs t = false) : pickL xs (pre ++ t :: rest) = t := by
  induction pre with
  | nil => simp [pickL, ht]
  | cons s pre ih =>
    simp only [List.all_cons, Bool.and_eq_true] at h
    simp only [List.cons_append, pickL, h.1, if_true]
    exact ih h.2
end Go.Proofs.YtmbdaenjeeklfaaDoor

/- Tables of types in memory: edges, nodes, tables, as they read; and that they read so as long as cells lie as they lay. -/
namespace Go.Proofs.YtmbdaenjeeklfaaDoor
open Go.RowKit

def Keeps (w w' : World) : Prop := ∀ (a : Addr) (v : Value), w.cell? a = some v → w'.cell? a = some v
theorem Keeps.refl (w : World) : Keeps w w := fun _ _ h => h
theorem Keeps.trans {a b c : World} (h : Keeps a b) (k : Keeps b c) : Keeps a c := fun p v hp => k p v (h p v hp)
theorem KeepsCells.keeps {w w' : World} (h : KeepsCells w w') : Keeps w w' := fun _ _ hc => h.cell hc
theorem Keeps.grown {w w' : World} (h : w.grownBy w' none) : Keeps w w' := (KeepsCells.grown h).keeps
theorem Keeps.alloc (w : World) (o : Obj) : Keeps w (w.alloc o) := (KeepsCells.alloc w o).keeps
theorem Keeps.below {w w' : World} (h : Below w.heap.size w w') : Keeps w w' := fun a v hc => by
  have hlt : a.block < w.heap.size := by
    rcases Nat.lt_or_ge a.block w.heap.size with hl | hl
    · exact hl
    · unfold World.cell? at hc
      rw [Array.getElem?_eq_none hl] at hc
      simp at hc
  rw [h.cell hlt]; exact hc
theorem cell_lt {w : World} {a : Addr} {v : Value} (hc : w.cell? a = some v) : a.block < w.heap.size := by
  rcases Nat.lt_or_ge a.block w.heap.size with hl | hl
  · exact hl
  · unfold World.cell? at hc
    rw [Array.getElem?_eq_none hl] at hc
    simp at hc
theorem Keeps.setNew {w w' : World} (h : Keeps w w') {p : Addr} (hp : w.heap.size ≤ p.block) (u : Value) : Keeps w (w'.setCell p u) := fun a v hc => by
  have hl := cell_lt hc
  rw [World.cell?_setCell_other w' p a u (fun e => by subst e; omega)]
  exact h a v hc
theorem Keeps.drew {w w' : World} (h : Keeps w w') : Keeps w w'.drew := h

abbrev edV (e : Ed) : Value := .agg #[.int .i64 e.1, .int .i64 e.2]
abbrev edCells (e : Ed) : Array Value := #[.int .i64 e.1, .int .i64 e.2]
abbrev ndCells (x : Nd) (v : Value) : Array Value := #[.int .i64 x.kind, .int .i64 x.prio, .bool x.chan, .int .i64 x.pay.1, .int .i64 x.pay.2, v]
abbrev ndV (x : Nd) (v : Value) : Value := .agg #[.int .i64 x.kind, .int .i64 x.prio, .bool x.chan, .int .i64 x.pay.1, .int .i64 x.pay.2, v]

/-- A slice value that reads as a list of edges. -/
def Edges (w : World) (v : Value) (es : List Ed) : Prop := ∃ (A : Option Addr) (c : Nat), v = .slice A es.length c ∧ es.length ≤ 9223372036854775807 ∧
  (es ≠ [] → ∃ b off, A = some ⟨b, off, none⟩ ∧ ∀ i e, es[i]? = some e → w.cell? ⟨b, off + i * 2, none⟩ = some (.int .i64 e.1) ∧ w.cell? ⟨b, off + i * 2 + 1, none⟩ = some (.int .i64 e.2))
theorem Edges.keep {w w' : World} {v : Value} {es : List Ed} (h : Edges w v es) (hk : Keeps w w') : Edges w' v es := by
  obtain ⟨A, c, h1, hl, h2⟩ := h
  refine ⟨A, c, h1, hl, fun hn => ?_⟩
  obtain ⟨b, off, h3, h4⟩ := h2 hn
  exact ⟨b, off, h3, fun i e he => ⟨hk _ _ (h4 i e he).1, hk _ _ (h4 i e he).2⟩⟩
theorem Edges.nil_ (w : World) : Edges w (.slice none 0 0) [] := ⟨none, 0, rfl, by simp, fun h => absurd rfl h⟩

/-- A node's six cells. -/
def NdAt (w : World) (b off : Nat) (x : Nd) : Prop := ∃ v, Edges w v x.next ∧ w.cell? ⟨b, off, none⟩ = some (.int .i64 x.kind) ∧ w.cell? ⟨b, off + 1, none⟩ = some (.int .i64 x.prio) ∧ w.cell? ⟨b, off + 2, none⟩ = some (.bool x.chan) ∧
  w.cell? ⟨b, off + 3, none⟩ = some (.int .i64 x.pay.1) ∧ w.cell? ⟨b, off + 4, none⟩ = some (.int .i64 x.pay.2) ∧ w.cell? ⟨b, off + 5, none⟩ = some v
theorem NdAt.keep {w w' : World} {b off : Nat} {x : Nd} (h : NdAt w b off x) (hk : Keeps w w') : NdAt w' b off x := by
  obtain ⟨v, h0, h1, h2, h3, h4, h5, h6⟩ := h
  exact ⟨v, h0.keep hk, hk _ _ h1, hk _ _ h2, hk _ _ h3, hk _ _ h4, hk _ _ h5, hk _ _ h6⟩

/-- A slice value that reads as a table. -/
def Tbl (w : World) (v : Value) (xs : List Nd) : Prop := ∃ (A : Option Addr) (c : Nat), v = .slice A xs.length c ∧
  (xs ≠ [] → ∃ b off, A = some ⟨b, off, none⟩ ∧ ∀ i x, xs[i]? = some x → NdAt w b (off + i * 6) x)
theorem Tbl.keep {w w' : World} {v : Value} {xs : List Nd} (h : Tbl w v xs) (hk : Keeps w w') : Tbl w' v xs := by
  obtain ⟨A, c, h1, h2⟩ := h
  refine ⟨A, c, h1, fun hn => ?_⟩
  obtain ⟨b, off, h3, h4⟩ := h2 hn
  exact ⟨b, off, h3, fun i x he => (h4 i x he).keep hk⟩
theorem Tbl.nil_ (w : World) : Tbl w (.slice none 0 0) [] := ⟨none, 0, rfl, fun h => absurd rfl h⟩
end Go.Proofs.YtmbdaenjeeklfaaDoor

/- Regions that draw their order and make two boxes: the law, said for two, and what single operations answer there. -/
namespace Go.Proofs.YtmbdaenjeeklfaaDoor
open Go.RowKit

def AllOps (f : Nat → Oper → Prop) : List Oper → Nat → Prop
  | [], _ => True
  | o :: l, i => f i o ∧ AllOps f l (i + 1)
theorem AllOps.at_ {f : Nat → Oper → Prop} : ∀ {l : List Oper} {k : Nat}, AllOps f l k → ∀ (i : Nat) (o : Oper), l[i]? = some o → f (k + i) o
  | [], _, _, i, o, h => by simp at h
  | x :: l, k, ⟨h1, h2⟩, i, o, h => by
    cases i with
    | zero =>
      simp only [List.getElem?_cons_zero, Option.some.injEq] at h
      subst h
      exact h1
    | succ i =>
      rw [List.getElem?_cons_succ] at h
      have := AllOps.at_ h2 i o h
      rwa [show k + (i + 1) = k + 1 + i by omega]
theorem nodup_at {α β : Type} {f : α → Option β} : ∀ {l : List α} {i j : Nat} {x y : α} {t : β}, (l.filterMap f).Nodup → l[i]? = some x → l[j]? = some y → f x = some t → f y = some t → i = j
  | [], i, _, _, _, _, _, h, _, _, _ => by simp at h
  | z :: l, i, j, x, y, t, hn, hi, hj, hx, hy => by
    have mem : ∀ (k : Nat) (u : α), l[k]? = some u → f u = some t → t ∈ l.filterMap f := fun k u hk hu => List.mem_filterMap.2 ⟨u, List.mem_of_getElem? hk, hu⟩
    cases i with
    | zero =>
      simp only [List.getElem?_cons_zero, Option.some.injEq] at hi
      subst hi
      cases j with
      | zero => rfl
      | succ j =>
        rw [List.getElem?_cons_succ] at hj
        rw [List.filterMap_cons_some hx] at hn
        exact absurd (mem j y hj hy) (List.nodup_cons.1 hn).1
    | succ i =>
      rw [List.getElem?_cons_succ] at hi
      cases j with
      | zero =>
        simp only [List.getElem?_cons_zero, Option.some.injEq] at hj
        subst hj
        rw [List.filterMap_cons_some hy] at hn
        exact absurd (mem i x hi hx) (List.nodup_cons.1 hn).1
      | succ j =>
        rw [List.getElem?_cons_succ] at hj
        have hn' : (l.filterMap f).Nodup := by
          cases hz : f z with
          | none => rwa [List.filterMap_cons_none hz] at hn
          | some u => rw [List.filterMap_cons_some hz] at hn; exact (List.nodup_cons.1 hn).2
        rw [nodup_at hn' hi hj hx hy]
theorem lookup_mem {l : List (Nat × Value)} {t : Nat} {v : Value} (h : l.lookup t = some v) : (t, v) ∈ l := by
  induction l with
  | nil => cases h
  | cons q l ih =>
    obtain ⟨t', d'⟩ := q
    rw [List.lookup_cons] at h
    split at h
    · rename_i e
      simp only [Option.some.injEq] at h
      subst h
      rw [eq_of_beq e]
      exact List.mem_cons_self
    · exact List.mem_cons_of_mem _ (ih h)

/-- What an operation is in a region that makes two boxes. -/
inductive IsOp (P : Program) (vals : List (Tmp × Value)) (w : World) (x y : Bx) : Nat → Oper → Prop where
  | val {i : Nat} {o : Oper} (t : Tmp) (c : Value) : o.dst = some t → vals.lookup t = some c → (x.slot != t && y.slot != t && x.al != i && y.al != i && x.st != i && y.st != i) = true → OpVal P o vals w c → IsOp P vals w x y i o
  | al1 {i : Nat} {o : Oper} : x.al = i → o.op = .alloc x.ty → o.dst = some x.slot → IsOp P vals w x y i o
  | al2 {i : Nat} {o : Oper} : y.al = i → o.op = .alloc y.ty → o.dst = some y.slot → IsOp P vals w x y i o
  | st1 {i : Nat} {o : Oper} : x.st = i → o.op = .store x.ty (.tmp x.slot) (.tmp x.src) → o.dst = none → IsOp P vals w x y i o
  | st2 {i : Nat} {o : Oper} : y.st = i → o.op = .store y.ty (.tmp y.slot) (.tmp y.src) → o.dst = none → IsOp P vals w x y i o

theorem region_two {P : Program} {ops : Array Oper} {Q : Exit → Act → World → Prop} {id : Nat} {a : Act} {w : World} (hm : P.follows .mixedOrders = true) (hok : regOkB ops = true) (ds : List Tmp) (hds : dstsOf ops = ds) (hlt : (ds.all fun t => decide (t < a.tmps.size)) = true) (hnd : ds.Nodup)
    (vals : List (Tmp × Value)) (x y : Bx) (h0 : ∀ p ∈ vals, p.1 ∉ ds → a.tmps.getD p.1 undef = p.2)
    (hx : Boxed P x) (hy : Boxed P y) (hxs : vals.lookup x.src = some (.agg x.cs)) (hys : vals.lookup y.src = some (.agg y.cs))
    (hxn : (vals.lookup x.slot).isNone = true) (hyn : (vals.lookup y.slot).isNone = true)
    (hne : x.al ≠ y.al ∧ x.st ≠ y.st ∧ x.slot ≠ y.slot ∧ x.al ≠ x.st ∧ x.al ≠ y.st ∧ y.al ≠ x.st ∧ y.al ≠ y.st)
    (hax : (ops[x.al]?).bind (·.dst) = some x.slot) (hay : (ops[y.al]?).bind (·.dst) = some y.slot) (hsx : (ops[x.st]?).isSome = true) (hsy : (ops[y.st]?).isSome = true)
    (hops : AllOps (IsOp P vals w x y) ops.toList 0)
    (hQ : ∀ (vs : Tmp → Value) (W : World) (B1 B2 : Nat), w.grownBy W none → vs x.slot = .pointer (some ⟨B1, 0, none⟩) → vs y.slot = .pointer (some ⟨B2, 0, none⟩) → B1 ≠ B2 → w.heap.size ≤ B1 → w.heap.size ≤ B2 → Blk W B1 x.ty x.cs → Blk W B2 y.ty y.cs →
      Q .normal { a with tmps := ds.foldl (fun (ts : Array Value) t => ts.setIfInBounds t (vs t)) a.tmps } W) :
    (Code.region id ops true).wp P Q a w := by
  subst hds
  obtain ⟨oax, hoax, hdax⟩ := Option.bind_eq_some_iff.1 hax
  obtain ⟨oay, hoay, hday⟩ := Option.bind_eq_some_iff.1 hay
  obtain ⟨osx, hosx⟩ := Option.isSome_iff_exists.1 hsx
  obtain ⟨osy, hosy⟩ := Option.isSome_iff_exists.1 hsy
  obtain ⟨n1, n2, n3, n4, n5, n6, n7⟩ := hne
  have hu : ∀ (i j : Nat) (oi oj : Oper) (t : Tmp), ops[i]? = some oi → ops[j]? = some oj → oi.dst = some t → oj.dst = some t → i = j := fun i j oi oj t hi hj ei ej =>
    nodup_at hnd (by rw [Array.getElem?_toList]; exact hi) (by rw [Array.getElem?_toList]; exact hj) ei ej
  refine region_boxes hm hok hlt hu vals [x, y] (fun t v hv ht => h0 (t, v) (lookup_mem hv) ht) (fun i o ho => ?_) (fun z hz => ?_) (fun z hz t c e hl => ?_) (fun z hz u hu' => ?_) (fun vs W hg hv hb hap => ?_)
  · have h := hops.at_ i o (by rw [Array.getElem?_toList]; exact ho)
    rw [Nat.zero_add] at h
    cases h with
    | val t c h1 h2 h3 h4 =>
      simp only [Bool.and_eq_true, bne_iff_ne, ne_eq] at h3
      obtain ⟨⟨⟨⟨⟨a1, a2⟩, a3⟩, a4⟩, a5⟩, a6⟩ := h3
      refine .inl ⟨t, c, h1, h2, fun z hz => ?_, h4⟩
      simp only [List.mem_cons, List.not_mem_nil, or_false] at hz
      rcases hz with rfl | rfl
      · exact ⟨a1, a3, a5⟩
      · exact ⟨a2, a4, a6⟩
    | al1 h1 h2 h3 => exact .inr (.inl ⟨x, by simp, h1, h2, h3⟩)
    | al2 h1 h2 h3 => exact .inr (.inl ⟨y, by simp, h1, h2, h3⟩)
    | st1 h1 h2 h3 => exact .inr (.inr ⟨x, by simp, h1, h2, h3, oax, hoax, hdax⟩)
    | st2 h1 h2 h3 => exact .inr (.inr ⟨y, by simp, h1, h2, h3, oay, hoay, hday⟩)
  · simp only [List.mem_cons, List.not_mem_nil, or_false] at hz
    rcases hz with rfl | rfl
    · exact ⟨hx, hxs⟩
    · exact ⟨hy, hys⟩
  · simp only [List.mem_cons, List.not_mem_nil, or_false] at hz
    rcases hz with rfl | rfl
    · rw [e, hl] at hxn; cases hxn
    · rw [e, hl] at hyn; cases hyn
  · simp only [List.mem_cons, List.not_mem_nil, or_false] at hz hu'
    rcases hz with rfl | rfl <;> rcases hu' with rfl | rfl
    · exact ⟨fun _ => rfl, fun _ => rfl, fun _ => rfl, n4⟩
    · exact ⟨fun e => absurd e n1, fun e => absurd e n2, fun e => absurd e n3, n5⟩
    · exact ⟨fun e => absurd e.symm n1, fun e => absurd e.symm n2, fun e => absurd e.symm n3, n6⟩
    · exact ⟨fun _ => rfl, fun _ => rfl, fun _ => rfl, n7⟩
  · obtain ⟨B1, e1, w1, k1⟩ := hb x (by simp) ⟨_, hoax⟩ ⟨_, hosx⟩
    obtain ⟨B2, e2, w2, k2⟩ := hb y (by simp) ⟨_, hoay⟩ ⟨_, hosy⟩
    refine hQ vs W B1 B2 hg e1 e2 (fun e => ?_) w1 w2 k1 k2
    subst e
    exact hap x (by simp) y (by simp) n1 ⟨_, hoax⟩ ⟨_, hoay⟩ B1 e1 e2

/-! ### What single operations answer -/
section
variable {vals : List (Tmp × Value)} {w : World} {o : Oper}
theorem ov_move {t : Tmp} {c : Value} (ho : o.op = .move (.tmp t)) (hv : vals.lookup t = some c) : OpVal Tryd.prog o vals w c := fun b W _ hr => by
  have e := hr t c (by rw [ho]; simp [Op.operands]) hv
  obtain ⟨dst, op, type, pos, after, guard⟩ := o
  dsimp only at ho
  subst ho
  exact .inl (by simp only [execOp, e, Sem.run_pure])
theorem ov_load_int {t : Tmp} {p : Addr} {n : Int} (ho : o.op = .load 3 (.tmp t)) (hv : vals.lookup t = some (.pointer (some p))) (hc : w.cell? p = some (.int .i64 n)) : OpVal Tryd.prog o vals w (.int .i64 n) := fun b W hg hr => by
  have he := hr t _ (by rw [ho]; simp [Op.operands]) hv
  have c0 := Keeps.grown hg _ _ hc
  obtain ⟨dst, op, type, pos, after, guard⟩ := o
  dsimp only at ho
  subst ho
  refine .inl ?_
  simp only [execOp, he]
  go_simp
theorem ov_add {s i : Tmp} {a c : Int} {ty : TypeId} (ho : o.op = .binOp .add 3 (.tmp s) (.tmp i) ty) (hs : vals.lookup s = some (.int .i64 a)) (hi : vals.lookup i = some (.int .i64 c)) (h0 : 0 ≤ a) (h1 : a ≤ 1000000) (h2 : 0 ≤ c) (h3 : c ≤ 1000000) : OpVal Tryd.prog o vals w (.int .i64 (a + c)) := fun b W hg hr => by
  have he := hr s _ (by rw [ho]; simp [Op.operands]) hs
  have hf := hr i _ (by rw [ho]; simp [Op.operands]) hi
  obtain ⟨dst, op, type, pos, after, guard⟩ := o
  have hw : IntKind.i64.wrap (a + c) = a + c := IntWalk.i64_in _ ⟨by omega, by omega⟩
  dsimp only at ho
  subst ho
  refine .inl ?_
  simp only [execOp, he, hf]
  go_simp
/-- A call of two arguments. -/
theorem ov_call2 {f : FuncId} {t u : Tmp} {c d r : Value} {ts : Array TypeId} (ho : o.op = .call { callee := .value (.func f), args := #[.tmp t, .tmp u], argTypes := ts }) (ht : vals.lookup t = some c) (hu : vals.lookup u = some d) (hrun : ∀ W, (callFunc f #[c, d]).run Tryd.prog W = .ok (.enter f #[c, d]) W)
    (hc : ∀ W, w.grownBy W none → Calls Tryd.prog f #[c, d] W fun e w'' => e = .returned r ∧ W.grownBy w'' none) : OpVal Tryd.prog o vals w r := fun b W hg hr => by
  have he := hr t _ (by rw [ho]; simp [Op.operands, Call.operands]) ht
  have hf := hr u _ (by rw [ho]; simp [Op.operands, Call.operands]) hu
  obtain ⟨dst, op, type, pos, after, guard⟩ := o
  dsimp only at ho
  subst ho
  refine .inr ⟨f, #[c, d], ?_, hc W hg⟩
  have he' : b.tmps[t]?.getD undef = c := by simpa [Act.eval] using he
  have hf' : b.tmps[u]?.getD undef = d := by simpa [Act.eval] using hf
  simp [execOp, resolve, Deferred.ofValue, invoke, Act.eval, he', hf', hrun W]
end
end Go.Proofs.YtmbdaenjeeklfaaDoor

/- A region that draws its order, in a round of a range over a function: reads that answer the same whenever they come, and operations that hang on one another as a chain (a call, the row that holds its answer, an append, a store). No program. -/
namespace Go.Proofs.YtmbdaenjeeklfaaDoor
open Go.RowKit

/-- What serves outside of a round serves in one. -/
theorem oper_in {l n : Nat} {P : Program} {o : Oper} {a : Act} {w : World} {next : Act → World → Prop} {Q : Exit → Act → World → Prop} (hd : ∀ c, o.op ≠ .defer c) (h : o.wp P a w next Q) : o.wpIn (Fence.wide.inRound l) n P a w next Q := by
  refine ⟨fun _ _ => trivial, ?_⟩
  rw [Fence.inRound_round, Oper.semAt_eq _ _ _ hd]
  unfold Oper.wp at h
  generalize (execOp a.eval o).run P w = r at h ⊢
  have hin : ∀ {f args W R}, Calls P f args W R → CallsIn (Fence.wide.inRound l) (n - 1) P f args W R := fun h => (callsIn_wide (n := n - 1)).2 h
  cases r with
  | ok x w' =>
    cases x with
    | value v => exact h
    | skip => exact h
    | defer d => exact h
    | enter f args => exact ⟨fun h => (by cases h), hin h⟩
    | row row args => exact ⟨fun h => (by cases h), fun c cs _ => by
        obtain ⟨v, w'', r, s⟩ := h c cs
        exact ⟨v, w'', r, stepsIn_wide.2 s⟩⟩
    | _ => exact h.elim
  | halt x w' => cases x <;> exact h

section
variable {F : Fence} {n : Nat} {P : Program} {ops : Array Oper} {Q : Exit → Act → World → Prop} {md : Region.Mode}
/-- All orders, by what holds between two operations, in a fence. -/
theorem wpAnyIn_inv (I : Array Bool → Act → World → Prop)
    (hstep : ∀ listed a w, listed.size = ops.size → I listed a w → ∀ i ∈ Region.ready md ops listed, wpOpIn F n P ops Q i (I (listed.setIfInBounds i true)) a w)
    (hdone : ∀ listed a w, listed.size = ops.size → I listed a w → Region.ready md ops listed = [] → Q .normal a w) :
    ∀ (fuel : Nat) (listed : Array Bool) (a : Act) (w : World), listed.size = ops.size → listed.toList.countP (! ·) ≤ fuel → I listed a w → wpAnyIn F n P md ops Q fuel listed a w
  | 0, listed, a, w, hs, hc, h => by
    have hr : Region.ready md ops listed = [] := by
      rw [List.eq_nil_iff_forall_not_mem]
      intro i hi
      obtain ⟨h0, _⟩ := mem_ready.1 hi
      rcases Nat.lt_or_ge i listed.size with hlt | hge
      · have h1 : listed[i] = false := by simpa [hlt] using h0
        have h2 : 0 < listed.toList.countP (! ·) := List.countP_pos_iff.2 ⟨false, by rw [← h1]; exact Array.getElem_mem_toList hlt, rfl⟩
        omega
      · simp [Array.getElem?_eq_none hge] at h0
    exact ⟨hr, hdone _ _ _ hs h hr⟩
  | fuel + 1, listed, a, w, hs, hc, h => by
    refine ⟨hdone _ _ _ hs h, fun i hi => wpOpIn_mono (fun a' w' h' => wpAnyIn_inv I hstep hdone fuel _ _ _ (by simpa using hs) ?_ h') (hstep _ _ _ hs h i hi)⟩
    obtain ⟨h0, _⟩ := mem_ready.1 hi
    rcases Nat.lt_or_ge i listed.size with hlt | hge
    · have h1 : listed.toList[i]? = some false := by
        have : listed[i] = false := by simpa [hlt] using h0
        rw [Array.getElem?_toList, Array.getElem?_eq_getElem hlt, this]
      have h2 := count_set h1
      rw [← Array.toList_setIfInBounds] at h2
      omega
    · simp [Array.getElem?_eq_none hge] at h0
end

/-- The chain's operations hang on one another. -/
def chainOk (ops : Array Oper) : List Nat → Bool
  | i :: k :: l => (match ops[k]? with | some o => o.after.toList.any fun e => Region.binds .any e && e.on == i | none => false) && chainOk ops (k :: l)
  | _ => true
theorem chainOk_at {ops : Array Oper} : ∀ {ch : List Nat} (j : Nat) {i k : Nat} {o : Oper}, chainOk ops ch = true → ch[j]? = some i → ch[j + 1]? = some k → ops[k]? = some o → ∃ e ∈ o.after, Region.binds .any e = true ∧ e.on = i
  | [], _, _, _, _, _, h, _, _ => by simp at h
  | [x], 0, _, _, _, _, _, h, _ => by simp at h
  | [x], j + 1, _, _, _, _, h, _, _ => by simp at h
  | x :: y :: l, 0, i, k, o, h, hi, hk, ho => by
    simp only [List.getElem?_cons_zero, Option.some.injEq] at hi
    simp only [Nat.zero_add, List.getElem?_cons_succ, List.getElem?_cons_zero, Option.some.injEq] at hk
    subst hi hk
    unfold chainOk at h
    rw [ho] at h
    simp only [Bool.and_eq_true, List.any_eq_true, beq_iff_eq] at h
    obtain ⟨⟨e, he, hb, hx⟩, _⟩ := h
    exact ⟨e, Array.mem_toList_iff.1 he, hb, hx⟩
  | x :: y :: l, j + 1, i, k, o, h, hi, hk, ho => by
    unfold chainOk at h
    simp only [Bool.and_eq_true] at h
    rw [List.getElem?_cons_succ] at hi hk
    exact chainOk_at j h.2 hi hk ho

/-- Each read is asked for by one of the chain. -/
def neededOk (ops : Array Oper) (ch : List Nat) : Bool := (List.range ops.size).all fun i => ch.contains i || ch.any fun k => match ops[k]? with | some o => o.after.toList.any fun e => Region.binds .any e && e.on == i | none => false
theorem neededOk_at {ops : Array Oper} {ch : List Nat} (h : neededOk ops ch = true) {i : Nat} (hi : i < ops.size) (hn : i ∉ ch) : ∃ k ∈ ch, ∃ o, ops[k]? = some o ∧ ∃ e ∈ o.after, Region.binds .any e = true ∧ e.on = i := by
  unfold neededOk at h
  rw [List.all_eq_true] at h
  have h1 := h i (List.mem_range.2 hi)
  simp only [Bool.or_eq_true, List.contains_iff_mem, List.any_eq_true] at h1
  rcases h1 with h1 | ⟨k, hk, h2⟩
  · exact absurd h1 hn
  · cases ho : ops[k]? with
    | none => rw [ho] at h2; cases h2
    | some o =>
      rw [ho] at h2
      simp only [List.any_eq_true, Bool.and_eq_true, beq_iff_eq] at h2
      obtain ⟨e, he, hb, hx⟩ := h2
      exact ⟨k, hk, o, ho, e, Array.mem_toList_iff.1 he, hb, hx⟩

theorem region_chain {l n : Nat} {P : Program} {ops : Array Oper} {Q : Exit → Act → World → Prop} {id : Nat} {a : Act} {w : World} (hm : P.follows .mixedOrders = true) (hok : regOkB ops = true) (hdef : (ops.toList.all fun o => match o.op with | .defer _ => false | _ => true) = true) (ds : List Tmp) (hds : dstsOf ops = ds) (hlt : (ds.all fun t => decide (t < a.tmps.size)) = true) (hdn : ds.Nodup)
    (vals : List (Tmp × Value)) (h0 : ∀ p ∈ vals, p.1 ∉ ds → a.tmps.getD p.1 undef = p.2)
    (ch : List Nat) (hch : chainOk ops ch = true) (hnee : neededOk ops ch = true) (hnd : ch.Nodup) (hin : (ch.all fun i => decide (i < ops.size)) = true)
    (T : Nat → (Tmp → Value) → World → Prop) (hT : ∀ j f g W, T j f W → (∀ (k i : Nat) (o : Oper) (t : Tmp), k < j → ch[k]? = some i → ops[i]? = some o → o.dst = some t → f t = g t) → T j g W)
    (hreads : ∀ (i : Nat) (o : Oper), ops[i]? = some o → i ∉ ch → ∃ t c, o.dst = some t ∧ vals.lookup t = some c ∧ ∀ j f (b : Act) W, j < ch.length → T j f W → (∀ t v, Operand.tmp t ∈ o.op.operands → vals.lookup t = some v → b.eval (.tmp t) = v) → (execOp b.eval o).run P W = .ok (.value c) W)
    (hsteps : ∀ (j i : Nat) (o : Oper), ch[j]? = some i → ops[i]? = some o → (∀ t, o.dst = some t → vals.lookup t = none) ∧ ∀ (b : Act) W, b.tmps.size = a.tmps.size → T j (fun t => b.tmps.getD t undef) W → (∀ t v, Operand.tmp t ∈ o.op.operands → vals.lookup t = some v → b.eval (.tmp t) = v) →
      o.wp P b W (fun b' W' => ∃ x, b' = b.put o.dst x ∧ T (j + 1) (fun t => (b.put o.dst x).tmps.getD t undef) W') Q)
    (hT0 : T 0 (fun t => a.tmps.getD t undef) w.drew)
    (hQ : ∀ (vs : Tmp → Value) (W : World), (∀ t v, vals.lookup t = some v → t ∈ ds → vs t = v) → T ch.length vs W →
      Q .normal { a with tmps := ds.foldl (fun (ts : Array Value) t => ts.setIfInBounds t (vs t)) a.tmps } W) :
    (Code.region id ops true).wpIn (Fence.wide.inRound l) n P Q a w := by
  subst hds
  have hu : ∀ (i j : Nat) (oi oj : Oper) (t : Tmp), ops[i]? = some oi → ops[j]? = some oj → oi.dst = some t → oj.dst = some t → i = j := fun i j oi oj t hi hj ei ej =>
    nodup_at hdn (by rw [Array.getElem?_toList]; exact hi) (by rw [Array.getElem?_toList]; exact hj) ei ej
  have hdl : ∀ t ∈ dstsOf ops, t < a.tmps.size := fun t ht => by simpa using List.all_eq_true.1 hlt t ht
  have chlt : ∀ (j j' i : Nat), ch[j]? = some i → ch[j']? = some i → j = j' := fun j j' i h1 h2 => by
    obtain ⟨l1, e1⟩ := List.getElem?_eq_some_iff.1 h1
    obtain ⟨l2, e2⟩ := List.getElem?_eq_some_iff.1 h2
    exact (List.getElem_inj hnd).1 (e1.trans e2.symm)
  refine wpIn_region_any hm (wpAnyIn_inv (fun listed b W => b.defers = a.defers ∧ b.tmps.size = a.tmps.size ∧ (∀ t, t ∉ dstsOf ops → b.tmps[t]? = a.tmps[t]?) ∧
    (∀ (i : Nat) (o : Oper) (t : Tmp) (c : Value), listed.getD i false = true → ops[i]? = some o → o.dst = some t → vals.lookup t = some c → b.tmps.getD t undef = c) ∧
    (∀ (k : Nat) (o : Oper) (e : Edge), listed.getD k false = true → ops[k]? = some o → e ∈ o.after → Region.binds .any e = true → listed.getD e.on false = true) ∧
    ∃ j, j ≤ ch.length ∧ (∀ k i, ch[k]? = some i → i < ops.size → (listed.getD i false = true ↔ k < j)) ∧ T j (fun t => b.tmps.getD t undef) W) ?_ ?_ ops.size _ _ _ (by simp) (by
      have := List.countP_le_length (p := (! ·)) (l := (Array.replicate ops.size false).toList)
      simpa using this) ?_)
  · rintro listed b W hs ⟨i2, i3, i4, i5, i7, j, hjl, i6, hTj⟩ i hi
    obtain ⟨hni, o, ho, hall⟩ := mem_ready.1 hi
    have hil : i < ops.size := (Array.getElem?_eq_some_iff.1 ho).1
    have hni' : listed.getD i false = false := by
      have hl : i < listed.size := by omega
      simpa [hl] using hni
    obtain ⟨g1, g2, g3⟩ := regOkB_at hok ho
    have henv : ∀ t v, Operand.tmp t ∈ o.op.operands → vals.lookup t = some v → b.eval (.tmp t) = v := fun t v ht hv => by
      unfold depsOk at g3
      rw [List.all_eq_true] at g3
      have h1 := g3 (.tmp t) (Array.mem_toList_iff.2 ht)
      simp only [Bool.or_eq_true, List.all_eq_true, List.any_eq_true, Bool.and_eq_true, bne_iff_ne, ne_eq, beq_iff_eq] at h1
      rcases h1 with h1 | ⟨e, he, hb, hx⟩
      · have h4 : t ∉ dstsOf ops := fun hm => by
          obtain ⟨i, oi, hi, e⟩ := mem_dsts.1 hm
          exact h1 oi (List.mem_iff_getElem?.2 ⟨i, by rw [Array.getElem?_toList]; exact hi⟩) e
        have h5 := i4 t h4
        show b.tmps.getD t undef = v
        rw [Array.getD_eq_getD_getElem?, h5, ← Array.getD_eq_getD_getElem?]
        exact h0 (t, v) (lookup_mem hv) h4
      · obtain ⟨oj, hoj, e1⟩ := Option.bind_eq_some_iff.1 hx
        exact i5 e.on oj t v (hall e (Array.mem_toList_iff.1 he) hb) hoj e1 hv
    have hset : ∀ j, i ≠ j → (listed.setIfInBounds i true).getD j false = listed.getD j false := fun j hij => getD_set_ne false hij
    have hseti : (listed.setIfInBounds i true).getD i false = true := getD_set_at (by omega)
    have hnd' : ∀ c, o.op ≠ .defer c := fun c e => by
      rw [List.all_eq_true] at hdef
      have := hdef o (List.mem_iff_getElem?.2 ⟨i, by rw [Array.getElem?_toList]; exact ho⟩)
      rw [e] at this
      cases this
    unfold wpOpIn
    simp only [ho]
    rw [if_pos (by simp [Region.wanted, g1])]
    have other : ∀ (x : Value) (t' : Tmp), o.dst ≠ some t' → (b.put o.dst x).tmps[t']? = b.tmps[t']? := fun x t' hne => by
      cases hd : o.dst with
      | none => rfl
      | some t =>
        rw [hd] at hne
        simp only [Act.put]
        rw [Array.getElem?_setIfInBounds_ne (fun e => hne (by rw [e]))]
    have otherD : ∀ (x : Value) (t' : Tmp), o.dst ≠ some t' → (b.put o.dst x).tmps.getD t' undef = b.tmps.getD t' undef := fun x t' hne => by
      rw [Array.getD_eq_getD_getElem?, other x t' hne, ← Array.getD_eq_getD_getElem?]
    have basic : ∀ x : Value, (b.put o.dst x).defers = a.defers ∧ (b.put o.dst x).tmps.size = a.tmps.size ∧ (∀ t, t ∉ dstsOf ops → (b.put o.dst x).tmps[t]? = a.tmps[t]?) := fun x => by
      refine ⟨?_, ?_, fun t ht => ?_⟩
      · cases o.dst <;> exact i2
      · cases o.dst <;> simp [Act.put, i3]
      · rw [other x t (fun e => ht (mem_dsts.2 ⟨i, o, ho, e⟩))]
        exact i4 t ht
    have closed : ∀ (k : Nat) (ok : Oper) (e : Edge), (listed.setIfInBounds i true).getD k false = true → ops[k]? = some ok → e ∈ ok.after → Region.binds .any e = true → (listed.setIfInBounds i true).getD e.on false = true := fun k ok e hl hok he hb => by
      by_cases hie : i = e.on
      · rw [← hie]; exact hseti
      · rw [hset _ hie]
        by_cases hik : i = k
        · subst hik
          rw [ho] at hok
          obtain rfl := Option.some.inj hok
          exact hall e he hb
        · rw [hset _ hik] at hl
          exact i7 k ok e hl hok he hb
    by_cases hmem : i ∈ ch
    · obtain ⟨j', hj'⟩ := List.mem_iff_getElem?.1 hmem
      have hjj : ¬ j' < j := fun h => by
        have := (i6 j' i hj' hil).2 h
        rw [hni'] at this
        cases this
      have hej : j' = j := by
        rcases Nat.lt_or_ge j j' with h | h
        · obtain ⟨m, rfl⟩ : ∃ m, j' = m + 1 := ⟨j' - 1, by omega⟩
          have hml : m < ch.length := by have := (List.getElem?_eq_some_iff.1 hj').1; omega
          obtain ⟨k, hk⟩ : ∃ k, ch[m]? = some k := ⟨_, List.getElem?_eq_getElem hml⟩
          obtain ⟨e, he, hb, hx⟩ := chainOk_at m hch hk hj' ho
          have hon := hall e he hb
          rw [hx] at hon
          have hkl : k < ops.size := by
            rcases Nat.lt_or_ge k ops.size with h' | h'
            · exact h'
            · have hk2 : ¬ k < listed.size := by omega
              simp [Array.getD_eq_getD_getElem?, hk2] at hon
          have := (i6 m k hk hkl).1 hon
          omega
        · omega
      subst hej
      obtain ⟨hv, hstep⟩ := hsteps j' i o hj' ho
      refine oper_in hnd' (Oper.wp_mono ?_ (hstep b W i3 hTj henv))
      rintro b' W' ⟨x, rfl, hT'⟩
      refine ⟨(basic x).1, (basic x).2.1, (basic x).2.2, fun m om t' c' hl hom e1 e2 => ?_, closed, j' + 1, (List.getElem?_eq_some_iff.1 hj').1, fun k m hk hm => ?_, hT'⟩
      · have hne : o.dst ≠ some t' := fun e => by rw [hv t' e] at e2; cases e2
        have him : i ≠ m := fun e => by subst e; rw [ho] at hom; cases hom; exact hne e1
        rw [hset m him] at hl
        rw [otherD x t' hne]
        exact i5 m om t' c' hl hom e1 e2
      · by_cases him : i = m
        · subst him
          have := chlt _ _ _ hj' hk
          exact ⟨fun _ => by omega, fun _ => hseti⟩
        · rw [hset m him, i6 k m hk hm]
          have : k ≠ j' := fun e => by subst e; rw [hj'] at hk; exact him (Option.some.inj hk)
          omega
    · obtain ⟨t, c, b1, b2, b3⟩ := hreads i o ho hmem
      refine oper_in hnd' ?_
      unfold Oper.wp
      have hjlt : j < ch.length := by
        rcases Nat.lt_or_ge j ch.length with h | h
        · exact h
        · obtain ⟨k, hk, ok, hok', e, he, hb, hx⟩ := neededOk_at hnee hil hmem
          obtain ⟨m, hm'⟩ := List.mem_iff_getElem?.1 hk
          have hml := (List.getElem?_eq_some_iff.1 hm').1
          have hkl := (i6 m k hm' (Array.getElem?_eq_some_iff.1 hok').1).2 (by omega)
          have := i7 k ok e hkl hok' he hb
          rw [hx, hni'] at this
          cases this
      rw [b3 j _ b W hjlt hTj henv, Oper.upon_value]
      refine ⟨(basic c).1, (basic c).2.1, (basic c).2.2, fun m om t' c' hl hom e1 e2 => ?_, closed, j, hjl, fun k m hk hm => ?_, hT _ _ _ _ hTj fun k m om t' hkj hk hom e1 => ?_⟩
      · by_cases him : i = m
        · subst him
          rw [ho] at hom
          obtain rfl := Option.some.inj hom
          rw [b1] at e1
          obtain rfl := Option.some.inj e1
          rw [b2] at e2
          obtain rfl := Option.some.inj e2
          have : t < b.tmps.size := by rw [i3]; exact hdl t (mem_dsts.2 ⟨i, o, ho, b1⟩)
          rw [b1]
          simp [Act.put, this]
        · have hne : o.dst ≠ some t' := fun e => him (hu i m o om t' ho hom e e1)
          rw [hset m him] at hl
          rw [otherD c t' hne]
          exact i5 m om t' c' hl hom e1 e2
      · have him : i ≠ m := fun e => by subst e; exact hmem (List.mem_of_getElem? hk)
        rw [hset m him]
        exact i6 k m hk hm
      · have hne : o.dst ≠ some t' := fun e => by
          have := hu i m o om t' ho hom e e1
          subst this
          exact hmem (List.mem_of_getElem? hk)
        exact (otherD c t' hne).symm
  · rintro listed b W hs ⟨i2, i3, i4, i5, i7, j, hjl, i6, hTj⟩ hr
    have hl := all_listedB hok hs hr
    have hlo : ∀ {i o}, ops[i]? = some o → listed.getD i false = true := fun h => hl _ (Array.getElem?_eq_some_iff.1 h).1
    have hj : j = ch.length := by
      rcases Nat.lt_or_ge j ch.length with h | h
      · obtain ⟨i, hi⟩ : ∃ i, ch[j]? = some i := ⟨_, List.getElem?_eq_getElem h⟩
        have hil : i < ops.size := by simpa using List.all_eq_true.1 hin i (List.mem_of_getElem? hi)
        have := (i6 j i hi hil).1 (hl _ hil)
        omega
      · omega
    subst hj
    have hb : b = { a with tmps := (dstsOf ops).foldl (fun (ts : Array Value) t => ts.setIfInBounds t (b.tmps.getD t undef)) a.tmps } := by
      obtain ⟨bt, bd⟩ := b
      obtain ⟨at_, ad⟩ := a
      simp only [Act.mk.injEq]
      refine ⟨?_, i2⟩
      apply Array.ext_getElem?
      intro t
      dsimp only at i3 i4
      rw [foldSet]
      by_cases h1 : t ∈ dstsOf ops
      · by_cases h2 : t < at_.size
        · have : t < bt.size := by omega
          simp [h1, h2, this]
        · simp [h2, i3]
      · simp only [h1, false_and, if_false]
        exact i4 t h1
    rw [hb]
    refine hQ (fun t => b.tmps.getD t undef) W (fun t v hv ht => ?_) hTj
    obtain ⟨i, o, ho, e⟩ := mem_dsts.1 ht
    exact i5 i o t v (hlo ho) ho e hv
  · have hno : ∀ j, (Array.replicate ops.size false).getD j false = false := fun j => by
      simp only [Array.getD_eq_getD_getElem?, Array.getElem?_replicate]
      split <;> rfl
    refine ⟨rfl, rfl, fun _ _ => rfl, fun i o t d hl => ?_, fun k o e hl => ?_, 0, Nat.zero_le _, fun k i _ _ => ?_, hT0⟩
    · rw [hno] at hl; cases hl
    · rw [hno] at hl; cases hl
    · rw [hno]; simp
end Go.Proofs.YtmbdaenjeeklfaaDoor

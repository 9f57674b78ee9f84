/- A region that draws its order and whose operations hang on one another by their values alone (literals, each of whose rows lies in a block of its own): in whatever order they come, at the end each value reads as reckoned. No program. -/
import Derived.Test.YtnejikkibneegaaWords
import Derived.Orders
import Derived.Laws.Tables
import Derived.Laws.MakeOwn
import Derived.Great.BuildSlice
namespace Go.Proofs.Ytnejikkibneegaa
open Go.RowKit

section
variable {P : Program} {ops : Array Oper} {Q : Exit → Act → World → Prop} {md : Region.Mode}

theorem count_set {l : List Bool} {i : Nat} (h : l[i]? = some false) : (l.set i true).countP (! ·) + 1 = l.countP (! ·) := by
  induction l generalizing i with
  | nil => simp at h
  | cons b l ih =>
    cases i with
    | zero =>
      simp only [List.getElem?_cons_zero, Option.some.injEq] at h
      subst h
      simp
    | succ i =>
      rw [List.getElem?_cons_succ] at h
      have := ih h
      simp only [List.set_cons_succ, List.countP_cons]
      omega
/-- All orders, by what holds between two operations. -/
theorem wpAny_inv (I : Array Bool → Act → World → Prop)
    (hstep : ∀ listed a w, listed.size = ops.size → I listed a w → ∀ i ∈ Region.ready md ops listed, wpOp P ops Q i (I (listed.setIfInBounds i true)) a w)
    (hdone : ∀ listed a w, listed.size = ops.size → I listed a w → Region.ready md ops listed = [] → Q .normal a w) :
    ∀ (fuel : Nat) (listed : Array Bool) (a : Act) (w : World), listed.size = ops.size → listed.toList.countP (! ·) ≤ fuel → I listed a w → wpAny P md ops Q fuel listed a w
  | 0, listed, a, w, hs, hc, h => by
    have hr : Region.ready md ops listed = [] := by
      rw [List.eq_nil_iff_forall_not_mem]
      intro i hi
      obtain ⟨h0, _⟩ := mem_ready.1 hi
      rcases Nat.lt_or_ge i listed.size with hlt | hge
      · have h1 : listed[i] = false := by simpa [hlt] using h0
        have h2 : 0 < listed.toList.countP (! ·) := List.countP_pos_iff.2 ⟨false, by rw [← h1]; exact Array.getElem_mem_toList hlt, rfl⟩
        omega
      · simp [Array.getElem?_eq_none hge] at h0
    exact ⟨hr, hdone _ _ _ hs h hr⟩
  | fuel + 1, listed, a, w, hs, hc, h => by
    refine ⟨hdone _ _ _ hs h, fun i hi => wpOp_mono (fun a' w' h' => wpAny_inv I hstep hdone fuel _ _ _ (by simpa using hs) ?_ h') (hstep _ _ _ hs h i hi)⟩
    obtain ⟨h0, _⟩ := mem_ready.1 hi
    rcases Nat.lt_or_ge i listed.size with hlt | hge
    · have h1 : listed.toList[i]? = some false := by
        have : listed[i] = false := by simpa [hlt] using h0
        rw [Array.getElem?_toList, Array.getElem?_eq_getElem hlt, this]
      have h2 := count_set h1
      rw [← Array.toList_setIfInBounds] at h2
      omega
    · simp [Array.getElem?_eq_none hge] at h0
end

/-- What a cell reads as: a value; or a slice whose row lies in a block of its own. -/
inductive Cl where
  | v (u : Value)
  | s (e : TypeId) (cs : List Cl) (n : Nat)
mutual
def Cell (W : World) : Cl → Value → Prop
  | .v u, x => x = u
  | .s e cs n, x => ∃ b us, x = .slice (some ⟨b, 0, none⟩) n n ∧ Blk W b e us ∧ Cells W cs us.toList
def Cells (W : World) : List Cl → List Value → Prop
  | [], [] => True
  | c :: cs, u :: us => Cell W c u ∧ Cells W cs us
  | [], _ :: _ => False
  | _ :: _, [] => False
end
mutual
theorem Cell.kept {W W' : World} (hg : W.grownBy W' none) : ∀ (c : Cl) (x : Value), Cell W c x → Cell W' c x
  | .v _, _, h => h
  | .s _ cs _, _, h => by
    simp only [Cell] at h ⊢
    obtain ⟨b, us, h1, h2, h3⟩ := h
    exact ⟨b, us, h1, h2.kept hg, Cells.kept hg cs us.toList h3⟩
theorem Cells.kept {W W' : World} (hg : W.grownBy W' none) : ∀ (cs : List Cl) (us : List Value), Cells W cs us → Cells W' cs us
  | [], [], _ => trivial
  | c :: cs, u :: us, h => ⟨Cell.kept hg c u h.1, Cells.kept hg cs us h.2⟩
end
theorem Cells.length {W : World} : ∀ {cs : List Cl} {us : List Value}, Cells W cs us → cs.length = us.length
  | [], [], _ => rfl
  | _ :: cs, _ :: us, h => by simp [Cells.length h.2]
theorem Cells.set {W : World} {c : Cl} {u : Value} (hc : Cell W c u) : ∀ {cs : List Cl} {us : List Value} (i : Nat), Cells W cs us → Cells W (cs.set i c) (us.set i u)
  | [], [], _, _ => trivial
  | _ :: _, _ :: _, 0, h => ⟨hc, h.2⟩
  | _ :: _, _ :: _, i + 1, h => ⟨h.1, Cells.set hc i h.2⟩
theorem Cells.at_ {W : World} : ∀ {cs : List Cl} {us : List Value} (i : Nat) (c : Cl), Cells W cs us → cs[i]? = some c → ∃ u, us[i]? = some u ∧ Cell W c u
  | [], [], _, _, _, h => by simp at h
  | c :: _, u :: _, 0, c', h, hc => by
    simp only [List.getElem?_cons_zero, Option.some.injEq] at hc
    subst hc
    exact ⟨u, rfl, h.1⟩
  | _ :: _, _ :: _, i + 1, c', h, hc => by
    rw [List.getElem?_cons_succ] at hc ⊢
    exact Cells.at_ i c' h.2 hc
theorem Cells.of_map {W : World} : ∀ (us : List Value), Cells W (us.map .v) us
  | [] => trivial
  | _ :: us => ⟨rfl, Cells.of_map us⟩

/-- What a value reads as: one cell; or a struct's cells. -/
inductive Rd where
  | one (c : Cl)
  | agg (cs : List Cl)
def Rd.cells : Rd → List Cl
  | .one c => [c]
  | .agg cs => cs
def Reads (W : World) : Rd → Value → Prop
  | .one c, x => Cell W c x ∧ x.cells = #[x]
  | .agg cs, x => ∃ us, x = .agg us ∧ Cells W cs us.toList
theorem Reads.kept {W W' : World} (hg : W.grownBy W' none) : ∀ (d : Rd) (x : Value), Reads W d x → Reads W' d x
  | .one c, x, h => ⟨Cell.kept hg c x h.1, h.2⟩
  | .agg cs, _, ⟨us, h1, h2⟩ => ⟨us, h1, Cells.kept hg cs us.toList h2⟩
theorem Reads.cells {W : World} : ∀ {d : Rd} {x : Value}, Reads W d x → Cells W d.cells x.cells.toList
  | .one c, x, h => by rw [h.2]; exact ⟨h.1, trivial⟩
  | .agg cs, _, ⟨us, h1, h2⟩ => by subst h1; exact h2

/-! ### What an operation makes of what it is handed -/
def fillD (place : Nat → Option (Nat × Nat)) (cells : List Cl) : List (Nat × List Cl) → Option (List Cl)
  | [] => some cells
  | (i, v) :: rest =>
    match place i with
    | none => none
    | some (off, size) => if v.length ≠ size || off + v.length > cells.length then none else fillD place (v.zipIdx.foldl (fun cs (c, j) => cs.set (off + j) c) cells) rest
theorem putAll_rel {W : World} (off : Nat) : ∀ {vs : List Cl} {us : List Value} (k : Nat) {cs : List Cl} {xs : Array Value}, Cells W vs us → Cells W cs xs.toList →
    Cells W ((vs.zipIdx k).foldl (fun cs (c, j) => cs.set (off + j) c) cs) ((us.zipIdx k).foldl (fun (cs : Array Value) (c, j) => cs.setIfInBounds (off + j) c) xs).toList
  | [], [], _, _, _, _, h => h
  | v :: vs, u :: us, k, cs, xs, hv, h => by
    simp only [List.zipIdx_cons, List.foldl_cons]
    refine putAll_rel off (k + 1) hv.2 ?_
    rw [Array.toList_setIfInBounds]
    exact Cells.set hv.1 _ h
/-- The parts, each at its place. -/
def PartsRel (W : World) : List (Nat × List Cl) → List (Nat × Value) → Prop
  | [], [] => True
  | (i, d) :: ds, (j, u) :: us => i = j ∧ Cells W d u.cells.toList ∧ PartsRel W ds us
  | [], _ :: _ => False
  | _ :: _, [] => False
theorem fill_rel {W : World} {place : Nat → Option (Nat × Nat)} : ∀ {ds : List (Nat × List Cl)} {us : List (Nat × Value)} {cs cs' : List Cl} {xs : Array Value}, PartsRel W ds us → Cells W cs xs.toList → fillD place cs ds = some cs' →
    ∃ xs', Instr.fill place xs us = some xs' ∧ Cells W cs' xs'.toList
  | [], [], _, _, xs, _, h, hf => by
    simp only [fillD, Option.some.injEq] at hf
    subst hf
    exact ⟨xs, rfl, h⟩
  | (i, d) :: ds, (j, u) :: us, cs, cs', xs, hp, h, hf => by
    obtain ⟨rfl, hd, hp⟩ := hp
    simp only [fillD] at hf
    cases hpl : place i with
    | none => rw [hpl] at hf; cases hf
    | some q =>
      obtain ⟨off, size⟩ := q
      rw [hpl] at hf
      dsimp only at hf
      have hl := hd.length
      have hl2 := h.length
      simp only [Array.length_toList] at hl hl2
      by_cases hc : (decide (d.length ≠ size) || decide (off + d.length > cs.length)) = true
      · rw [if_pos hc] at hf; cases hf
      · rw [if_neg hc] at hf
        obtain ⟨xs', h1, h2⟩ := fill_rel (xs := u.cells.zipIdx.foldl (fun cs (c, j) => cs.setIfInBounds (off + j) c) xs) hp (by
          have := putAll_rel off 0 hd h
          rwa [← Array.foldl_toList, Array.toList_zipIdx]) hf
        refine ⟨xs', ?_, h2⟩
        rw [hl, hl2] at hc
        simp only [Instr.fill, hpl]
        rw [if_neg (by simpa using hc)]
        exact h1

/-- What a type is to a literal: a struct's places and zero cells; a slice's elements. -/
inductive Ty where
  | st (pl : List (Nat × Nat)) (zs : List Value)
  | sl (e : TypeId) (size : Nat) (zs : List Value)
def tyOf (P : Program) (t : TypeId) : Option Ty :=
  match P.info? t, P.underlying t with
  | some it, some (.struct fields) =>
    match it.zero, fields.toList.mapM (fun f => (P.info? f.type).map fun i => (f.offset, i.size)) with
    | some z, some places => some (.st places z.cells.toList)
    | _, _ => none
  | _, some (.slice e) =>
    match P.info? e with
    | some ie =>
      match ie.zero with
      | some z => if ie.size = 0 ∨ 4096 < ie.bytes ∨ z.cells.size ≠ ie.size then none else some (.sl e ie.size z.cells.toList)
      | none => none
    | none => none
  | _, _ => none
theorem run_ty_st {P : Program} {t : TypeId} {pl : List (Nat × Nat)} {zs : List Value} (h : tyOf P t = some (.st pl zs)) {parts : Array (Nat × Value)} {xs : Array Value} (hf : Instr.fill (pl.toArray[·]?) zs.toArray parts.toList = some xs) (W : World) :
    (Instr.build t parts).run P W = .ok (.agg xs) W := by
  refine run_build W t parts xs ?_
  unfold tyOf at h
  unfold Program.built
  split at h
  · rename_i it fields h1 h2
    rw [h1, h2]
    dsimp only
    split at h
    · rename_i z places h3 h4
      rw [h3, h4]
      simp only [Option.some.injEq, Ty.st.injEq] at h
      obtain ⟨rfl, rfl⟩ := h
      exact hf
    · cases h
  · split at h
    · split at h
      · split at h <;> cases h
      · cases h
    · cases h
  · cases h
theorem ty_sl {P : Program} {t e : TypeId} {size : Nat} {zs : List Value} (h : tyOf P t = some (.sl e size zs)) :
    ∃ ie z, P.underlying t = some (.slice e) ∧ P.info? e = some ie ∧ ie.zero = some z ∧ ie.size = size ∧ z.cells.toList = zs ∧ size ≠ 0 ∧ ie.bytes ≤ 4096 ∧ z.cells.size = size := by
  unfold tyOf at h
  split at h
  · split at h <;> cases h
  · rename_i e' h2 h3
    split at h
    · rename_i ie h4
      split at h
      · rename_i z h5
        split at h
        · cases h
        · rename_i hc
          simp only [Option.some.injEq, Ty.sl.injEq] at h
          obtain ⟨rfl, rfl, rfl⟩ := h
          exact ⟨ie, z, h3, h4, h5, rfl, rfl, by omega, by omega, by omega⟩
      · cases h
    · cases h
  · cases h
def madeD (zs : List Value) (n : Nat) : List Cl := ((List.range n).map fun j => zs.toArray[j % zs.toArray.size]!).map .v
theorem madeD_cells {W : World} (z : Array Value) (n : Nat) : Cells W (madeD z.toList n) (madeCells z n).toList := by
  have : (madeCells z n).toList = (List.range n).map fun j => z.toList.toArray[j % z.toList.toArray.size]! := by simp [madeCells]
  rw [this]
  exact Cells.of_map _

def isOne : Value → Bool
  | .int .. | .bool .. | .string .. | .slice .. | .pointer .. => true
  | _ => false
theorem isOne_cells {v : Value} (h : isOne v = true) : v.cells = #[v] := by
  cases v <;> first | rfl | (simp [isOne] at h)
def symX (E : List (Tmp × Rd)) : Operand → Option Rd
  | .const v => if isOne v then some (.one (.v v)) else none
  | .tmp t => E.lookup t
  | _ => none
def symParts (E : List (Tmp × Rd)) : List (Nat × Operand) → Option (List (Nat × List Cl))
  | [] => some []
  | (i, x) :: ps => match symX E x, symParts E ps with
    | some d, some ds => some ((i, d.cells) :: ds)
    | _, _ => none
/-- What an operation's value reads as. -/
def symOp (P : Program) (E : List (Tmp × Rd)) : Op → Option Rd
  | .move x => symX E x
  | .assign x => symX E x
  | .build t parts => match tyOf P t, symParts E parts.toList with
    | some (.st pl zs), some ps => (fillD (pl.toArray[·]?) (zs.map .v) ps).map .agg
    | _, _ => none
  | .buildSlice t n parts => match tyOf P t, symParts E parts.toList with
    | some (.sl e size zs), some ps => if n * size > 2 ^ 24 ∨ n * size = 0 then none else (fillD (fun i => some (i * size, size)) (madeD zs (n * size)) ps).map fun cs => .one (.s e cs n)
    | _, _ => none
  | .makeSlice t lo co => match lo, co with
    | .const (.int _ l), .const (.int _ c) => match tyOf P t with
      | some (.sl e size zs) => if l = c ∧ 0 ≤ l ∧ l ≤ 1000 then some (.one (.s e (madeD zs (l.toNat * size)) l.toNat)) else none
      | _ => none
    | _, _ => none
  | _ => none
section
variable {P : Program} {E : List (Tmp × Rd)} {W : World} {b : Act}
theorem symX_ok {x : Operand} {d : Rd} (h : ∀ t d, x = .tmp t → E.lookup t = some d → Reads W d (b.eval (.tmp t))) (hx : symX E x = some d) : Reads W d (b.eval x) := by
  cases x with
  | tmp t => exact h t d rfl hx
  | const v =>
    simp only [symX] at hx
    split at hx
    · rename_i h1
      simp only [Option.some.injEq] at hx
      subst hx
      exact ⟨rfl, isOne_cells h1⟩
    · cases hx
  | global g => simp [symX] at hx
  | func f => simp [symX] at hx
theorem symParts_ok : ∀ {ps : List (Nat × Operand)} {ds : List (Nat × List Cl)}, (∀ t d, (∃ i, (i, Operand.tmp t) ∈ ps) → E.lookup t = some d → Reads W d (b.eval (.tmp t))) → symParts E ps = some ds →
    PartsRel W ds (ps.map fun (i, x) => (i, b.eval x))
  | [], ds, _, h => by
    simp only [symParts, Option.some.injEq] at h
    subst h
    trivial
  | (i, x) :: ps, ds, he, h => by
    simp only [symParts] at h
    split at h
    · rename_i d ds' h1 h2
      simp only [Option.some.injEq] at h
      subst h
      exact ⟨rfl, (symX_ok (fun t d e hl => he t d ⟨i, by rw [← e]; exact List.mem_cons_self⟩ hl) h1).cells, symParts_ok (fun t d ⟨j, hj⟩ hl => he t d ⟨j, List.mem_cons_of_mem _ hj⟩ hl) h2⟩
    · cases h
theorem grown_refl (W : World) : W.grownBy W none := only_refl W none
theorem symOp_ok {o : Oper} {d : Rd} (h : ∀ t d, Operand.tmp t ∈ o.op.operands → E.lookup t = some d → Reads W d (b.eval (.tmp t))) (hs : symOp P E o.op = some d) :
    ∃ v W', (execOp b.eval o).run P W = .ok (.value v) W' ∧ W.grownBy W' none ∧ Reads W' d v := by
  obtain ⟨dst, op, type, pos, after, guard⟩ := o
  dsimp only at h hs

  cases op <;> simp only [symOp] at hs <;> try (cases hs; done)
  case move x => exact ⟨_, W, rfl, grown_refl W, symX_ok (fun t d e hl => h t d (by simp [Op.operands, e]) hl) hs⟩
  case assign x => exact ⟨_, W, rfl, grown_refl W, symX_ok (fun t d e hl => h t d (by simp [Op.operands, e]) hl) hs⟩
  case build t parts =>
    split at hs
    · rename_i pl zs ps h1 h2
      obtain ⟨cs, hcs, rfl⟩ := Option.map_eq_some_iff.1 hs
      obtain ⟨xs, h3, h4⟩ := fill_rel (xs := zs.toArray) (symParts_ok (fun t d ⟨i, hi⟩ hl => h t d (by simp only [Op.operands]; exact List.mem_toArray.2 (List.mem_map.2 ⟨_, hi, rfl⟩)) hl) h2) (by simpa using Cells.of_map (W := W) zs) hcs
      have h5 := run_ty_st h1 (parts := parts.map fun (i, x) => (i, b.eval x)) (xs := xs) (by rw [Array.toList_map]; exact h3) W
      exact ⟨.agg xs, W, by simp [execOp, h5], grown_refl W, xs, rfl, h4⟩
    · cases hs
  case buildSlice t n parts =>
    split at hs
    · rename_i e size zs ps h1 h2
      split at hs
      · cases hs
      · rename_i hc
        obtain ⟨cs, hcs, rfl⟩ := Option.map_eq_some_iff.1 hs
        obtain ⟨ie, z, g1, g2, g3, g4, g5, g6, g7, g8⟩ := ty_sl h1
        subst g5 g4
        obtain ⟨xs, h3, h4⟩ := fill_rel (symParts_ok (fun t d ⟨i, hi⟩ hl => h t d (by simp only [Op.operands]; exact List.mem_toArray.2 (List.mem_map.2 ⟨_, hi, rfl⟩)) hl) h2) (madeD_cells (W := W) z.cells (n * ie.size)) hcs
        have h5 := run_buildSlice W t e n (parts.map fun (i, x) => (i, b.eval x)) xs ie z g1 g2 g3 (by omega) (by omega) (by rw [Array.toList_map]; exact h3)
        have hg := only_alloc (only_refl W none) (.cells xs e)
        exact ⟨_, _, by simp [execOp, h5], hg, ⟨_, xs, rfl, Blk.new W e xs, Cells.kept hg _ _ h4⟩, rfl⟩
    · cases hs
  case makeSlice t lo co =>
    split at hs
    · rename_i kl l kc c
      split at hs
      · rename_i e size zs h1
        split at hs
        · rename_i hc
          simp only [Option.some.injEq] at hs
          subst hs
          obtain ⟨ie, z, g1, g2, g3, g4, g5, g6, g7, g8⟩ := ty_sl h1
          obtain ⟨rfl, hl0, hl1⟩ := hc
          subst g5 g4
          have hb : (ie.bytes : Int) * l ≤ 4096 * 1000 := Int.mul_le_mul (by omega) hl1 hl0 (by omega)
          have h5 := run_make W t e ie z g1 g2 g3 kl kc l l hl0 (Int.le_refl _) (by omega) (by omega)
          have hg := only_alloc (only_refl W none) (.cells (madeCells z.cells (l.toNat * ie.size)) e)
          exact ⟨_, _, by simp [execOp, Act.eval, h5], hg, ⟨_, _, rfl, Blk.new W e _, Cells.kept hg _ _ (madeD_cells z.cells _)⟩, rfl⟩
        · cases hs
      · cases hs
    · cases hs
end

/-! ### All operations, in the text's order -/
def symAll (P : Program) (pre : List (Nat × Rd)) : List Oper → Nat → List (Tmp × Rd) → Option (List (Tmp × Rd))
  | [], _, E => some E
  | o :: os, i, E => match o.dst, (match pre.lookup i with | some d => some d | none => symOp P E o.op) with
    | some t, some d => if (E.lookup t).isSome then none else symAll P pre os (i + 1) ((t, d) :: E)
    | _, _ => none
def LeE (E E' : List (Tmp × Rd)) : Prop := ∀ t d, E.lookup t = some d → E'.lookup t = some d
theorem LeE.cons {E : List (Tmp × Rd)} {t : Tmp} {d : Rd} (h : (E.lookup t).isSome = false) : LeE E ((t, d) :: E) := fun t' d' h' => by
  rw [List.lookup_cons]
  by_cases e : (t' == t) = true
  · rw [eq_of_beq e, ] at h'
    rw [h'] at h; cases h
  · rw [Bool.not_eq_true] at e
    rw [e]; exact h'
theorem symX_mono {E E' : List (Tmp × Rd)} (h : LeE E E') {x : Operand} {d : Rd} (hx : symX E x = some d) : symX E' x = some d := by
  cases x <;> first | exact hx | exact h _ _ hx
theorem symParts_mono {E E' : List (Tmp × Rd)} (h : LeE E E') : ∀ {ps : List (Nat × Operand)} {ds : List (Nat × List Cl)}, symParts E ps = some ds → symParts E' ps = some ds
  | [], _, hp => hp
  | (i, x) :: ps, ds, hp => by
    simp only [symParts] at hp ⊢
    split at hp
    · rename_i d ds' h1 h2
      rw [symX_mono h h1, symParts_mono h h2]
      exact hp
    · cases hp
theorem symOp_mono {P : Program} {E E' : List (Tmp × Rd)} (h : LeE E E') {op : Op} {d : Rd} (hs : symOp P E op = some d) : symOp P E' op = some d := by
  cases op <;> simp only [symOp] at hs ⊢ <;> try (cases hs; done)
  case move x => exact symX_mono h hs
  case assign x => exact symX_mono h hs
  case build t parts =>
    split at hs
    · rename_i pl zs ps h1 h2
      rw [h1, symParts_mono h h2]; exact hs
    · cases hs
  case buildSlice t n parts =>
    split at hs
    · rename_i e size zs ps h1 h2
      rw [h1, symParts_mono h h2]; exact hs
    · cases hs
  case makeSlice t lo co => exact hs
theorem symAll_ok {P : Program} {pre : List (Nat × Rd)} : ∀ {os : List Oper} {k : Nat} {E0 E : List (Tmp × Rd)}, symAll P pre os k E0 = some E →
    LeE E0 E ∧ (∀ (j : Nat) (o : Oper), os[j]? = some o → ∃ t d, o.dst = some t ∧ E.lookup t = some d ∧ E0.lookup t = none ∧ (pre.lookup (k + j) = some d ∨ symOp P E o.op = some d)) ∧
    (∀ t d, E.lookup t = some d → E0.lookup t = some d ∨ ∃ o ∈ os, o.dst = some t) ∧
    (∀ (i j : Nat) (oi oj : Oper) (t : Tmp), os[i]? = some oi → os[j]? = some oj → oi.dst = some t → oj.dst = some t → i = j)
  | [], k, E0, E, h => by
    simp only [symAll, Option.some.injEq] at h
    subst h
    exact ⟨fun _ _ h => h, fun j o h => by simp at h, fun t d h => .inl h, fun i j oi oj t h => by simp at h⟩
  | o :: os, k, E0, E, h => by
    simp only [symAll] at h
    split at h
    · rename_i t d h1 h2
      split at h
      · cases h
      · rename_i hn
        rw [Bool.not_eq_true] at hn
        have hle := LeE.cons (d := d) hn
        obtain ⟨a1, a2, a3, a4⟩ := symAll_ok h
        have ht : E.lookup t = some d := a1 t d (by rw [List.lookup_cons]; simp)
        have hnot : ∀ (j : Nat) (oj : Oper), os[j]? = some oj → oj.dst ≠ some t := fun j oj hj e => by
          obtain ⟨t', d', b1, b2, b3, _⟩ := a2 j oj hj
          rw [b1] at e
          simp only [Option.some.injEq] at e
          subst e
          rw [List.lookup_cons] at b3
          simp at b3
        refine ⟨fun t' d' h' => a1 t' d' (hle t' d' h'), fun j oj hj => ?_, fun t' d' h' => ?_, fun i j oi oj t' hi hj e1 e2 => ?_⟩
        · cases j with
          | zero =>
            simp only [List.getElem?_cons_zero, Option.some.injEq] at hj
            subst hj
            refine ⟨t, d, h1, ht, by simpa using hn, ?_⟩
            rw [Nat.add_zero]
            split at h2
            · rename_i d' h3
              exact .inl (h3.trans h2)
            · exact .inr (symOp_mono (fun t' d' h' => a1 t' d' (hle t' d' h')) h2)
          | succ j =>
            rw [List.getElem?_cons_succ] at hj
            obtain ⟨t', d', b1, b2, b3, b4⟩ := a2 j oj hj
            refine ⟨t', d', b1, b2, ?_, by rw [show k + (j + 1) = k + 1 + j by omega]; exact b4⟩
            rw [List.lookup_cons] at b3
            split at b3
            · cases b3
            · exact b3
        · rcases a3 t' d' h' with h3 | ⟨oj, hj, e⟩
          · rw [List.lookup_cons] at h3
            split at h3
            · rename_i e
              exact .inr ⟨o, List.mem_cons_self, by rw [h1, eq_of_beq e]⟩
            · exact .inl h3
          · exact .inr ⟨oj, List.mem_cons_of_mem _ hj, e⟩
        · cases i with
          | zero =>
            simp only [List.getElem?_cons_zero, Option.some.injEq] at hi
            subst hi
            rw [h1] at e1
            simp only [Option.some.injEq] at e1
            subst e1
            cases j with
            | zero => rfl
            | succ j => exact absurd e2 (hnot j oj (by simpa using hj))
          | succ i =>
            cases j with
            | zero =>
              simp only [List.getElem?_cons_zero, Option.some.injEq] at hj
              subst hj
              rw [h1] at e2
              simp only [Option.some.injEq] at e2
              subst e2
              exact absurd e1 (hnot i oi (by simpa using hi))
            | succ j =>
              rw [a4 i j oi oj t' (by simpa using hi) (by simpa using hj) e1 e2]
    · cases h

/-! ### The region -/
def dstsOf (ops : Array Oper) : List Tmp := ops.toList.filterMap (·.dst)
def depsOk (ops : Array Oper) (o : Oper) : Bool := o.op.operands.toList.all fun
  | .tmp t => (ops.toList.all fun oj => oj.dst != some t) || o.after.toList.any fun e => Region.binds .any e && ((ops[e.on]?).bind (·.dst) == some t)
  | _ => true
def regOk (ops : Array Oper) : Bool := ops.toList.zipIdx.all fun (o, i) => o.guard.isNone && (o.after.toList.all fun e => decide (e.on < i)) && depsOk ops o
theorem regOk_at {ops : Array Oper} (h : regOk ops = true) {i : Nat} {o : Oper} (hi : ops[i]? = some o) : o.guard = none ∧ (∀ e ∈ o.after, e.on < i) ∧ depsOk ops o = true := by
  unfold regOk at h
  rw [List.all_eq_true] at h
  have h1 := h (o, i) (List.mem_iff_getElem?.2 ⟨i, by rw [List.getElem?_zipIdx, Array.getElem?_toList, hi]; simp⟩)
  simp only [Bool.and_eq_true, List.all_eq_true, decide_eq_true_eq, Option.isNone_iff_eq_none] at h1
  exact ⟨h1.1.1, fun e he => h1.1.2 e (Array.mem_toList_iff.2 he), h1.2⟩
theorem all_listed {ops : Array Oper} (hok : regOk ops = true) {listed : Array Bool} (hs : listed.size = ops.size) (hr : Region.ready .any ops listed = []) : ∀ i, i < ops.size → listed.getD i false = true := by
  intro i
  induction i using Nat.strongRecOn with
  | _ i ih =>
    intro hi
    cases hl : listed.getD i false with
    | true => rfl
    | false =>
      have ho : ops[i]? = some ops[i] := Array.getElem?_eq_getElem hi
      have hm : i ∈ Region.ready .any ops listed := mem_ready.2 ⟨by simpa [hs, hi] using hl, ops[i], ho, fun e he _ => by
        have := (regOk_at hok ho).2.1 e he
        exact ih e.on this (by omega)⟩
      rw [hr] at hm
      cases hm
theorem foldSet {vs : Tmp → Value} : ∀ (l : List Tmp) (A : Array Value) (t : Nat), (l.foldl (fun (ts : Array Value) t => ts.setIfInBounds t (vs t)) A)[t]? = if t ∈ l ∧ t < A.size then some (vs t) else A[t]?
  | [], A, t => by simp
  | x :: l, A, t => by
    rw [List.foldl_cons, foldSet l]
    simp only [Array.size_setIfInBounds, List.mem_cons, Array.getElem?_setIfInBounds]
    by_cases h1 : t < A.size
    · by_cases h2 : t ∈ l
      · simp [h1, h2]
      · by_cases h3 : x = t
        · subst h3; simp [h1]
        · have h4 : ¬ t = x := fun e => h3 e.symm
          simp [h2, h3, h4]
    · simp [h1]
      intros
      omega
theorem mem_dsts {ops : Array Oper} {t : Tmp} : t ∈ dstsOf ops ↔ ∃ (i : Nat) (o : Oper), ops[i]? = some o ∧ o.dst = some t := by
  unfold dstsOf
  rw [List.mem_filterMap]
  constructor
  · rintro ⟨o, ho, h⟩
    obtain ⟨i, hi⟩ := List.mem_iff_getElem?.1 ho
    exact ⟨i, o, by rw [← Array.getElem?_toList]; exact hi, h⟩
  · rintro ⟨i, o, ho, h⟩
    exact ⟨o, List.mem_iff_getElem?.2 ⟨i, by rw [Array.getElem?_toList]; exact ho⟩, h⟩

theorem region_reads {P : Program} {ops : Array Oper} {Q : Exit → Act → World → Prop} {id : Nat} {a : Act} {w : World} (hm : P.follows .mixedOrders = true) (hok : regOk ops = true) (hlt : ((dstsOf ops).all fun t => decide (t < a.tmps.size)) = true)
    (pre : List (Nat × Rd)) (E0 E : List (Tmp × Rd)) (hE : symAll P pre ops.toList 0 E0 = some E)
    (h0 : ∀ t d, E0.lookup t = some d → Reads w d (a.tmps.getD t undef))
    (hpre : ∀ (i : Nat) (d : Rd) (o : Oper), pre.lookup i = some d → ops[i]? = some o → ∀ (b : Act) (W : World), w.grownBy W none → (∀ t d, Operand.tmp t ∈ o.op.operands → E.lookup t = some d → Reads W d (b.eval (.tmp t))) → ∃ v, (execOp b.eval o).run P W = .ok (.value v) W ∧ Reads W d v)
    (hQ : ∀ (vs : Tmp → Value) (W : World), w.grownBy W none → (∀ t d, E.lookup t = some d → t ∈ dstsOf ops → Reads W d (vs t)) → Q .normal { a with tmps := (dstsOf ops).foldl (fun (ts : Array Value) t => ts.setIfInBounds t (vs t)) a.tmps } W) :
    (Code.region id ops true).wp P Q a w := by
  obtain ⟨a1, a2, a3, a4⟩ := symAll_ok hE
  have hdl : ∀ t ∈ dstsOf ops, t < a.tmps.size := fun t ht => by simpa using List.all_eq_true.1 hlt t ht
  refine wp_region_any hm (wpAny_inv (fun listed b W => w.grownBy W none ∧ b.defers = a.defers ∧ b.tmps.size = a.tmps.size ∧ (∀ t, t ∉ dstsOf ops → b.tmps[t]? = a.tmps[t]?) ∧
    (∀ (i : Nat) (o : Oper) (t : Tmp) (d : Rd), listed.getD i false = true → ops[i]? = some o → o.dst = some t → E.lookup t = some d → Reads W d (b.tmps.getD t undef))) ?_ ?_ ops.size _ _ _ (by simp) (by
      have := List.countP_le_length (p := (! ·)) (l := (Array.replicate ops.size false).toList)
      simpa using this) ⟨only_drew (only_refl w none), rfl, rfl, fun _ _ => rfl, fun i o t d hl => by
      simp only [Array.getD_eq_getD_getElem?, Array.getElem?_replicate] at hl
      split at hl <;> cases hl⟩)
  · rintro listed b W hs ⟨i1, i2, i3, i4, i5⟩ i hi
    obtain ⟨_, o, ho, hall⟩ := mem_ready.1 hi
    obtain ⟨g1, g2, g3⟩ := regOk_at hok ho
    obtain ⟨t, d, b1, b2, b3, b4⟩ := a2 i o (by rw [Array.getElem?_toList]; exact ho)
    rw [Nat.zero_add] at b4
    have henv : ∀ t d, Operand.tmp t ∈ o.op.operands → E.lookup t = some d → Reads W d (b.eval (.tmp t)) := fun t d ht hd => by
      unfold depsOk at g3
      rw [List.all_eq_true] at g3
      have h1 := g3 (.tmp t) (Array.mem_toList_iff.2 ht)
      simp only [Bool.or_eq_true, List.all_eq_true, List.any_eq_true, Bool.and_eq_true, bne_iff_ne, ne_eq, beq_iff_eq] at h1
      rcases h1 with h1 | ⟨e, he, hb, hx⟩
      · rcases a3 t d hd with h2 | ⟨oj, hj, e⟩
        · have h3 := Reads.kept i1 d _ (h0 t d h2)
          have h4 : t ∉ dstsOf ops := fun hm => by
            obtain ⟨i, oi, hi, e⟩ := mem_dsts.1 hm
            exact h1 oi (List.mem_iff_getElem?.2 ⟨i, by rw [Array.getElem?_toList]; exact hi⟩) e
          have h5 := i4 t h4
          show Reads W d (b.tmps.getD t undef)
          rw [Array.getD_eq_getD_getElem?, h5, ← Array.getD_eq_getD_getElem?]
          exact h3
        · exact absurd e (h1 oj hj)
      · obtain ⟨oj, hoj, e1⟩ := Option.bind_eq_some_iff.1 hx
        exact i5 e.on oj t d (hall e (Array.mem_toList_iff.1 he) hb) hoj e1 hd
    have hrun : ∃ v W', (execOp b.eval o).run P W = .ok (.value v) W' ∧ W.grownBy W' none ∧ Reads W' d v := by
      rcases b4 with h1 | h1
      · obtain ⟨v, hv, hr⟩ := hpre i d o h1 ho b W i1 henv
        exact ⟨v, W, hv, only_refl W none, hr⟩
      · exact symOp_ok henv h1
    obtain ⟨v, W', hv, hg, hr⟩ := hrun
    unfold wpOp
    simp only [ho]
    rw [if_pos (by simp [Region.wanted, g1])]
    refine .inl ?_
    unfold Oper.wp
    rw [hv, Oper.upon_value, b1]
    refine ⟨only_trans i1 hg, i2, by simp [Act.put, i3], fun t' ht' => ?_, fun j oj t' d' hl hoj e1 e2 => ?_⟩
    · have hne : t ≠ t' := fun e => ht' (mem_dsts.2 ⟨i, o, ho, by rw [b1, e]⟩)
      simp only [Act.put]
      rw [Array.getElem?_setIfInBounds_ne hne]
      exact i4 t' ht'
    · by_cases hij : i = j
      · subst hij
        rw [ho] at hoj
        simp only [Option.some.injEq] at hoj
        subst hoj
        rw [b1] at e1
        simp only [Option.some.injEq] at e1
        subst e1
        rw [b2] at e2
        simp only [Option.some.injEq] at e2
        subst e2
        have : t < b.tmps.size := by rw [i3]; exact hdl t (mem_dsts.2 ⟨i, o, ho, b1⟩)
        simpa [Act.put, this] using hr
      · have hne : t ≠ t' := fun e => hij (a4 i j o oj t (by rw [Array.getElem?_toList]; exact ho) (by rw [Array.getElem?_toList]; exact hoj) b1 (by rw [e]; exact e1))
        rw [getD_set_ne false hij] at hl
        have := Reads.kept hg d' _ (i5 j oj t' d' hl hoj e1 e2)
        simpa [Act.put, Array.getElem?_setIfInBounds_ne hne] using this
  · rintro listed b W hs ⟨i1, i2, i3, i4, i5⟩ hr
    have hl := all_listed hok hs hr
    have hb : b = { a with tmps := (dstsOf ops).foldl (fun (ts : Array Value) t => ts.setIfInBounds t (b.tmps.getD t undef)) a.tmps } := by
      obtain ⟨bt, bd⟩ := b
      obtain ⟨at_, ad⟩ := a
      simp only [Act.mk.injEq]
      refine ⟨?_, i2⟩
      apply Array.ext_getElem?
      intro t
      dsimp only at i3 i4
      rw [foldSet]
      by_cases h1 : t ∈ dstsOf ops
      · by_cases h2 : t < at_.size
        · have : t < bt.size := by omega
          simp [h1, h2, this]
        · simp [h2, i3]
      · simp only [h1, false_and, if_false]
        exact i4 t h1
    rw [hb]
    refine hQ _ W i1 fun t d hd ht => ?_
    obtain ⟨i, o, ho, e⟩ := mem_dsts.1 ht
    exact i5 i o t d (hl i (Array.getElem?_eq_some_iff.1 ho).1) ho e hd
/-- .. with what is wanted of them named ahead. -/
theorem region_reads_want {P : Program} {ops : Array Oper} {Q : Exit → Act → World → Prop} {id : Nat} {a : Act} {w : World} (hm : P.follows .mixedOrders = true) (hok : regOk ops = true) (ds : List Tmp) (hds : dstsOf ops = ds) (hlt : (ds.all fun t => decide (t < a.tmps.size)) = true)
    (pre : List (Nat × Rd)) (E0 : List (Tmp × Rd)) (want : List (Tmp × Rd)) (hE : (symAll P pre ops.toList 0 E0).map (fun E => want.map fun p => E.lookup p.1) = some (want.map fun p => some p.2))
    (h0 : ∀ p ∈ E0, Reads w p.2 (a.tmps.getD p.1 undef))
    (hpre : ∀ p ∈ pre, ∀ (o : Oper), ops[p.1]? = some o → ∀ (b : Act) (W : World), w.grownBy W none → (∀ q ∈ want, Operand.tmp q.1 ∈ o.op.operands → Reads W q.2 (b.eval (.tmp q.1))) → ∃ v, (execOp b.eval o).run P W = .ok (.value v) W ∧ Reads W p.2 v)
    (hQ : ∀ (vs : Tmp → Value) (W : World), w.grownBy W none → (∀ q ∈ want, q.1 ∈ ds → Reads W q.2 (vs q.1)) → Q .normal { a with tmps := ds.foldl (fun (ts : Array Value) t => ts.setIfInBounds t (vs t)) a.tmps } W) :
    (Code.region id ops true).wp P Q a w := by
  subst hds
  obtain ⟨E, hE1, hE2⟩ := Option.map_eq_some_iff.1 hE
  have hw : ∀ q ∈ want, E.lookup q.1 = some q.2 := fun q hq => by
    obtain ⟨i, hi⟩ := List.mem_iff_getElem?.1 hq
    have h1 := congrArg (fun l => l[i]?) hE2
    simpa [hi] using h1
  have hlk : ∀ {l : List (Nat × Rd)} {t : Nat} {d : Rd}, l.lookup t = some d → (t, d) ∈ l := fun {l t d} h => by
    induction l with
    | nil => cases h
    | cons q l ih =>
      obtain ⟨t', d'⟩ := q
      rw [List.lookup_cons] at h
      split at h
      · rename_i e
        simp only [Option.some.injEq] at h
        subst h
        rw [eq_of_beq e]
        exact List.mem_cons_self
      · exact List.mem_cons_of_mem _ (ih h)
  exact region_reads hm hok hlt pre E0 E hE1 (fun t d h => h0 _ (hlk h)) (fun i d o h ho b W hg hr => hpre _ (hlk h) o ho b W hg fun q hq hm => hr q.1 q.2 hm (hw q hq))
    (fun vs W hg hr => hQ vs W hg fun q hq hm => hr q.1 q.2 (hw q hq) hm)
end Go.Proofs.Ytnejikkibneegaa

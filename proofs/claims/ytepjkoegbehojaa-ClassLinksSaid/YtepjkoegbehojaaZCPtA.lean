/- class: part: rows of what is known, the map, numbers. -/
import Derived.Test.YtepjkoegbehojaaZMgBC
import Derived.Great.BuildSlice
import Derived.Deep.MidRow
namespace Go.Proofs.Ytepjkoegbehojaa
open Go.RowKit Go.Shelf Go.Maps

theorem known_info : (Try.prog.info? 68).map (fun i => (i.zero, i.size, i.bytes)) = some (some (.agg (knC 0 false (0, 0) 0 [])), 21, 168) := by kernel_rfl
theorem wpList_make_ints {ops : Array Oper} {rest : List Oper} {o : Oper} {a : Act} {W : World} {Q : Exit → Act → World → Prop} (hgd : o.guard = none) (l c : Operand) (ho : o.op = .makeSlice 25 l c)
    {N : Int} {n : Nat} (hl : a.eval l = .int .i64 N) (hc : a.eval c = .int .i64 N) (hN : N = (n : Int)) (hn : n ≤ 1000)
    (h : ∀ W', Blk W' W.heap.size 3 (Array.replicate n (.int .i64 0)) → W.grownBy W' none → W'.heap.size = W.heap.size + 1 → wpList Try.prog ops Q rest (a.put o.dst (.slice (some ⟨W.heap.size, 0, none⟩) n n)) W') : wpList Try.prog ops Q (o :: rest) a W := by
  obtain ⟨i0, hi, hz0, hz1, hz2⟩ := info_parts intI_info
  refine wpList_plain hgd fun K hK => ?_
  have hr := run_make (P := Try.prog) W 25 3 i0 _ Try.underlying25 hi hz0 .i64 .i64 (n : Int) (n : Int) (by omega) (Int.le_refl _) (by rw [hz2]; omega) (by omega)
  simp only [Int.toNat_natCast] at hr
  subst hN
  unfold Oper.wp
  simp [execOp, ho, hl, hc, hr, Result.andThen]
  refine hK _ _ (h _ ?_ (World.grownBy_alloc W _ none) (by simp))
  rw [hz1, made_one _ rfl]
  exact Blk.new _ _ _
/-- A row of ints of a fixed length: the first ones are written, the others are 0. -/
def rowN (n : Nat) (os : List Nat) : Array Value := ((List.range n).map fun i => Value.int .i64 ((os.getD i 0 : Nat) : Int)).toArray
theorem rowN_nil (n : Nat) : Array.replicate n (Value.int .i64 0) = rowN n [] := by
  unfold rowN
  apply Array.ext
  · simp
  · intro i h1 h2; simp
theorem rowN_set {n : Nat} {os : List Nat} (h : os.length < n) (c : Nat) : (rowN n os).setIfInBounds os.length (.int .i64 (c : Int)) = rowN n (os ++ [c]) := by
  apply Array.ext_getElem?
  intro i
  unfold rowN
  rw [Array.getElem?_setIfInBounds]
  simp only [List.getElem?_toArray, List.getElem?_map, List.size_toArray, List.length_map, List.length_range]
  by_cases e : os.length = i
  · subst e
    rw [if_pos rfl, if_pos h, List.getElem?_range h, Option.map_some, List.getD_eq_getElem?_getD, List.getElem?_append_right (Nat.le_refl _), Nat.sub_self]; rfl
  · rw [if_neg e]
    rcases Nat.lt_or_ge i n with hi | hi
    · rw [List.getElem?_range hi, Option.map_some, Option.map_some, List.getD_eq_getElem?_getD, List.getD_eq_getElem?_getD]
      rcases Nat.lt_or_ge i os.length with h3 | h3
      · rw [List.getElem?_append_left h3]
      · rw [List.getElem?_append_right h3, List.getElem?_eq_none h3, List.getElem?_eq_none (by simp; omega)]
    · rw [List.getElem?_eq_none (by simp; omega)]; rfl
theorem rowN_ints {W : World} {g : Nat} {n : Nat} {os : List Nat} (hb : Blk W g 3 (rowN n os)) (hl : os.length = n) (hn : n ≤ 1000) : Ints W (.slice (some ⟨g, 0, none⟩) n n) (os.map Int.ofNat) := by
  refine ⟨_, n, by rw [List.length_map, hl], by rw [List.length_map]; omega, fun _ => ⟨g, 0, rfl, fun i z hz => ?_⟩⟩
  rw [List.getElem?_map] at hz
  obtain ⟨c, hc, rfl⟩ := Option.map_eq_some_iff.1 hz
  have hi : i < n := by have := (List.getElem?_eq_some_iff.1 hc).1; omega
  rw [Nat.zero_add, hb.cell i]
  unfold rowN
  simp only [List.getElem?_toArray, List.getElem?_map, List.getElem?_range hi, Option.map_some]
  rw [getD_some hc]; rfl
theorem rowN_at {W : World} {g : Nat} {n i : Nat} {os : List Nat} (hb : Blk W g 3 (rowN n os)) (hi : i < n) : W.cell? ⟨g, i, none⟩ = some (.int .i64 ((os.getD i 0 : Nat) : Int)) := by
  rw [hb.cell i]
  unfold rowN
  simp only [List.getElem?_toArray, List.getElem?_map, List.getElem?_range hi, Option.map_some]

/-! ### Rows of what is known -/
def knAll (ks : List Nd) : List Value := ks.flatMap fun x => (knA x).toList
theorem knA_len (x : Nd) : (knA x).toList.length = 21 := rfl
theorem knAll_len : ∀ ks : List Nd, (knAll ks).length = ks.length * 21
  | [] => rfl
  | x :: ks => by
    have := knAll_len ks
    unfold knAll at this ⊢
    rw [List.flatMap_cons, List.length_append, knA_len, this, List.length_cons]
    omega
theorem knAll_snoc (ks : List Nd) (x : Nd) : knAll (ks ++ [x]) = knAll ks ++ (knA x).toList := by simp [knAll]
theorem knAll_one (ks : List Nd) : ∀ u ∈ knAll ks, u.oneCell' = true := fun u hu => by
  unfold knAll at hu
  obtain ⟨x, _, hx⟩ := List.mem_flatMap.1 hu
  exact Array.all_eq_true_iff_forall_mem.1 (knC_one x.kind x.chan x.pay (x.next.length : Int) x.next) u (Array.mem_toList_iff.1 hx)
theorem knAll_at {x : Nd} : ∀ {ks : List Nd} {i : Nat}, ks[i]? = some x → ∀ j, j < 21 → (knAll ks)[i * 21 + j]? = (knA x).toList[j]?
  | [], i, h, _, _ => by simp at h
  | y :: ks, 0, h, j, hj => by
    simp only [List.getElem?_cons_zero, Option.some.injEq] at h
    subst h
    unfold knAll
    rw [List.flatMap_cons, Nat.zero_mul, Nat.zero_add, List.getElem?_append_left (by rw [knA_len]; exact hj)]
  | y :: ks, i + 1, h, j, hj => by
    rw [List.getElem?_cons_succ] at h
    have := knAll_at h j hj
    unfold knAll at this ⊢
    rw [List.flatMap_cons, List.getElem?_append_right (by rw [knA_len]; omega), knA_len, ← this]
    congr 1
    omega
def KOwn (base : Nat) (W : World) (v : Value) (ks : List Nd) : Prop := W.ownsRow base 68 21 v ks.length (knAll ks)
/-- A slice that reads as a list of what is known. -/
def KRow (W : World) (v : Value) (ks : List Nd) : Prop := ∃ (A : Option Addr) (c : Nat), v = .slice A ks.length c ∧ (ks ≠ [] → ∃ b off, A = some ⟨b, off, none⟩ ∧ ∀ (i : Nat) (x : Nd), ks[i]? = some x → W.rangeAt b (off + i * 21) (knA x).toList)
theorem KRow.keep {W W' : World} {v : Value} {ks : List Nd} (h : KRow W v ks) (hk : Keeps W W') : KRow W' v ks := by
  obtain ⟨A, c, h1, h2⟩ := h
  refine ⟨A, c, h1, fun hn => ?_⟩
  obtain ⟨b, off, h3, h4⟩ := h2 hn
  exact ⟨b, off, h3, fun i x hx j u hu => hk _ _ (h4 i x hx j u hu)⟩
section
variable {base : Nat} {W W' : World} {v : Value} {ks : List Nd}
theorem KOwn.nil_ (base : Nat) (W : World) : KOwn base W (.slice none 0 0) [] := World.ownsRow_nil _ _ _ _
theorem KOwn.kept {row : Option Nat} (h : KOwn base W v ks) (hg : W.grownBy W' row) (hr : ∀ g, v.ownBlock = some g → row ≠ some g) : KOwn base W' v ks := by
  refine World.ownsRow.kept h hg ?_
  cases hb : v.ownBlock with
  | none => exact .inl rfl
  | some g => exact .inr (fun e => hr g hb e.symm)
theorem KOwn.kept0 (h : KOwn base W v ks) (hg : W.grownBy W' none) : KOwn base W' v ks := h.kept hg (fun _ _ e => by cases e)
theorem KOwn.other {row : Option Nat} (h : KOwn base W v ks) (hg : W.grownBy W' row) (hr : ∀ g, row = some g → ∃ o : Obj, W.heap[g]? = some o ∧ ∀ cs, o ≠ .cells cs 68 (0, 0)) : KOwn base W' v ks := h.kept hg (fun g e e' => by
  obtain ⟨o, hb, ht⟩ := hr g e'
  obtain ⟨_, cs', hb'⟩ := own_row h g e
  unfold Blk at hb'
  rw [hb'] at hb
  exact ht cs' (Option.some.inj hb).symm)
theorem KOwn.nil_of (hs : ks.length = 0 ∨ knAll ks = []) : ks = [] := by
  rcases hs with h | h
  · exact List.eq_nil_of_length_eq_zero h
  · have := knAll_len ks
    rw [h] at this
    exact List.eq_nil_of_length_eq_zero (by simp at this; omega)
theorem KOwn.row (h : KOwn base W v ks) : KRow W v ks := by
  rcases h.2 with ⟨rfl, he⟩ | ⟨g, cap, cur, rfl, hb, hh, _⟩
  · obtain rfl := KOwn.nil_of (.inl he)
    exact ⟨none, 0, rfl, fun h => absurd rfl h⟩
  · refine ⟨_, cap, rfl, fun _ => ⟨g, 0, rfl, fun i x hx j u hu => ?_⟩⟩
    have hj : j < 21 := by have := (List.getElem?_eq_some_iff.1 hu).1; rwa [knA_len] at this
    have := h.cells (g := g) rfl (i * 21 + j) u ((knAll_at hx j hj).trans hu)
    rw [addr_plain, Nat.zero_add] at this
    show W.cell? ⟨g, 0 + i * 21 + j, none⟩ = _
    rw [show 0 + i * 21 + j = i * 21 + j by omega]; exact this
theorem KOwn.len (h : KOwn base W v ks) : ∃ A c, v = .slice A ks.length c := by
  obtain ⟨A, c, h1, _⟩ := h.row
  exact ⟨A, c, h1⟩
end
section
variable {o : Oper} {b : Act} {W : World} {K : Act → World → Prop} {Q : Exit → Act → World → Prop}
theorem wp_buildK {t : Tmp} {x : Nd} (ho : o.op = .buildSlice 63 1 #[(0, .tmp t)]) (h : b.eval (.tmp t) = knV x)
    (hK : K (b.put o.dst (.slice (some ⟨W.heap.size, 0, none⟩) 1 1)) (W.alloc (.cells (knA x) 68))) : o.wp Try.prog b W K Q := by
  obtain ⟨dst, op, type, pos, after, guard⟩ := o
  dsimp only at ho
  subst ho
  have h'' : b.tmps[t]?.getD undef = knV x := by simpa [Act.eval] using h
  have h' : b.tmps[t]?.getD undef = .agg (knC x.kind x.chan x.pay (x.next.length : Int) x.next) := h''
  clear h''
  unfold Oper.wp
  simp only [execOp]
  go_simp
  exact hK
theorem wp_appendK (s y : Operand) (ho : o.op = .call { callee := .builtin .append, args := #[s, y], argTypes := #[63, 63] })
    {base : Nat} {v : Value} {ks : List Nd} {x : Nd} {g : Nat} (hs : b.eval s = v) (hx : b.eval y = .slice (some ⟨g, 0, none⟩) 1 1)
    (hot : KOwn base W v ks) (hb : Blk W g 68 (knA x)) (hn : ks.length ≤ 1000) (hbase : base ≤ W.heap.size)
    (h : ∀ v' W', KOwn base W' v' (ks ++ [x]) → W.grownBy W' v.ownBlock → K (b.put o.dst v') W') : o.wp Try.prog b W K Q := by
  obtain ⟨i0, hi, hz0, hz1, hz2⟩ := info_parts known_info
  refine wp_append_own W s y 63 ho base 68 i0 _ 21 168 Try.underlying63 hi hz0 hz1 hz2 rfl (by decide) v ks.length (knAll ks) hs hot
    ⟨g, 0, none⟩ 1 1 (knA x).toList hx rfl (fun j u hu => ?_) (fun u hu => ?_) (by unfold maxLen; omega) (by omega) hbase (fun v' W' hr hg _ => h v' W' ?_ hg)
  · rw [addr_plain, Nat.zero_add, hb.cell j, ← hu]; simp
  · exact knAll_one [x] u (by simpa [knAll] using hu)
  · show World.ownsRow _ _ _ _ _ _ _
    rw [List.length_append, knAll_snoc]; exact hr
end
end Go.Proofs.Ytepjkoegbehojaa

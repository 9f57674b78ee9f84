/- Texts joined for the claim's sake: SFwA, SFwB, SOpn. -/
import Derived.Test.YtmhbmeckdbdhpaaZSAddRow16
import Derived.Test.YtmhbmeckdbdhpaaZSAddRow23
import Derived.Test.YtmhbmeckdbdhpaaZSAddRow45
import Derived.Test.YtmhbmeckdbdhpaaZSAddRow22
import Derived.Test.YtmhbmeckdbdhpaaZSAddRow8
import Derived.Test.YtmhbmeckdbdhpaaZSAddRow13
import Derived.OpenShut
namespace Go.Proofs.Ytmhbmeckdbdhpaa
open Go.RowKit Go.Shelf

/-- A node with no more than nine edges; a table of no more than ten of them. -/
def cutF (x : Nd) : Nd := { x with next := x.next.take 9 }
def fewX (xs : List Nd) : List Nd := (xs.take 10).map cutF
def fewP (ts : List (List Prm)) : List (List Prm) := (ts.take 4).map (·.take 10)
theorem Edges.takeF {W : World} {A : Option Addr} {c m : Nat} {es : List Ed} (h : Edges W (.slice A es.length c) es) (hm : m ≤ es.length) : Edges W (.slice A m c) (es.take m) := by
  obtain ⟨A', c', hA, hl, hcl⟩ := h
  simp only [Value.slice.injEq, true_and] at hA
  obtain ⟨rfl, rfl⟩ := hA
  refine ⟨A, c, by rw [List.length_take, Nat.min_eq_left hm], by rw [List.length_take]; omega, fun hn => ?_⟩
  obtain ⟨b, off, hb, hc⟩ := hcl (by intro e; rw [e] at hn; simp at hn)
  refine ⟨b, off, hb, fun i e he => hc i e ?_⟩
  rw [List.getElem?_take] at he
  split at he
  · exact he
  · cases he

/-- What a call owns stays where a module's box is turned. -/
theorem OT.far {base g : Nat} {W W' : World} {v : Value} {ns : List (Nd × Value)} {cs : Array Value} (h : OT base W v ns) (hb : Blk W g 28 cs) (hB : base ≤ g) (hg : W.grownBy W' (some g)) : OT base W' v ns := by
  refine ⟨h.row.kept hg ?_, fun p hp => (h.eds p hp).grown hg (fun g' e => by injection e with e; subst e; exact ⟨hB, cs, _, hb, by decide⟩)⟩
  cases e : v.ownBlock with
  | none => exact .inl rfl
  | some g' =>
    refine .inr (fun e' => ?_)
    injection e' with e'
    obtain ⟨_, cs', hb'⟩ := own_row h.row g' e
    exact Blk.ne_ hb hb' (by decide) e'.symm
/-- A module's box stays where a row of another type is turned. -/
theorem Blk.farM {base n sz g : Nat} {t : TypeId} {W W' : World} {v : Value} {xs : List Value} {cs : Array Value} (hb : Blk W g 28 cs) (ht : 28 ≠ t) (h : W.ownsRow base t sz v n xs) (hg : W.grownBy W' v.ownBlock) : Blk W' g 28 cs := hb.grown hg (fun e => by
  obtain ⟨_, cs', hb'⟩ := own_row h g e.symm
  exact Blk.ne_ hb hb' ht rfl)
theorem row_farM {base n sz g : Nat} {t : TypeId} {W W' : World} {v : Value} {xs : List Value} {cs : Array Value} (h : W.ownsRow base t sz v n xs) (hb : Blk W g 28 cs) (ht : 28 ≠ t) (hg : W.grownBy W' (some g)) : W'.ownsRow base t sz v n xs := h.kept hg (by
  cases e : v.ownBlock with
  | none => exact .inl rfl
  | some g' =>
    refine .inr (fun e' => ?_)
    injection e' with e'
    obtain ⟨_, cs', hb'⟩ := own_row h g' e
    exact Blk.ne_ hb hb' ht e'.symm)
/-- Templates' cells: parameters alone. -/
abbrev tpC (u : Value) : Array Value := #[u, .slice none 0 0, .slice none 0 0]
def tpAll (us : List Value) : List Value := us.flatMap fun u => (tpC u).toList
theorem tpAll_snoc (us : List Value) (u : Value) : tpAll (us ++ [u]) = tpAll us ++ (tpC u).toList := by simp [tpAll]
theorem tpAll_at {us : List Value} {i : Nat} {u : Value} (h : us[i]? = some u) (j : Nat) (hj : j < 3) : (tpAll us)[i * 3 + j]? = (tpC u).toList[j]? := by
  induction us generalizing i with
  | nil => simp at h
  | cons q us ih =>
    have hq : (tpC q).toList.length = 3 := rfl
    cases i with
    | zero =>
      simp only [List.getElem?_cons_zero, Option.some.injEq] at h
      subst h
      simp only [tpAll, List.flatMap_cons]
      rw [List.getElem?_append_left (by rw [hq]; omega), Nat.zero_mul, Nat.zero_add]
    | succ i =>
      rw [List.getElem?_cons_succ] at h
      simp only [tpAll, List.flatMap_cons]
      rw [List.getElem?_append_right (by rw [hq]; omega), hq, show (i + 1) * 3 + j - 3 = i * 3 + j by omega]
      exact ih h
abbrev TO (base : Nat) (W : World) (v : Value) (us : List Value) : Prop := W.ownsRow base 65 3 v us.length (tpAll us)
theorem TO.nil_ (base : Nat) (W : World) : TO base W (.slice none 0 0) [] := ⟨rfl, .inl ⟨rfl, rfl⟩⟩
theorem TO.tpls {base : Nat} {W : World} {v : Value} {us : List Value} {ls : List (List Prm)} (h : TO base W v us) (hl : ls.length = us.length) (hu : ∀ (i : Nat) (u : Value) (l : List Prm), us[i]? = some u → ls[i]? = some l → PrmsV W u l) : TplsV W v ls := by
  rcases h.2 with ⟨rfl, hn⟩ | ⟨g, cap, cur, rfl, hb, hh, hc, hm, _⟩
  · obtain rfl : ls = [] := List.length_eq_zero_iff.1 (by omega)
    exact ⟨none, 0, rfl, by simp, by omega, fun h => absurd rfl h⟩
  · refine ⟨some ⟨g, 0, none⟩, cap, by rw [hl], by omega, by unfold maxLen at hm; omega, fun _ => ⟨g, 0, rfl, fun i l hi => ?_⟩⟩
    have hil := (List.getElem?_eq_some_iff.1 hi).1
    obtain ⟨u, hui⟩ : ∃ u, us[i]? = some u := ⟨_, List.getElem?_eq_getElem (by omega)⟩
    have at_ : ∀ j y, j < 3 → (tpC u).toList[j]? = some y → W.cell? ⟨g, 0 + i * 3 + j, none⟩ = some y := fun j y hj hy => by
      have := World.ownsRow.cells h (g := g) rfl (i * 3 + j) y ((tpAll_at hui j hj).trans hy)
      have e : (⟨g, 0, none⟩ : Addr).add (i * 3 + j) = ⟨g, 0 + (i * 3 + j), none⟩ := by unfold Addr.add; split <;> simp_all
      rw [e, ← Nat.add_assoc] at this
      exact this
    exact ⟨u, none, 0, 0, none, 0, 0, hu i u l hui hi, at_ 0 _ (by omega) rfl, at_ 1 _ (by omega) rfl, at_ 2 _ (by omega) rfl⟩
theorem tpl_info : (Try.prog.info? 65).map (fun i => (i.zero, i.size, i.bytes)) = some (some (.agg #[.slice none 0 0, .slice none 0 0, .slice none 0 0]), 3, 72) := by kernel_rfl
theorem mod_info : (Try.prog.info? 28).map (·.size) = some 8 := by kernel_rfl

/-- What stands between the rounds of few's first loop. -/
structure FwN (w W : World) (b : Nat) (cm : Array Value) (xs : List Nd) (k : Nat) : Prop where
  gr : w.grownBy W none
  m : Blk W b 28 cm
  z : Blk W (b + 1) 28 #[.slice none 0 0, .slice none 0 0, .slice none 0 0, .slice none 0 0, .slice none 0 0, .slice none 0 0, .slice none 0 0, .slice none 0 0]
  o : ∃ v ns, Blk W (b + 1 + 1) 28 #[v, .slice none 0 0, .slice none 0 0, .slice none 0 0, .slice none 0 0, .slice none 0 0, .slice none 0 0, .slice none 0 0] ∧ OT w.heap.size W v ns ∧ ns.length = k ∧ ns.map (·.1) = (xs.take k).map cutF
theorem FwN.put {w W W' : World} {b k : Nat} {cm : Array Value} {xs : List Nd} {v v' : Value} {ns : List (Nd × Value)} {x : Nd} {e : Value} (hb : b = w.heap.size) (hx : xs[k]? = some x) (gr : w.grownBy W none) (hm : Blk W b 28 cm)
    (hz : Blk W (b + 1) 28 #[.slice none 0 0, .slice none 0 0, .slice none 0 0, .slice none 0 0, .slice none 0 0, .slice none 0 0, .slice none 0 0, .slice none 0 0])
    (ho : Blk W (b + 1 + 1) 28 #[v, .slice none 0 0, .slice none 0 0, .slice none 0 0, .slice none 0 0, .slice none 0 0, .slice none 0 0, .slice none 0 0])
    (hot : OT w.heap.size W v ns) (hn : ns.length = k) (hmp : ns.map (·.1) = (xs.take k).map cutF) (hot' : OT w.heap.size W' v' (ns ++ [(cutF x, e)])) (hg : W.grownBy W' v.ownBlock) : FwN w (W'.setCell ⟨b + 1 + 1, 0, none⟩ v') b cm xs (k + 1) := by
  have hs : W'.grownBy (W'.setCell ⟨b + 1 + 1, 0, none⟩ v') (some (b + 1 + 1)) := only_setCell (only_refl _ _) rfl _
  have hne : 28 ≠ 70 := by decide
  have ho' := ho.farM hne hot.row hg
  refine ⟨only_new (grown_row gr (fun g e => (own_row hot.row g e).1) hg) hs (by omega), (hm.farM hne hot.row hg).grown hs (fun e => by injection e with e; omega), (hz.farM hne hot.row hg).grown hs (fun e => by injection e with e; omega),
    v', _, ho'.set_ 0 v', hot'.far ho' (by omega) hs, by rw [List.length_append, hn]; rfl, by rw [List.map_append, hmp, take_len hx, List.map_append]; rfl⟩
/-- Between the rounds of the second one. -/
structure FwT (w W : World) (b : Nat) (cm : Array Value) (u : Value) (ns : List (Nd × Value)) (ts : List (List Prm)) (k : Nat) : Prop where
  gr : w.grownBy W none
  m : Blk W b 28 cm
  z : Blk W (b + 1) 28 #[.slice none 0 0, .slice none 0 0, .slice none 0 0, .slice none 0 0, .slice none 0 0, .slice none 0 0, .slice none 0 0, .slice none 0 0]
  n : OT w.heap.size W u ns
  o : ∃ v us, Blk W (b + 1 + 1) 28 #[u, v, .slice none 0 0, .slice none 0 0, .slice none 0 0, .slice none 0 0, .slice none 0 0, .slice none 0 0] ∧ TO w.heap.size W v us ∧ us.length = k ∧ ∀ (i : Nat) (x : Value) (l : List Prm), us[i]? = some x → (ts.take k)[i]? = some l → PrmsV w x (l.take 10)
theorem OT.farT {base n sz : Nat} {W W' : World} {u v : Value} {ns : List (Nd × Value)} {xs : List Value} (h : OT base W u ns) (hr : W.ownsRow base 65 sz v n xs) (hg : W.grownBy W' v.ownBlock) : OT base W' u ns := by
  refine ⟨h.row.kept hg ?_, fun p hp => (h.eds p hp).grown hg (fun g' e => ?_)⟩
  · cases e : u.ownBlock with
    | none => exact .inl rfl
    | some g' =>
      refine .inr (fun e' => ?_)
      obtain ⟨_, cs', hb'⟩ := own_row h.row g' e
      obtain ⟨_, cs2, hb2⟩ := own_row hr g' e'.symm
      exact Blk.ne_ hb' hb2 (by decide) rfl
  · obtain ⟨h1, cs, hb⟩ := own_row hr g' e
    exact ⟨h1, cs, _, hb, by decide⟩
theorem FwT.put {w W W' : World} {b k : Nat} {cm : Array Value} {u v v' y : Value} {ns : List (Nd × Value)} {ts : List (List Prm)} {us : List Value} {l : List Prm} (hb : b = w.heap.size) (hx : ts[k]? = some l) (gr : w.grownBy W none) (hm : Blk W b 28 cm)
    (hz : Blk W (b + 1) 28 #[.slice none 0 0, .slice none 0 0, .slice none 0 0, .slice none 0 0, .slice none 0 0, .slice none 0 0, .slice none 0 0, .slice none 0 0]) (hn : OT w.heap.size W u ns)
    (ho : Blk W (b + 1 + 1) 28 #[u, v, .slice none 0 0, .slice none 0 0, .slice none 0 0, .slice none 0 0, .slice none 0 0, .slice none 0 0])
    (hot : TO w.heap.size W v us) (hl : us.length = k) (hu : ∀ (i : Nat) (x : Value) (l : List Prm), us[i]? = some x → (ts.take k)[i]? = some l → PrmsV w x (l.take 10)) (hy : PrmsV w y (l.take 10))
    (hot' : TO w.heap.size W' v' (us ++ [y])) (hg : W.grownBy W' v.ownBlock) : FwT w (W'.setCell ⟨b + 1 + 1, 1, none⟩ v') b cm u ns ts (k + 1) := by
  have hs : W'.grownBy (W'.setCell ⟨b + 1 + 1, 1, none⟩ v') (some (b + 1 + 1)) := only_setCell (only_refl _ _) rfl _
  have hne : 28 ≠ 65 := by decide
  have ho' := ho.farM hne hot hg
  refine ⟨only_new (grown_row gr (fun g e => (own_row hot g e).1) hg) hs (by omega), (hm.farM hne hot hg).grown hs (fun e => by injection e with e; omega), (hz.farM hne hot hg).grown hs (fun e => by injection e with e; omega), (hn.farT hot hg).far ho' (by omega) hs,
    v', _, ho'.set_ 1 v', row_farM hot' ho' hne hs, by rw [List.length_append, hl]; rfl, fun i x m hi hm' => ?_⟩
  rw [take_len hx] at hm'
  have hk : (ts.take k).length = us.length := by
    have := (List.getElem?_eq_some_iff.1 hx).1
    rw [List.length_take]
    omega
  rcases Nat.lt_or_ge i us.length with h1 | h1
  · rw [List.getElem?_append_left h1] at hi
    rw [List.getElem?_append_left (by omega)] at hm'
    exact hu i x m hi hm'
  · have h2 : i = us.length := by
      have := (List.getElem?_eq_some_iff.1 hi).1
      rw [List.length_append, List.length_singleton] at this
      omega
    subst h2
    rw [List.getElem?_append_right (Nat.le_refl _), Nat.sub_self] at hi
    rw [← hk, List.getElem?_append_right (Nat.le_refl _), Nat.sub_self] at hm'
    simp only [List.getElem?_cons_zero, Option.some.injEq] at hi hm'
    subst hi hm'
    exact hy
end Go.Proofs.Ytmhbmeckdbdhpaa

namespace Go.Proofs.Ytmhbmeckdbdhpaa
open Go.RowKit Go.Shelf

theorem few_run {tmps : Array Value} {W : World} {g : Nat} {cs : Array Value} (hp : tmps.getD 2 undef = .pointer (some ⟨g, 0, none⟩)) (hb : Blk W g 28 cs) (hc : cs.size = 8) : (results Try.f6 tmps).run Try.prog W = .ok (.agg cs) W := by
  have hp' : tmps[2]?.getD undef = .pointer (some ⟨g, 0, none⟩) := by simpa using hp
  simp [results, Try.results6, hp', asAddr, run_loadVar_row W g _ 28 _ _ _ hb Try.underlying28 rfl (by rw [hc]; exact mod_info)]
/-- What stands between the operations of a template's append. -/
def FwC (w D0 : World) (cm : Array Value) (u : Value) (ns : List (Nd × Value)) (ts : List (List Prm)) (k : Nat) (us : List Value) (vo y : Value) (j : Nat) (f : Tmp → Value) (W' : World) : Prop :=
  (j = 0 → W' = D0) ∧ (j = 1 → f 63 = .slice (some ⟨D0.heap.size, 0, none⟩) 1 1 ∧ W' = D0.alloc (.cells (tpC y) 65)) ∧
  (j = 2 → TO w.heap.size W' (f 64) (us ++ [y]) ∧ (D0.alloc (.cells (tpC y) 65)).grownBy W' vo.ownBlock) ∧ (j = 3 → FwT w W' w.heap.size cm u ns ts (k + 1))
theorem FwC.cell {w D0 : World} {cm : Array Value} {u vo y : Value} {ns : List (Nd × Value)} {ts : List (List Prm)} {k j : Nat} {us : List Value} {f : Tmp → Value} {W' : World} (h : FwC w D0 cm u ns ts k us vo y j f W') (hj : j < 3)
    (hb : Blk D0 (w.heap.size + 1 + 1) 28 #[u, vo, .slice none 0 0, .slice none 0 0, .slice none 0 0, .slice none 0 0, .slice none 0 0, .slice none 0 0]) (ho : TO w.heap.size D0 vo us) : W'.cell? ⟨w.heap.size + 1 + 1, 1, none⟩ = some vo := by
  match j, hj, h with
  | 0, _, h => rw [h.1 rfl]; exact hb.cell 1
  | 1, _, h => rw [(h.2.1 rfl).2]; exact (hb.kept (only_alloc (only_refl _ _) _)).cell 1
  | 2, _, h => exact ((hb.kept (only_alloc (only_refl _ _) _)).farM (by decide) (own_keep0 ho (only_alloc (only_refl _ _) _)) (h.2.2.1 rfl).2).cell 1
theorem put_atF {b : Act} {t : Tmp} (x : Value) (h : t < b.tmps.size) : (b.put (some t) x).tmps.getD t undef = x := by simp [Act.put, h]
section
variable {b : Act} {W : World} {o : Oper} {t s : Tmp} {K : Act → World → Prop} {Q : Exit → Act → World → Prop}
theorem rs_ftpls {g : Nat} (ho : o.op = .fieldAddr 28 (.tmp t) 1) (h1 : b.eval (.tmp t) = .pointer (some ⟨g, 0, none⟩)) : (execOp b.eval o).run Try.prog W = .ok (.value (.pointer (some ⟨g, 1, none⟩))) W := by
  obtain ⟨dst, op, type, pos, after, guard⟩ := o
  dsimp only at ho
  subst ho
  simp only [execOp, h1]
  go_simp
theorem rs_ldTpls {p : Addr} {A : Option Addr} {n c : Nat} (ho : o.op = .load 23 (.tmp t)) (h1 : b.eval (.tmp t) = .pointer (some p)) (hc : W.cell? p = some (.slice A n c)) : (execOp b.eval o).run Try.prog W = .ok (.value (.slice A n c)) W := by
  obtain ⟨dst, op, type, pos, after, guard⟩ := o
  dsimp only at ho
  subst ho
  simp only [execOp, h1]
  go_simp
theorem rs_lenP {A : Option Addr} {n c : Nat} (ho : o.op = .call { callee := .builtin .len, args := #[.tmp t], argTypes := #[62] }) (h1 : b.eval (.tmp t) = .slice A n c) : (execOp b.eval o).run Try.prog W = .ok (.value (.int .i64 (n : Int))) W := by
  obtain ⟨dst, op, type, pos, after, guard⟩ := o
  dsimp only at ho
  subst ho
  simp only [execOp, resolve, invoke, List.map_toArray, List.map_cons, List.map_nil, h1]
  go_simp
theorem rs_min {n m : Nat} (ho : o.op = .call { callee := .builtin .min, args := #[.tmp t, .const (.int .i64 10)], argTypes := #[3, 3] }) (h1 : b.eval (.tmp t) = .int .i64 (n : Int)) (hm : m = min n 10) : (execOp b.eval o).run Try.prog W = .ok (.value (.int .i64 (m : Int))) W := by
  obtain ⟨dst, op, type, pos, after, guard⟩ := o
  dsimp only at ho
  subst ho
  have h2 : b.eval (.const (.int .i64 10)) = .int .i64 10 := rfl
  simp only [execOp, resolve, invoke, List.map_toArray, List.map_cons, List.map_nil, h1, h2]
  by_cases h : n ≤ 10
  · have h3 : (n : Int) ≤ 10 := by omega
    have h4 : m = n := by omega
    subst h4
    clear hm
    go_simp
    try omega
  · have h3 : (10 : Int) < (n : Int) := by omega
    have h4 : m = 10 := by omega
    subst h4
    clear hm
    go_simp
    try omega
theorem rs_cutP {A : Option Addr} {n c m : Nat} (ho : o.op = .slice 62 (.tmp s) none (some (.tmp t)) none) (h1 : b.eval (.tmp s) = .slice A n c) (h2 : b.eval (.tmp t) = .int .i64 (m : Int)) (hm : m ≤ c) : (execOp b.eval o).run Try.prog W = .ok (.value (.slice A m c)) W := by
  have hk0 : (0 : Int) ≤ (m : Int) := by omega
  have hk1 : (m : Int) ≤ (c : Int) := by omega
  obtain ⟨dst, op, type, pos, after, guard⟩ := o
  dsimp only at ho
  subst ho
  have h3 : b.tmps[t]?.getD undef = .int .i64 (m : Int) := by rw [← Array.getD_eq_getD_getElem?]; exact h2
  clear h2
  simp only [execOp, h1]
  go_simp
theorem rs_bldT {A : Option Addr} {n c : Nat} (ho : o.op = .build 65 #[(0, .tmp t)]) (h1 : b.eval (.tmp t) = .slice A n c) : (execOp b.eval o).run Try.prog W = .ok (.value (.agg (tpC (.slice A n c)))) W := by
  obtain ⟨dst, op, type, pos, after, guard⟩ := o
  dsimp only at ho
  subst ho
  have h3 : b.tmps[t]?.getD undef = .slice A n c := by rw [← Array.getD_eq_getD_getElem?]; exact h1
  simp only [execOp]
  go_simp
theorem ws_rowT {A : Option Addr} {n c : Nat} (ho : o.op = .buildSlice 23 1 #[(0, .tmp t)]) (h1 : b.eval (.tmp t) = .agg (tpC (.slice A n c)))
    (hK : K (b.put o.dst (.slice (some ⟨W.heap.size, 0, none⟩) 1 1)) (W.alloc (.cells (tpC (.slice A n c)) 65))) : o.wp Try.prog b W K Q := by
  obtain ⟨dst, op, type, pos, after, guard⟩ := o
  dsimp only at ho
  subst ho
  unfold Oper.wp
  have h3 : b.tmps[t]?.getD undef = .agg (tpC (.slice A n c)) := by rw [← Array.getD_eq_getD_getElem?]; exact h1
  simp only [execOp]
  go_simp
  exact hK
theorem ws_appT {base g n : Nat} {v u : Value} {xs : List Value} (ho : o.op = .call { callee := .builtin .append, args := #[.tmp s, .tmp t], argTypes := #[23, 23] }) (hs : b.eval (.tmp s) = v) (hx : b.eval (.tmp t) = .slice (some ⟨g, 0, none⟩) 1 1)
    (hot : W.ownsRow base 65 3 v n xs) (hb : Blk W g 65 (tpC u)) (hu : u.oneCell' = true) (hn : n ≤ 1000) (hbase : base ≤ W.heap.size)
    (hK : ∀ v' W', W'.ownsRow base 65 3 v' (n + 1) (xs ++ (tpC u).toList) → W.grownBy W' v.ownBlock → K (b.put o.dst v') W') : o.wp Try.prog b W K Q := by
  obtain ⟨i0, hi, hz0, hz1, hz2⟩ := info_parts tpl_info
  obtain ⟨v', W', hr, h2, h3, _, h5⟩ := run_append_own_at (P := Try.prog) W base 23 o.type 65 i0 _ 3 72 Try.underlying23 hi hz0 hz1 hz2 rfl (by decide) v n xs hot ⟨g, 0, none⟩ 1 1 (tpC u).toList rfl (fun j y hy => by
    have : (⟨g, 0, none⟩ : Addr).add j = ⟨g, 0 + j, none⟩ := by unfold Addr.add; split <;> simp_all
    rw [this, Nat.zero_add, hb.cell j, ← hy]; simp) (fun y hy => by
      simp only [List.mem_cons, List.not_mem_nil, or_false] at hy
      rcases hy with rfl | rfl | rfl
      · exact hu
      · rfl
      · rfl) (by unfold maxLen; omega) (by omega) hbase
  have hk := hK v' W' h2 h3
  obtain ⟨dst, op, type, pos, after, guard⟩ := o
  dsimp only at ho hr hk
  subst ho
  unfold Oper.wp execOp
  simp only [resolve, invoke, builtin, Sem.run_bind, Sem.run_pure, Result.andThen_ok, List.map_toArray, List.map_cons, List.map_nil, hs, hx, hr]
  exact hk
theorem ws_stT {g k : Nat} {A A0 : Option Addr} {n c n0 c0 : Nat} (ho : o.op = .store 23 (.tmp s) (.tmp t)) (h1 : b.eval (.tmp s) = .pointer (some ⟨g, k, none⟩)) (h2 : b.eval (.tmp t) = .slice A n c) (hc : W.cell? ⟨g, k, none⟩ = some (.slice A0 n0 c0)) (hf : W.frozen? ⟨g, k, none⟩ = false)
    (hK : K (b.put o.dst undef) (W.setCell ⟨g, k, none⟩ (.slice A n c))) : o.wp Try.prog b W K Q := by
  obtain ⟨dst, op, type, pos, after, guard⟩ := o
  dsimp only at ho
  subst ho
  unfold Oper.wp
  simp only [execOp, h1, h2]
  go_simp
  exact hK
end
end Go.Proofs.Ytmhbmeckdbdhpaa

namespace Go.Proofs.Ytmhbmeckdbdhpaa
open Go.ChangeShapes Go.WideShapes Go.RowKit Go.Deep

instance : Inhabited Prm := ⟨⟨false, (0, 0)⟩⟩
theorem csz_par : Try.prog.cellsOf 61 = 3 := by kernel_rfl
theorem csz_tpl : Try.prog.cellsOf 65 = 3 := by kernel_rfl
theorem csz_typ : Try.prog.cellsOf 59 = 2 := by kernel_rfl
theorem csz_mod : Try.prog.cellsOf 28 = 8 := by kernel_rfl
theorem csz_slt : Try.prog.cellsOf 42 = 3 := by kernel_rfl
theorem csz_st : Try.prog.cellsOf 45 = 50 := by kernel_rfl
theorem csz_rg : Try.prog.cellsOf 43 = 48 := by kernel_rfl
theorem csz_two : Try.prog.cellsOf 49 = 2 := by kernel_rfl
theorem csz_lp : Try.prog.cellsOf 62 = 1 := by kernel_rfl
theorem csz_lx : Try.prog.cellsOf 63 = 1 := by kernel_rfl
theorem csz_li : Try.prog.cellsOf 26 = 1 := by kernel_rfl
theorem csz_ln : Try.prog.cellsOf 22 = 1 := by kernel_rfl
theorem csz_lt : Try.prog.cellsOf 23 = 1 := by kernel_rfl
section
variable {H : Type} {enc : TypeId × Value → H} {W : World}
set_option maxRecDepth 100000 in
/-- A list whose things are opened, one by one. -/
theorem listP_of {α : Type} [Inhabited α] {E : α → Array Value → Prop} {sz : Nat} {ts t : TypeId} (hu : Try.prog.underlying ts = some (.slice t)) (hsz : Try.prog.cellsOf t = sz) (h0 : 0 < sz)
    (hel : ∀ {fuel : Nat} {cs : List Value} {x : DataW H × List MemPlace}, cs.length = sz → DataW.trod enc Try.prog W 0 (fun _ => true) true fuel t cs = some x → ∃ y : α, E y cs.toArray)
    {fuel : Nat} {v : Value} {x : DataW H × List MemPlace} (h : DataW.trod enc Try.prog W 0 (fun _ => true) true fuel ts [v] = some x) : ∃ (xs : List α) (A : Option Addr) (c : Nat), v = .slice A xs.length c ∧ xs.length ≤ c ∧ c ≤ 9223372036854775807 ∧
      (xs ≠ [] → ∃ b off, A = some ⟨b, off, none⟩ ∧ ∀ (i : Nat) (x : α), xs[i]? = some x → ∃ cs : Array Value, E x cs ∧ ∀ (j : Nat) (u : Value), cs[j]? = some u → W.cell? ⟨b, off + i * sz + j, none⟩ = some u) := by
  rcases open_slice hu h with ⟨hcs, _⟩ | ⟨a, len, cap, m, n, D, Pl, hcs, _, hl, hc, hm, _, hall⟩
  · simp only [List.cons.injEq, and_true] at hcs
    subst hcs
    exact ⟨[], none, 0, rfl, Nat.le_refl _, by omega, fun h => absurd rfl h⟩
  · simp only [List.cons.injEq, and_true] at hcs
    subst hcs
    rw [if_pos rfl] at hm
    obtain ⟨b, off, spot⟩ := a
    have each : ∀ i, i < len → ∃ y : α × Array Value, E y.1 y.2 ∧ y.2.size = sz ∧ ∀ j u, y.2[j]? = some u → W.cell? (((⟨b, off, spot⟩ : Addr).add (i * sz)).add j) = some u := fun i hi => by
      obtain ⟨cs', h1, h2⟩ := hall i (by omega)
      rw [hsz] at h1
      obtain ⟨_, hlen, hcell⟩ := World.cells?_some h1
      obtain ⟨y, h3⟩ := hel hlen h2
      refine ⟨(y, cs'.toArray), h3, by simpa using hlen, fun j u hu => ?_⟩
      have hu' : cs'[j]? = some u := by simpa using hu
      have hj : j < sz := by rw [← hlen]; exact (List.getElem?_eq_some_iff.1 hu').1
      rw [hcell j hj, hu']
    obtain ⟨f, hf⟩ := choose_lt each
    refine ⟨(List.range len).map (fun i => (f i).1), some ⟨b, off, spot⟩, cap, by simp, by simpa using hl, by unfold maxLen at hc; omega, fun hn => ?_⟩
    have h0' : 0 < len := by
      rcases Nat.eq_zero_or_pos len with e | e
      · subst e; simp at hn
      · exact e
    have hspot : spot = none := by
      obtain ⟨_, k1, k2⟩ := hf 0 h0'
      simpa [Addr.add] using World.cell?_spot (k2 0 _ (Array.getElem?_eq_getElem (by omega)))
    subst hspot
    refine ⟨b, off, rfl, fun i x he => ?_⟩
    rw [List.getElem?_map] at he
    rcases Nat.lt_or_ge i len with hi | hi
    · rw [List.getElem?_range hi] at he
      simp only [Option.map_some, Option.some.injEq] at he
      subst he
      refine ⟨(f i).2, (hf i hi).1, fun j u hu => ?_⟩
      have := (hf i hi).2.2 j u hu
      rw [add_plain, add_plain] at this
      exact this
    · rw [List.getElem?_eq_none (by simpa using hi)] at he
      simp at he
variable {fuel : Nat} {x : DataW H × List MemPlace} {cs : List Value}
theorem intb_of (h : DataW.trod enc Try.prog W 0 (fun _ => true) true fuel 3 cs = some x) : ∃ z : Int, cs = [.int .i64 z] ∧ -9223372036854775808 ≤ z ∧ z ≤ 9223372036854775807 := by
  obtain ⟨z, hz, _, hw⟩ := DataW.trod_int Try.underlying3 h
  exact ⟨z, hz, bounds_i64 hw⟩
set_option maxRecDepth 100000 in
theorem prm_of (hl : cs.length = 3) (h : DataW.trod enc Try.prog W 0 (fun _ => true) true fuel 61 cs = some x) : ∃ y : Prm, cs.toArray = prC y ∧ y.Fit := by
  obtain ⟨ys, n, _, _, _, hyl, hf⟩ := DataW.trod_struct Try.underlying61 h
  match cs, hl with
  | [c0, c1, c2], _ =>
    match ys, hyl with
    | [y0, y1], _ =>
      have g0 : DataW.trod enc Try.prog W 0 (fun _ => true) true n 4 [c0] = some y0 := by simpa [cells_bool] using hf 0 _ rfl
      have g1 : DataW.trod enc Try.prog W 0 (fun _ => true) true n 59 [c1, c2] = some y1 := by simpa [csz_typ] using hf 1 _ rfl
      obtain ⟨z0, e0, _⟩ := DataW.trod_bool Try.underlying4 g0
      obtain ⟨zs, k, _, _, _, hzl, hz⟩ := DataW.trod_struct Try.underlying59 g1
      match zs, hzl with
      | [q0, q1], _ =>
        have k0 : DataW.trod enc Try.prog W 0 (fun _ => true) true k 3 [c1] = some q0 := by simpa [cells_int] using hz 0 _ rfl
        have k1 : DataW.trod enc Try.prog W 0 (fun _ => true) true k 3 [c2] = some q1 := by simpa [cells_int] using hz 1 _ rfl
        obtain ⟨z1, e1, b1⟩ := intb_of k0
        obtain ⟨z2, e2, b2⟩ := intb_of k1
        simp only [List.cons.injEq, and_true] at e0 e1 e2
        subst e0 e1 e2
        exact ⟨⟨z0, z1, z2⟩, rfl, b1⟩
theorem prms_of {v : Value} (h : DataW.trod enc Try.prog W 0 (fun _ => true) true fuel 62 [v] = some x) : ∃ l, PrmsV W v l := by
  obtain ⟨xs, A, c, h1, h2, h3, h4⟩ := listP_of (E := fun y cs => cs = prC y ∧ y.Fit) Try.underlying62 csz_par (by omega) (fun hl h => prm_of hl h) h
  refine ⟨xs, A, c, h1, h2, h3, fun hn => ?_⟩
  obtain ⟨b, off, hA, h5⟩ := h4 hn
  refine ⟨b, off, hA, fun i p hp => ?_⟩
  obtain ⟨cs, ⟨rfl, hfit⟩, hc⟩ := h5 i p hp
  exact ⟨hfit, hc 0 _ rfl, hc 1 _ rfl, hc 2 _ rfl⟩
theorem slice_of {ts t : TypeId} {v : Value} (hu : Try.prog.underlying ts = some (.slice t)) (h : DataW.trod enc Try.prog W 0 (fun _ => true) true fuel ts [v] = some x) : ∃ A n c, v = .slice A n c := by
  rcases open_slice hu h with ⟨hcs, _⟩ | ⟨a, len, cap, m, n, D, Pl, hcs, _⟩
  · simp only [List.cons.injEq, and_true] at hcs
    exact ⟨_, _, _, hcs⟩
  · simp only [List.cons.injEq, and_true] at hcs
    exact ⟨_, _, _, hcs⟩
set_option maxRecDepth 100000 in
theorem tplP_of (hl : cs.length = 3) (h : DataW.trod enc Try.prog W 0 (fun _ => true) true fuel 65 cs = some x) : ∃ y : List Prm, ∃ pv C nc cc D nd cd, cs.toArray = #[pv, .slice C nc cc, .slice D nd cd] ∧ PrmsV W pv y := by
  obtain ⟨ys, n, _, _, _, hyl, hf⟩ := DataW.trod_struct Try.underlying65 h
  match cs, hl with
  | [c0, c1, c2], _ =>
    match ys, hyl with
    | [y0, y1, y2], _ =>
      have g0 : DataW.trod enc Try.prog W 0 (fun _ => true) true n 62 [c0] = some y0 := by simpa [csz_lp] using hf 0 _ rfl
      have g1 : DataW.trod enc Try.prog W 0 (fun _ => true) true n 63 [c1] = some y1 := by simpa [csz_lp, csz_lx] using hf 1 _ rfl
      have g2 : DataW.trod enc Try.prog W 0 (fun _ => true) true n 26 [c2] = some y2 := by simpa [csz_lp, csz_lx, csz_li] using hf 2 _ rfl
      obtain ⟨l, hl⟩ := prms_of g0
      obtain ⟨C, nc, cc, rfl⟩ := slice_of Try.underlying63 g1
      obtain ⟨D, nd, cd, rfl⟩ := slice_of Try.underlying26 g2
      exact ⟨l, _, _, _, _, _, _, _, rfl, hl⟩
theorem tpls_of {v : Value} (h : DataW.trod enc Try.prog W 0 (fun _ => true) true fuel 23 [v] = some x) : ∃ ts, TplsV W v ts := by
  obtain ⟨xs, A, c, h1, h2, h3, h4⟩ := listP_of (α := List Prm) (E := fun y cs => ∃ pv C nc cc D nd cd, cs = #[pv, .slice C nc cc, .slice D nd cd] ∧ PrmsV W pv y) Try.underlying23 csz_tpl (by omega) (fun hl h => tplP_of hl h) h
  refine ⟨xs, A, c, h1, h2, h3, fun hn => ?_⟩
  obtain ⟨b, off, hA, h5⟩ := h4 hn
  refine ⟨b, off, hA, fun i p hp => ?_⟩
  obtain ⟨cs, ⟨pv, C, nc, cc, D, nd, cd, rfl, hpv⟩, hc⟩ := h5 i p hp
  exact ⟨pv, C, nc, cc, D, nd, cd, hpv, hc 0 _ rfl, hc 1 _ rfl, hc 2 _ rfl⟩
set_option maxRecDepth 100000 in
theorem open_modS {r : Reach} {b0 : Nat} {v : Value} {d : DataW H} {p : List MemPlace} (hv : Value.okWide Try.prog W r b0 28 v) (h : DataW.Trod enc Try.prog W 0 (fun _ => true) true 28 v d p) :
    ∃ v0 v1 v2 v3 v4 v5 v6 v7 xs ts, v = .agg #[v0, v1, v2, v3, v4, v5, v6, v7] ∧ TblC W v0 xs ∧ TplsV W v1 ts := by
  simp only [Value.okWide, Try.underlying28] at hv
  obtain ⟨cs, rfl, hs, _⟩ := hv
  obtain ⟨fuel, hf⟩ := h
  have hf' : DataW.trod enc Try.prog W 0 (fun _ => true) true fuel 28 cs.toList = some (d, p) := by simpa [Value.cells] using hf
  have hl : cs.toList.length = 8 := by rw [Array.length_toList, hs, csz_mod]
  obtain ⟨l, rfl⟩ : ∃ l : List Value, cs = l.toArray := ⟨cs.toList, by simp⟩
  rw [List.toList_toArray] at hf' hl
  obtain ⟨ys, n, _, _, _, hyl, hf⟩ := DataW.trod_struct Try.underlying28 hf'
  match l, hl with
  | [c0, c1, c2, c3, c4, c5, c6, c7], _ =>
    match ys, hyl with
    | [y0, y1, y2, y3, y4, y5, y6, y7], _ =>
      have g0 : DataW.trod enc Try.prog W 0 (fun _ => true) true n 22 [c0] = some y0 := by simpa [csz_ln] using hf 0 _ rfl
      have g1 : DataW.trod enc Try.prog W 0 (fun _ => true) true n 23 [c1] = some y1 := by simpa [csz_ln, csz_lt] using hf 1 _ rfl
      obtain ⟨A0, n0, k0, rfl⟩ := slice_of Try.underlying22 g0
      obtain ⟨xs, _, hx, _⟩ := tableC_of g0
      obtain ⟨ts, ht⟩ := tpls_of g1
      exact ⟨_, _, _, _, _, _, _, _, xs, ts, rfl, hx, ht⟩
set_option maxRecDepth 100000 in
theorem slt_of (hl : cs.length = 3) (h : DataW.trod enc Try.prog W 0 (fun _ => true) true fuel 42 cs = some x) : ∃ y : Slt, cs = slL y := by
  obtain ⟨ys, n, _, _, _, hyl, hf⟩ := DataW.trod_struct Try.underlying42 h
  match cs, hl with
  | [c0, c1, c2], _ =>
    match ys, hyl with
    | [y0, y1, y2], _ =>
      have g0 : DataW.trod enc Try.prog W 0 (fun _ => true) true n 3 [c0] = some y0 := by simpa [cells_int] using hf 0 _ rfl
      have g1 : DataW.trod enc Try.prog W 0 (fun _ => true) true n 3 [c1] = some y1 := by simpa [cells_int] using hf 1 _ rfl
      have g2 : DataW.trod enc Try.prog W 0 (fun _ => true) true n 3 [c2] = some y2 := by simpa [cells_int] using hf 2 _ rfl
      obtain ⟨z0, e0, _⟩ := intb_of g0
      obtain ⟨z1, e1, _⟩ := intb_of g1
      obtain ⟨z2, e2, _⟩ := intb_of g2
      simp only [List.cons.injEq, and_true] at e0 e1 e2
      subst e0 e1 e2
      exact ⟨⟨z0, z1, z2⟩, rfl⟩
/-- Cells that are slots, three by three. -/
theorem slots_join : ∀ (n : Nat) (cs : List Value), cs.length = n * 3 → (∀ i, i < n → ∃ y : Slt, (cs.drop (i * 3)).take 3 = slL y) → ∃ l : List Slt, l.length = n ∧ cs = rgL l
  | 0, cs, h, _ => ⟨[], rfl, List.eq_nil_of_length_eq_zero (by omega)⟩
  | n + 1, cs, h, he => by
    obtain ⟨y, hy⟩ := he 0 (by omega)
    obtain ⟨l, hl, hcs⟩ := slots_join n (cs.drop 3) (by rw [List.length_drop]; omega) (fun i hi => by
      obtain ⟨z, hz⟩ := he (i + 1) (by omega)
      refine ⟨z, ?_⟩
      rw [List.drop_drop, show 3 + i * 3 = (i + 1) * 3 by omega]
      exact hz)
    refine ⟨y :: l, by simp [hl], ?_⟩
    have h0 : cs = cs.take 3 ++ cs.drop 3 := (List.take_append_drop 3 cs).symm
    rw [h0, hcs]
    rw [Nat.zero_mul, List.drop_zero] at hy
    rw [hy]
    rfl
set_option maxRecDepth 100000 in
theorem open_st {r : Reach} {b0 : Nat} {v : Value} {d : DataW H} {p : List MemPlace} (hv : Value.okWide Try.prog W r b0 45 v) (h : DataW.Trod enc Try.prog W 0 (fun _ => true) true 45 v d p) : ∃ s : StT, v = stV s ∧ s.regs.length = 16 := by
  simp only [Value.okWide, Try.underlying45] at hv
  obtain ⟨cs, rfl, hs, _⟩ := hv
  obtain ⟨fuel, hf⟩ := h
  have hf' : DataW.trod enc Try.prog W 0 (fun _ => true) true fuel 45 cs.toList = some (d, p) := by simpa [Value.cells] using hf
  have hl : cs.toList.length = 50 := by rw [Array.length_toList, hs, csz_st]
  obtain ⟨l, rfl⟩ : ∃ l : List Value, cs = l.toArray := ⟨cs.toList, by simp⟩
  rw [List.toList_toArray] at hf' hl
  obtain ⟨ys, n, _, _, _, hyl, hf⟩ := DataW.trod_struct Try.underlying45 hf'
  match l, hl with
  | c0 :: c1 :: rs, hl =>
    match ys, hyl with
    | [y0, y1, y2], _ =>
      have hrs : rs.length = 16 * 3 := by simpa using hl
      have g0 : DataW.trod enc Try.prog W 0 (fun _ => true) true n 3 [c0] = some y0 := by simpa [cells_int] using hf 0 _ rfl
      have g1 : DataW.trod enc Try.prog W 0 (fun _ => true) true n 3 [c1] = some y1 := by simpa [cells_int] using hf 1 _ rfl
      have g2 : DataW.trod enc Try.prog W 0 (fun _ => true) true n 43 rs = some y2 := by
        have := hf 2 _ rfl
        simpa [csz_rg, List.take_of_length_le (show rs.length ≤ 48 by omega)] using this
      obtain ⟨z0, e0, _⟩ := intb_of g0
      obtain ⟨z1, e1, _⟩ := intb_of g1
      obtain ⟨zs, k, _, _, _, hzl, hz⟩ := DataW.trod_array Try.underlying43 g2
      obtain ⟨q, hq, rfl⟩ := slots_join 16 rs hrs (fun i hi => by
        have h1 := hz i hi
        rw [csz_slt, List.getElem?_eq_getElem (by omega)] at h1
        exact slt_of (by rw [List.length_take, List.length_drop]; omega) h1)
      simp only [List.cons.injEq, and_true] at e0 e1
      subst e0 e1
      exact ⟨⟨z0, z1, q⟩, rfl, hq⟩
set_option maxRecDepth 100000 in
theorem open_two {r : Reach} {b0 : Nat} {v : Value} {d : DataW H} {p : List MemPlace} (hv : Value.okWide Try.prog W r b0 49 v) (h : DataW.Trod enc Try.prog W 0 (fun _ => true) true 49 v d p) : ∃ l0 l1 : Int, v = .agg #[.int .i64 l0, .int .i64 l1] := by
  simp only [Value.okWide, Try.underlying49] at hv
  obtain ⟨cs, rfl, hs, _⟩ := hv
  obtain ⟨fuel, hf⟩ := h
  have hf' : DataW.trod enc Try.prog W 0 (fun _ => true) true fuel 49 cs.toList = some (d, p) := by simpa [Value.cells] using hf
  have hl : cs.toList.length = 2 := by rw [Array.length_toList, hs, csz_two]
  obtain ⟨l, rfl⟩ : ∃ l : List Value, cs = l.toArray := ⟨cs.toList, by simp⟩
  rw [List.toList_toArray] at hf' hl
  obtain ⟨ys, n, _, _, _, hyl, hf⟩ := DataW.trod_array Try.underlying49 hf'
  match l, hl with
  | [c0, c1], _ =>
    match ys, hyl with
    | [y0, y1], _ =>
      have g0 : DataW.trod enc Try.prog W 0 (fun _ => true) true n 3 [c0] = some y0 := by simpa [cells_int] using hf 0 (by omega)
      have g1 : DataW.trod enc Try.prog W 0 (fun _ => true) true n 3 [c1] = some y1 := by simpa [cells_int] using hf 1 (by omega)
      obtain ⟨z0, e0, _⟩ := intb_of g0
      obtain ⟨z1, e1, _⟩ := intb_of g1
      simp only [List.cons.injEq, and_true] at e0 e1
      subst e0 e1
      exact ⟨z0, z1, rfl⟩
end
end Go.Proofs.Ytmhbmeckdbdhpaa

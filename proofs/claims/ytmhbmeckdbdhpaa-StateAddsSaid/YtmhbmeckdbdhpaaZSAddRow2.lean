/- Texts joined for the claim's sake: GLan, GEdg, GEds. -/
import Derived.Test.YtmhbmeckdbdhpaaZSAddRow0
import Derived.Lib.Hide
import Derived.Shelf.Abstract
import Derived.Shelf.RegionOpen
import Derived.OwnWalkIn
import Derived.TacticsInMore
import Derived.LoopNIn
import Derived.LoopIn
import Derived.Outline
import Derived.Deep.CutBlock
import Derived.Laws.CopyRow
import Derived.Laws.Tables
import Derived.Laws.Rows
namespace Go.Proofs.Ytmhbmeckdbdhpaa
open Go.RowKit

theorem wayL_none {xs : List Nd} {f : Nat} {t : Ed} (h : nodeAt xs t.1 = none) : wayL xs (f + 1) t = [] := by simp only [wayL, h]
theorem wayL_end {xs : List Nd} {f : Nat} {t : Ed} {x : Nd} (h : nodeAt xs t.1 = some x) (h2 : onlyNext x = none) : wayL xs (f + 1) t = [t] := by simp only [wayL, h, h2]
theorem wayL_next {xs : List Nd} {f : Nat} {t e : Ed} {x : Nd} (h : nodeAt xs t.1 = some x) (h2 : onlyNext x = some e) : wayL xs (f + 1) t = t :: wayL xs f (stepT t e) := by simp only [wayL, h, h2]
theorem wayL_head {xs : List Nd} {f : Nat} {t : Ed} {x : Nd} (h : nodeAt xs t.1 = some x) : ∃ r, wayL xs (f + 1) t = t :: r := ⟨_, by simp only [wayL, h]; rfl⟩
theorem wayL_mem {xs : List Nd} : ∀ {f : Nat} {t s : Ed}, s ∈ wayL xs f t → ∃ x, nodeAt xs s.1 = some x
  | 0, t, s, h => by simp [wayL] at h
  | f + 1, t, s, h => by
    cases hn : nodeAt xs t.1 with
    | none => rw [wayL_none hn] at h; simp at h
    | some x =>
      cases ho : onlyNext x with
      | none => rw [wayL_end hn ho] at h; obtain rfl := List.mem_singleton.1 h; exact ⟨x, hn⟩
      | some e =>
        rw [wayL_next hn ho] at h
        rcases List.mem_cons.1 h with rfl | h
        · exact ⟨x, hn⟩
        · exact wayL_mem h
theorem isAl_at {xs : List Nd} {t : Ed} {x : Nd} (h : nodeAt xs t.1 = some x) : isAl xs t = decide (x.kind = 5) := by simp only [isAl, h]
theorem pick_none {xs : List Nd} {f : Nat} {t : Ed} (h : nodeAt xs t.1 = none) : pickL xs (wayL xs (f + 1) t) = (-1, 0) := by rw [wayL_none h]; rfl
theorem pick_here {xs : List Nd} {f : Nat} {t : Ed} {x : Nd} (h : nodeAt xs t.1 = some x) (hk : x.kind ≠ 5) : pickL xs (wayL xs (f + 1) t) = t := by
  obtain ⟨r, hr⟩ := wayL_head (f := f) h
  rw [hr]
  simp [pickL, isAl_at h, hk]
theorem pick_stop {xs : List Nd} {f : Nat} {t : Ed} {x : Nd} (h : nodeAt xs t.1 = some x) (hk : x.kind = 5) (ho : onlyNext x = none) : pickL xs (wayL xs (f + 1) t) = (-1, 0) := by
  rw [wayL_end h ho]
  simp [pickL, isAl_at h, hk]
theorem pick_next {xs : List Nd} {f : Nat} {t e : Ed} {x : Nd} (h : nodeAt xs t.1 = some x) (ho : onlyNext x = some e) : pickL xs (wayL xs (f + 1) t) = pickL xs (wayL xs f (stepT t e)) := by
  have hk : x.kind = 5 := by
    unfold onlyNext at ho
    split at ho
    · assumption
    · cases ho
  rw [wayL_next h ho]
  simp [pickL, isAl_at h, hk]
/-- A node's case. -/
theorem node_cases (xs : List Nd) (i : Int) : nodeAt xs i = none ∨ (∃ x, nodeAt xs i = some x ∧ x.kind ≠ 5) ∨ (∃ x, nodeAt xs i = some x ∧ x.kind = 5 ∧ onlyNext x = none) ∨ (∃ x e, nodeAt xs i = some x ∧ x.kind = 5 ∧ onlyNext x = some e) := by
  cases h : nodeAt xs i with
  | none => exact .inl rfl
  | some x =>
    by_cases hk : x.kind = 5
    · cases ho : onlyNext x with
      | none => exact .inr (.inr (.inl ⟨x, rfl, hk, ho⟩))
      | some e => exact .inr (.inr (.inr ⟨x, e, rfl, hk, ho⟩))
    · exact .inr (.inl ⟨x, rfl, hk⟩)
theorem pick_some {xs : List Nd} : ∀ {L : List Ed}, pickL xs L = (-1, 0) ∨ (pickL xs L ∈ L ∧ isAl xs (pickL xs L) = false)
  | [] => .inl rfl
  | t :: L => by
    cases ht : isAl xs t with
    | true =>
      simp only [pickL, ht, if_true]
      rcases pick_some (xs := xs) (L := L) with h | ⟨h, h2⟩
      · exact .inl h
      · exact .inr ⟨List.mem_cons_of_mem _ h, h2⟩
    | false =>
      have : pickL xs (t :: L) = t := by simp [pickL, ht]
      rw [this]
      exact .inr ⟨List.mem_cons_self, ht⟩
/-- What a type comes to: none, or a node that is no alias. -/
theorem resolve_at (xs : List Nd) (t : Ed) : resolveL xs t = (-1, 0) ∨ ∃ x, nodeAt xs (resolveL xs t).1 = some x ∧ x.kind ≠ 5 := by
  rcases pick_some (xs := xs) (L := wayL xs xs.length t) with h | ⟨h, h2⟩
  · exact .inl h
  · obtain ⟨x, hx⟩ := wayL_mem h
    refine .inr ⟨x, hx, ?_⟩
    rw [isAl_at hx] at h2
    simpa using h2
theorem wrap_add (a b c : Int) : wrap64 (wrap64 (a + b) + c) = wrap64 (wrap64 (a + c) + b) := by
  unfold wrap64
  omega
theorem pick_shift {xs : List Nd} (o : Int) : ∀ {f : Nat} {t : Ed}, (pickL xs (wayL xs f t) = (-1, 0) ∧ pickL xs (wayL xs f (t.1, wrap64 (t.2 + o))) = (-1, 0)) ∨ (pickL xs (wayL xs f (t.1, wrap64 (t.2 + o))) = ((pickL xs (wayL xs f t)).1, wrap64 ((pickL xs (wayL xs f t)).2 + o)))
  | 0, t => .inl ⟨rfl, rfl⟩
  | f + 1, t => by
    rcases node_cases xs t.1 with h0 | ⟨x, h0, hk⟩ | ⟨x, h0, hk, ho⟩ | ⟨x, e, h0, hk, ho⟩
    · exact .inl ⟨pick_none h0, pick_none (t := (t.1, wrap64 (t.2 + o))) h0⟩
    · rw [pick_here h0 hk, pick_here (t := (t.1, wrap64 (t.2 + o))) h0 hk]
      exact .inr rfl
    · exact .inl ⟨pick_stop h0 hk ho, pick_stop (t := (t.1, wrap64 (t.2 + o))) h0 hk ho⟩
    · rw [pick_next h0 ho, pick_next (t := (t.1, wrap64 (t.2 + o))) h0 ho]
      have := pick_shift (xs := xs) o (f := f) (t := stepT t e)
      simp only [stepT] at this ⊢
      rw [wrap_add t.2 o e.2]
      exact this
/-- An offset more is an offset more of what a type comes to. -/
theorem resolve_shift {xs : List Nd} {t a : Ed} {x : Nd} (o : Int) (h : resolveL xs t = a) (hx : nodeAt xs a.1 = some x) : resolveL xs (t.1, wrap64 (t.2 + o)) = (a.1, wrap64 (a.2 + o)) := by
  rcases pick_shift (xs := xs) o (f := xs.length) (t := t) with ⟨h1, _⟩ | h1
  · have h2 : resolveL xs t = (-1, 0) := h1
    rw [h2] at h
    subst h
    have := (nodeAt_some hx).1
    simp at this
  · have h2 : resolveL xs t = pickL xs (wayL xs xs.length t) := rfl
    rw [← h2, h] at h1
    exact h1
theorem take_len {α : Type} {l : List α} {k : Nat} {e : α} (h : l[k]? = some e) : l.take (k + 1) = l.take k ++ [e] := by
  obtain ⟨hl, rfl⟩ := List.getElem?_eq_some_iff.1 h
  exact List.take_succ_eq_append_getElem hl
end Go.Proofs.Ytmhbmeckdbdhpaa

namespace Go.Proofs.Ytmhbmeckdbdhpaa
open Go.RowKit Go.Shelf
attribute [local go_sem] Oper.semAt_some

set_option maxHeartbeats 400000 in
theorem within_any (n lo hi : Int) (w : World) :
    Calls Try.prog 79 #[.int .i64 n, .int .i64 lo, .int .i64 hi] w fun e w' => e = .returned (.bool (withinB n lo hi)) ∧ w = w' := by
  unfold withinB
  by_cases h : lo ≤ n
  · have h1 : decide (lo ≤ n) = true := by simpa using h
    go_enter Try.func79, Try.ntmps79
    go_wp2
    go_ret
    exact ⟨by simp [h], rfl⟩
  · have h1 : decide (lo ≤ n) = false := by simpa using h
    go_enter Try.func79, Try.ntmps79
    go_wp2
    go_ret
    exact ⟨by simp, rfl⟩

set_option maxHeartbeats 400000 in
theorem isNode_any (A : Option Addr) (n c : Nat) (hn : n ≤ 140737488351232) (i : Int) (w : World) :
    Calls Try.prog 73 #[.slice A n c, .int .i64 i] w fun e w' => e = .returned (.bool (nodeB n i)) ∧ w = w' := by
  unfold nodeB
  go_enter Try.func73, Try.ntmps73
  go_wp2_with (go_at_call 79; refine (within_any _ _ _ _).mono ?_; rintro e w' ⟨rfl, rfl⟩)
  go_ret
  exact ⟨rfl, rfl⟩

theorem blk_at {w : World} {H : Nat} (h : w.heap.size = H) (t : TypeId) (cs : Array Value) : Blk (w.alloc (.cells cs t)) H t cs := by subst h; exact Blk.new w t cs
/-- A store of a whole struct or array into a block that is known whole. -/
theorem wpList_store_made {P : Program} {ops : Array Oper} {rest : List Oper} {o : Oper} {a : Act} {w : World} {Q : Exit → Act → World → Prop} {b : Nat} {cs old : Array Value} (hgd : o.guard = none) (x y : Operand) (ty : TypeId) (ho : o.op = .store ty x y)
    (hx : a.eval x = .pointer (some ⟨b, 0, none⟩)) (hy : a.eval y = .agg cs) (hb : Blk w b ty old) (hi : (P.info? ty).map (·.size) = some cs.size) (hs : old.size = cs.size) (h1 : cs.all (·.oneCell') = true)
    (h : ∀ w1, Blk w1 b ty cs → w.grownBy w1 (some b) → wpList P ops Q rest (a.put o.dst undef) w1) : wpList P ops Q (o :: rest) a w :=
  wpList_plain hgd fun _ hK => wp_store_row ty x y ho b cs hx hy ty old hb hi hs h1 (hK _ _ (h _ (setRow_heap w b old cs ty _ hb) ⟨rfl, rfl, rfl, by simp, fun k _ hk => setRow_other w b k cs (fun e => hk (by rw [e]))⟩))

abbrev shCells (a b : Int) (p : Bool) (c : Int) : Array Value := #[.int .i64 a, .int .i64 b, .bool p, .int .i64 c]
abbrev shV (a b : Int) (p : Bool) (c : Int) : Value := .agg #[.int .i64 a, .int .i64 b, .bool p, .int .i64 c]
theorem shape_size : (Try.prog.info? 146).map (·.size) = some 4 := by kernel_rfl
theorem shapes_size : (Try.prog.info? 152).map (·.size) = some 24 := by kernel_rfl
theorem shapeOf_results {tmps : Array Value} {W : World} {b : Nat} {p : Bool} {v : Value} {x y z : Int} (hp : tmps.getD 2 undef = .pointer (some ⟨b, 0, none⟩)) (h3 : tmps.getD 3 undef = v) (hb : Blk W b 146 (shCells x y p z)) :
    (results Try.f78 tmps).run Try.prog W = .ok (.tuple #[shV x y p z, v]) W := by
  have hp' : tmps[2]?.getD undef = .pointer (some ⟨b, 0, none⟩) := by simpa using hp
  have h3' : tmps[3]?.getD undef = v := by simpa using h3
  simp [results, Try.results78, hp', h3', asAddr, run_loadVar_row W b _ 146 _ _ _ hb Try.underlying146 rfl (by exact shape_size)]


abbrev shAll : Array Value := #[.int .i64 0, .int .i64 0, .bool false, .int .i64 0, .int .i64 1, .int .i64 1, .bool true, .int .i64 1000, .int .i64 1, .int .i64 1, .bool true, .int .i64 1000, .int .i64 1, .int .i64 8, .bool false, .int .i64 1000, .int .i64 1, .int .i64 8, .bool false, .int .i64 1000, .int .i64 1, .int .i64 1, .bool false, .int .i64 0]
theorem sh_all (k : Nat) (hk : k < 6) : shAll[k * 4]? = some (.int .i64 (leastN k)) ∧ shAll[k * 4 + 1]? = some (.int .i64 (mostN k)) ∧ shAll[k * 4 + 2]? = some (.bool (paysB k)) ∧ shAll[k * 4 + 3]? = some (.int .i64 (mostP k)) := by
  have h : k = 0 ∨ k = 1 ∨ k = 2 ∨ k = 3 ∨ k = 4 ∨ k = 5 := by omega
  rcases h with rfl | rfl | rfl | rfl | rfl | rfl <;> simp [shAll, leastN, mostN, paysB, mostP]
theorem shape_end {w w1 : World} {z0 z1 : Array Value} {x y z : Int} {p : Bool} (hg : ((w.alloc (.cells z0 146)).alloc (.cells z1 152)).grownBy w1 (some (w.heap.size + 1))) (w2 : World) (hg2 : w1.grownBy w2 (some w.heap.size)) (hb : Blk w2 w.heap.size 146 (shCells x y p z)) :
    w.grownBy w2 none ∧ Blk w2 w.heap.size 146 (shCells x y p z) := by
  have h1 : w.grownBy ((w.alloc (.cells z0 146)).alloc (.cells z1 152)) none := only_alloc (only_alloc (only_refl _ _) _) _
  exact ⟨only_new (only_new h1 hg (by omega)) hg2 (Nat.le_refl _), hb⟩

def shapeV (k : Int) : Value := if kindB k then shV (leastN k) (mostN k) (paysB k) (mostP k) else shV 0 0 false 0
theorem shapeV_in {k : Int} (h : kindB k = true) : shapeV k = shV (leastN k) (mostN k) (paysB k) (mostP k) := by simp only [shapeV, h, if_true]
theorem shapeV_out {k : Int} (h : kindB k = false) : shapeV k = shV 0 0 false 0 := by simp [shapeV, h]
set_option maxRecDepth 100000 in
set_option maxHeartbeats 2000000 in
theorem shapeOf_any (k : Int) (w : World) :
    Calls Try.prog 78 #[.int .i64 k] w fun e w' => e = .returned (.tuple #[shapeV k, .bool (kindB k)]) ∧ w.grownBy w' none := by
  go_enter Try.func78, Try.ntmps78
  go_upto_region 2 with (refine wpList_store_made (b := w.heap.size + 1) rfl (.tmp 4) (.tmp 11) 152 rfl rfl rfl (blk_at (by simp) _ _) shapes_size rfl (by simp [Value.oneCell']) ?_; intro w1 hb1 hg1)
  have hb0 := (Blk.alloc (Blk.new w 146 (shCells 0 0 false 0)) (.cells #[.int .i64 0, .int .i64 0, .bool false, .int .i64 0, .int .i64 0, .int .i64 0, .bool false, .int .i64 0, .int .i64 0, .int .i64 0, .bool false, .int .i64 0, .int .i64 0, .int .i64 0, .bool false, .int .i64 0, .int .i64 0, .int .i64 0, .bool false, .int .i64 0, .int .i64 0, .int .i64 0, .bool false, .int .i64 0] 152)).grown hg1 (fun e => by injection e with e; omega)
  have HE := Lib.hid (fun x y p z w2 (h2 : w1.grownBy w2 (some w.heap.size)) hb => shape_end (x := x) (y := y) (p := p) (z := z) hg1 w2 h2 hb)
  clear hg1
  by_cases hk : 0 ≤ k ∧ k ≤ 5
  · have hkb : kindB k = true := by simpa [kindB, withinB] using hk
    obtain ⟨n, rfl⟩ : ∃ n : Nat, k = n := ⟨k.toNat, by omega⟩
    have hn : n < 6 := by omega
    obtain ⟨f0, f1, f2, f3⟩ := sh_all n hn
    have c0 := (hb1.cell (n * 4)).trans f0
    have c1 := (hb1.cell (n * 4 + 1)).trans f1
    have c2 := (hb1.cell (n * 4 + 2)).trans f2
    have c3 := (hb1.cell (n * 4 + 3)).trans f3
    have h5 : (n : Int) ≤ 5 := hk.2
    have h6 : (n : Int) < 6 := by omega
    have HK := Lib.hid hkb
    clear hk f0 f1 f2 f3 hb1 hkb
    go_wp2_with (refine wpList_store_made rfl (.tmp 2) (.tmp 21) 146 rfl rfl rfl hb0 shape_size rfl (by simp [Value.oneCell']) ?_; intro w2 hb2 hg2)
    obtain ⟨e1, e2⟩ := HE.out _ _ _ _ _ hg2 hb2
    rw [shapeV_in HK.out, HK.out]
    exact bodyPost_ret (shapeOf_results rfl rfl e2) rfl ⟨rfl, e1⟩
  · have hkb : kindB k = false := by simpa [kindB, withinB] using hk
    have HK := Lib.hid hkb
    clear hkb
    rcases Int.lt_or_le k 0 with h | h
    · clear hk
      go_wp2_with (refine wpList_store_made rfl (.tmp 2) (.tmp 18) 146 rfl rfl rfl hb0 shape_size rfl (by simp [Value.oneCell']) ?_; intro w2 hb2 hg2)
      obtain ⟨e1, e2⟩ := HE.out _ _ _ _ _ hg2 hb2
      rw [shapeV_out HK.out, HK.out]
      exact bodyPost_ret (shapeOf_results rfl rfl e2) rfl ⟨rfl, e1⟩
    · have h5 : 5 < k := by omega
      have h0 : ¬ k < 0 := by omega
      clear hk
      go_wp2_with (refine wpList_store_made rfl (.tmp 2) (.tmp 18) 146 rfl rfl rfl hb0 shape_size rfl (by simp [Value.oneCell']) ?_; intro w2 hb2 hg2)
      obtain ⟨e1, e2⟩ := HE.out _ _ _ _ _ hg2 hb2
      rw [shapeV_out HK.out, HK.out]
      exact bodyPost_ret (shapeOf_results rfl rfl e2) rfl ⟨rfl, e1⟩
end Go.Proofs.Ytmhbmeckdbdhpaa

namespace Go.Proofs.Ytmhbmeckdbdhpaa
open Go.RowKit Go.Shelf
attribute [local go_sem] Oper.semAt_some

set_option maxRecDepth 100000 in
set_option maxHeartbeats 1000000 in
theorem hasPay_any (x : Nd) (v : Value) (a b : Int) (p : Bool) (c : Int) (w : World) :
    Calls Try.prog 80 #[ndV x v, shV a b p c] w fun e w' => e = .returned (.bool (payB x p)) ∧ w.grownBy w' none := by
  obtain ⟨kind, prio, chan, ⟨ea, es⟩, next⟩ := x
  have hg : ∀ A B, w.grownBy ((w.alloc A).alloc B) none := fun A B => only_alloc (only_alloc (only_refl _ _) _) _
  have HG := Lib.hid hg
  clear hg
  cases chan
  · go_enter Try.func80, Try.ntmps80
    go_wp2
    all_goals (go_ret; refine ⟨?_, HG.out _ _⟩; simp [payB, *])
  · go_enter Try.func80, Try.ntmps80
    go_wp2
    go_ret
    exact ⟨rfl, HG.out _ _⟩

theorem edges_any (x : Nd) (v : Value) (w : World) :
    Calls Try.prog 72 #[ndV x v] w fun e w' => e = .returned (.func (.func 81) #[] #[.pointer (some ⟨w.heap.size, 0, none⟩)]) ∧ w' = w.alloc (.cells (ndCells x v) 70) := by
  have hmf : ∀ (fn : Fn) (first cap : Array Value) (w : World), (Instr.makeFunc fn first cap).run Try.prog w = .ok (.func fn first cap) w := fun _ _ _ _ => rfl
  go_enter Try.func72, Try.ntmps72
  go_wp2
  go_ret
  exact ⟨rfl, rfl⟩

theorem edges_eq_chan {x : Nd} (h : x.chan = true) : edgesL x = [x.pay] ++ x.next := by simp [edgesL, h]
theorem edges_eq_word {x : Nd} (h : x.chan = false) : edgesL x = [] ++ x.next := by simp [edgesL, h]
theorem pre_take {α : Type} (p l : List α) (k : Nat) : p ++ l.take k <+: p ++ l := (List.prefix_append_right_inj p).2 (List.take_prefix _ _)
/-- What stands between two edges of a node. -/
def EI (W : World) (J : List Ed → World → Prop) (p0 next : List Ed) (k : Nat) (wr : World) : Prop := J (p0 ++ next.take k) wr ∧ KeepsCells W wr

set_option maxRecDepth 100000 in
set_option maxHeartbeats 2000000 in
/-- The edges come one by one, the payload's first, until a round says 'no more'. -/
theorem edges_tells (Bn : Nat) (x : Nd) (v : Value) :
    Tells Fence.wide 2 Try.prog 81 #[.pointer (some ⟨Bn, 0, none⟩)] (fun e => #[edV e]) KeepsCells (fun W => Blk W Bn 70 (ndCells x v) ∧ Edges W v x.next) (edgesL x) := fun l J Jx W hJ hY h0 ⟨hb, hE⟩ => by
  refine callsIn_of_wp Try.func81 rfl trivial ?_ rfl
  simp only [Try.ntmps81, List.size_toArray, List.length_cons, List.length_nil, Nat.reduceAdd, Nat.reduceSub, Array.replicate_succ, Array.replicate_zero, List.push_toArray, List.append_toArray, List.nil_append, List.cons_append]
  obtain ⟨A, cap, rfl, hlen, hcell⟩ := hE
  obtain ⟨kind, prio, chan, ⟨ea, es⟩, next⟩ := x
  dsimp only at *
  have c2 : W.cell? ⟨Bn, 2, none⟩ = some (.bool chan) := hb.cell 2
  have c3 : W.cell? ⟨Bn, 3, none⟩ = some (.int .i64 ea) := hb.cell 3
  have c4 : W.cell? ⟨Bn, 4, none⟩ = some (.int .i64 es) := hb.cell 4
  have c5 : W.cell? ⟨Bn, 5, none⟩ = some (.slice A next.length cap) := hb.cell 5
  have HB := Lib.hid hb
  clear hb
  cases chan
  · have HC := Lib.hid hcell
    have HY := Lib.hid hY
    have HJ := Lib.hid hJ
    have HL := Lib.hid hlen
    clear hcell hY hJ
    gi_wp2_with fail
    refine ⟨fun _ h => (by cases h), ?_⟩
    gi_wp2_with fail
    have H0 : Hid (EI W J [] next 0 W) := ⟨h0, .refl _⟩
    gi_loopw [17] (fun i wr => ∃ k : Nat, k ≤ next.length ∧ i = .int .i64 (k : Int) ∧ EI W J [] next k wr) (fun i _ => next.length - (intOf i).toNat)
    case atStart => exact ⟨0, Nat.zero_le _, rfl, H0.out⟩
    case round =>
      obtain ⟨k, hk, rfl, hJ1, hkc⟩ := hrel
      have hl2 := HL.out
      by_cases hlt : k < next.length
      · obtain ⟨⟨a, b⟩, he⟩ : ∃ e, next[k]? = some e := ⟨_, List.getElem?_eq_getElem hlt⟩
        obtain ⟨bb, off, rfl, hce⟩ := HC.out (by intro e0; rw [e0] at hlt; simp at hlt)
        have d0 : wr.cell? ⟨bb, off + k * 2, none⟩ = some (.int .i64 a) := hkc.cell (hce k _ he).1
        have d1 : wr.cell? ⟨bb, off + k * 2 + 1, none⟩ = some (.int .i64 b) := hkc.cell (hce k _ he).2
        clear hce
        have hb2 : Below W.heap.size wr (wr.alloc (.cells #[.int .i64 a, .int .i64 b] 67)) := (Below.refl _ _).alloc hkc.size _
        have hsn := take_len he
        obtain ⟨fn, tmps, assign, body, hy, hR⟩ := HY.out ([] ++ next.take k) (a, b) _ (by
          rw [edges_eq_word (rfl : (Nd.mk kind prio false (ea, es) next).chan = false), List.append_assoc, ← hsn]; exact pre_take _ _ _) (HJ.out _ _ _ hJ1 hb2)
        have HS := Lib.hid hsn
        have HK := Lib.hid hkc
        have hk0 : (0 : Int) ≤ (k : Int) := by omega
        have hk1 : (k : Int) < (next.length : Int) := by omega
        clear hsn hkc he hb2 hJ1
        gi_wp2_with fail
        refine hR.mono ?_
        rintro e W3 (⟨rfl, hJ3, hk3⟩ | ⟨rfl, hJ3⟩)
        · have hEI : EI W J [] next (k + 1) W3 := ⟨by rw [HS.out, ← List.append_assoc]; exact hJ3, (HK.out.trans (KeepsCells.alloc _ _)).trans hk3⟩
          have HE := Lib.hid hEI
          clear hEI hJ3 hk3
          gi_wp2_with fail
          go_roundw
          case rel => exact ⟨k + 1, by omega, by go_num, HE.out⟩
          case measure => simp [intOf]; omega
        · have HX : Hid (Jx ([] ++ next.take (k + 1)) W3) := by rw [HS.out, ← List.append_assoc]; exact hJ3
          clear hJ3
          gi_wp2_with fail
          refine bodyPost_ret (results_none rfl _ _ _) rfl ?_
          exact ⟨⟨_, rfl⟩, .inr ⟨_, by rw [edges_eq_word (rfl : (Nd.mk kind prio false (ea, es) next).chan = false)]; exact pre_take _ _ _, by rw [HS.out]; simp, HX.out⟩⟩
      · have hke : k = next.length := by omega
        have HX : Hid (J ([] ++ next) wr) := by have := hJ1; rw [hke, List.take_length] at this; exact this
        have hge : (next.length : Int) ≤ (k : Int) := by omega
        clear hJ1 hkc hke
        gi_wp2_with fail
        go_end0
        exact ⟨⟨_, rfl⟩, .inl (by rw [edges_eq_word (rfl : (Nd.mk kind prio false (ea, es) next).chan = false)]; exact HX.out)⟩
  · obtain ⟨fn, tmps, assign, body, hy, hR⟩ := hY [] (ea, es) W (by rw [edges_eq_chan rfl]; exact ⟨next, rfl⟩) h0
    have HC := Lib.hid hcell
    have HY := Lib.hid hY
    have HJ := Lib.hid hJ
    have HL := Lib.hid hlen
    clear hcell hY hJ
    gi_wp2_with fail
    refine hR.mono ?_
    rintro e W1 (⟨rfl, hJ3, hk3⟩ | ⟨rfl, hJ3⟩)
    · have q5 := hk3.cell c5
      have H0 : Hid (EI W J [(ea, es)] next 0 W1) := ⟨by simpa using hJ3, hk3⟩
      clear hJ3 hk3
      gi_wp2_with fail
      gi_loopw [17] (fun i wr => ∃ k : Nat, k ≤ next.length ∧ i = .int .i64 (k : Int) ∧ EI W J [(ea, es)] next k wr) (fun i _ => next.length - (intOf i).toNat)
      case atStart => exact ⟨0, Nat.zero_le _, rfl, H0.out⟩
      case round =>
        obtain ⟨k, hk, rfl, hJ1, hkc⟩ := hrel
        have hl2 := HL.out
        by_cases hlt : k < next.length
        · obtain ⟨⟨a, b⟩, he⟩ : ∃ e, next[k]? = some e := ⟨_, List.getElem?_eq_getElem hlt⟩
          obtain ⟨bb, off, rfl, hce⟩ := HC.out (by intro e0; rw [e0] at hlt; simp at hlt)
          have d0 : wr.cell? ⟨bb, off + k * 2, none⟩ = some (.int .i64 a) := hkc.cell (hce k _ he).1
          have d1 : wr.cell? ⟨bb, off + k * 2 + 1, none⟩ = some (.int .i64 b) := hkc.cell (hce k _ he).2
          clear hce
          have hb2 : Below W.heap.size wr (wr.alloc (.cells #[.int .i64 a, .int .i64 b] 67)) := (Below.refl _ _).alloc hkc.size _
          have hsn := take_len he
          obtain ⟨fn, tmps, assign, body, hy, hR⟩ := HY.out ([(ea, es)] ++ next.take k) (a, b) _ (by
            rw [edges_eq_chan (rfl : (Nd.mk kind prio true (ea, es) next).chan = true), List.append_assoc, ← hsn]; exact pre_take _ _ _) (HJ.out _ _ _ hJ1 hb2)
          have HS := Lib.hid hsn
          have HK := Lib.hid hkc
          have hk0 : (0 : Int) ≤ (k : Int) := by omega
          have hk1 : (k : Int) < (next.length : Int) := by omega
          clear hsn hkc he hb2 hJ1
          gi_wp2_with fail
          refine hR.mono ?_
          rintro e W3 (⟨rfl, hJ3, hk3⟩ | ⟨rfl, hJ3⟩)
          · have hEI : EI W J [(ea, es)] next (k + 1) W3 := ⟨by rw [HS.out, ← List.append_assoc]; exact hJ3, (HK.out.trans (KeepsCells.alloc _ _)).trans hk3⟩
            have HE := Lib.hid hEI
            clear hEI hJ3 hk3
            gi_wp2_with fail
            go_roundw
            case rel => exact ⟨k + 1, by omega, by go_num, HE.out⟩
            case measure => simp [intOf]; omega
          · have HX : Hid (Jx ([(ea, es)] ++ next.take (k + 1)) W3) := by rw [HS.out, ← List.append_assoc]; exact hJ3
            clear hJ3
            gi_wp2_with fail
            refine bodyPost_ret (results_none rfl _ _ _) rfl ?_
            exact ⟨⟨_, rfl⟩, .inr ⟨_, by rw [edges_eq_chan (rfl : (Nd.mk kind prio true (ea, es) next).chan = true)]; exact pre_take _ _ _, by rw [HS.out]; simp, HX.out⟩⟩
        · have hke : k = next.length := by omega
          have HX : Hid (J ([(ea, es)] ++ next) wr) := by have := hJ1; rw [hke, List.take_length] at this; exact this
          have hge : (next.length : Int) ≤ (k : Int) := by omega
          clear hJ1 hkc hke
          gi_wp2_with fail
          go_end0
          exact ⟨⟨_, rfl⟩, .inl (by rw [edges_eq_chan (rfl : (Nd.mk kind prio true (ea, es) next).chan = true)]; exact HX.out)⟩
    · have HX := Lib.hid hJ3
      clear hJ3
      gi_wp2_with fail
      refine bodyPost_ret (results_none rfl _ _ _) rfl ?_
      exact ⟨⟨_, rfl⟩, .inr ⟨_, by rw [edges_eq_chan rfl]; exact ⟨next, rfl⟩, by simp, HX.out⟩⟩
end Go.Proofs.Ytmhbmeckdbdhpaa

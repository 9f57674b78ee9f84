/- graph: isWithin, isNode, shapeOf, hasPay, edges: what each answers. -/
import Derived.Test.YtacjkkhignjmnaaGTab
import Derived.Lib.Hide
import Derived.Shelf.Abstract
import Derived.Shelf.RegionOpen
import Derived.OwnWalkIn
import Derived.TacticsInMore
import Derived.LoopNIn
import Derived.LoopIn
import Derived.Outline
import Derived.Deep.CutBlock
import Derived.Laws.CopyRow
import Derived.Laws.Tables
namespace Go.Proofs.Ytacjkkhignjmnaa
open Go.RowKit Go.Shelf
attribute [local go_sem] Oper.semAt_some

set_option maxHeartbeats 400000 in
theorem within_any (n lo hi : Int) (w : World) :
    Calls Try.prog 36 #[.int .i64 n, .int .i64 lo, .int .i64 hi] w fun e w' => e = .returned (.bool (withinB n lo hi)) ∧ w = w' := by
  unfold withinB
  by_cases h : lo ≤ n
  · have h1 : decide (lo ≤ n) = true := by simpa using h
    go_enter Try.func36, Try.ntmps36
    go_wp2
    go_ret
    exact ⟨by simp [h], rfl⟩
  · have h1 : decide (lo ≤ n) = false := by simpa using h
    go_enter Try.func36, Try.ntmps36
    go_wp2
    go_ret
    exact ⟨by simp, rfl⟩

set_option maxHeartbeats 400000 in
theorem isNode_any (A : Option Addr) (n c : Nat) (hn : n ≤ 140737488351232) (i : Int) (w : World) :
    Calls Try.prog 31 #[.slice A n c, .int .i64 i] w fun e w' => e = .returned (.bool (nodeB n i)) ∧ w = w' := by
  unfold nodeB
  go_enter Try.func31, Try.ntmps31
  go_wp2_with (go_at_call 36; refine (within_any _ _ _ _).mono ?_; rintro e w' ⟨rfl, rfl⟩)
  go_ret
  exact ⟨rfl, rfl⟩

theorem blk_at {w : World} {H : Nat} (h : w.heap.size = H) (t : TypeId) (cs : Array Value) : Blk (w.alloc (.cells cs t)) H t cs := by subst h; exact Blk.new w t cs
/-- A store of a whole struct or array into a block that is known whole. -/
theorem wpList_store_made {P : Program} {ops : Array Oper} {rest : List Oper} {o : Oper} {a : Act} {w : World} {Q : Exit → Act → World → Prop} {b : Nat} {cs old : Array Value} (hgd : o.guard = none) (x y : Operand) (ty : TypeId) (ho : o.op = .store ty x y)
    (hx : a.eval x = .pointer (some ⟨b, 0, none⟩)) (hy : a.eval y = .agg cs) (hb : Blk w b ty old) (hi : (P.info? ty).map (·.size) = some cs.size) (hs : old.size = cs.size) (h1 : cs.all (·.oneCell') = true)
    (h : ∀ w1, Blk w1 b ty cs → w.grownBy w1 (some b) → wpList P ops Q rest (a.put o.dst undef) w1) : wpList P ops Q (o :: rest) a w :=
  wpList_plain hgd fun _ hK => wp_store_row ty x y ho b cs hx hy ty old hb hi hs h1 (hK _ _ (h _ (setRow_heap w b old cs ty _ hb) ⟨rfl, rfl, rfl, by simp, fun k _ hk => setRow_other w b k cs (fun e => hk (by rw [e]))⟩))

abbrev shCells (a b : Int) (p : Bool) (c : Int) : Array Value := #[.int .i64 a, .int .i64 b, .bool p, .int .i64 c]
abbrev shV (a b : Int) (p : Bool) (c : Int) : Value := .agg #[.int .i64 a, .int .i64 b, .bool p, .int .i64 c]
theorem shape_size : (Try.prog.info? 69).map (·.size) = some 4 := by kernel_rfl
theorem shapes_size : (Try.prog.info? 75).map (·.size) = some 24 := by kernel_rfl
theorem shapeOf_results {tmps : Array Value} {W : World} {b : Nat} {p : Bool} {v : Value} {x y z : Int} (hp : tmps.getD 2 undef = .pointer (some ⟨b, 0, none⟩)) (h3 : tmps.getD 3 undef = v) (hb : Blk W b 69 (shCells x y p z)) :
    (results Try.f35 tmps).run Try.prog W = .ok (.tuple #[shV x y p z, v]) W := by
  have hp' : tmps[2]?.getD undef = .pointer (some ⟨b, 0, none⟩) := by simpa using hp
  have h3' : tmps[3]?.getD undef = v := by simpa using h3
  simp [results, Try.results35, hp', h3', asAddr, run_loadVar_row W b _ 69 _ _ _ hb Try.underlying69 rfl (by exact shape_size)]


abbrev shAll : Array Value := #[.int .i64 0, .int .i64 0, .bool false, .int .i64 0, .int .i64 1, .int .i64 1, .bool true, .int .i64 1000, .int .i64 1, .int .i64 1, .bool true, .int .i64 1000, .int .i64 1, .int .i64 8, .bool false, .int .i64 1000, .int .i64 1, .int .i64 8, .bool false, .int .i64 1000, .int .i64 1, .int .i64 1, .bool false, .int .i64 0]
theorem sh_all (k : Nat) (hk : k < 6) : shAll[k * 4]? = some (.int .i64 (leastN k)) ∧ shAll[k * 4 + 1]? = some (.int .i64 (mostN k)) ∧ shAll[k * 4 + 2]? = some (.bool (paysB k)) ∧ shAll[k * 4 + 3]? = some (.int .i64 (mostP k)) := by
  have h : k = 0 ∨ k = 1 ∨ k = 2 ∨ k = 3 ∨ k = 4 ∨ k = 5 := by omega
  rcases h with rfl | rfl | rfl | rfl | rfl | rfl <;> simp [shAll, leastN, mostN, paysB, mostP]
theorem shape_end {w w1 : World} {z0 z1 : Array Value} {x y z : Int} {p : Bool} (hg : ((w.alloc (.cells z0 69)).alloc (.cells z1 75)).grownBy w1 (some (w.heap.size + 1))) (w2 : World) (hg2 : w1.grownBy w2 (some w.heap.size)) (hb : Blk w2 w.heap.size 69 (shCells x y p z)) :
    w.grownBy w2 none ∧ Blk w2 w.heap.size 69 (shCells x y p z) := by
  have h1 : w.grownBy ((w.alloc (.cells z0 69)).alloc (.cells z1 75)) none := only_alloc (only_alloc (only_refl _ _) _) _
  exact ⟨only_new (only_new h1 hg (by omega)) hg2 (Nat.le_refl _), hb⟩

def shapeV (k : Int) : Value := if kindB k then shV (leastN k) (mostN k) (paysB k) (mostP k) else shV 0 0 false 0
theorem shapeV_in {k : Int} (h : kindB k = true) : shapeV k = shV (leastN k) (mostN k) (paysB k) (mostP k) := by simp only [shapeV, h, if_true]
theorem shapeV_out {k : Int} (h : kindB k = false) : shapeV k = shV 0 0 false 0 := by simp [shapeV, h]
set_option maxRecDepth 100000 in
set_option maxHeartbeats 2000000 in
theorem shapeOf_any (k : Int) (w : World) :
    Calls Try.prog 35 #[.int .i64 k] w fun e w' => e = .returned (.tuple #[shapeV k, .bool (kindB k)]) ∧ w.grownBy w' none := by
  go_enter Try.func35, Try.ntmps35
  go_upto_region 2 with (refine wpList_store_made (b := w.heap.size + 1) rfl (.tmp 4) (.tmp 11) 75 rfl rfl rfl (blk_at (by simp) _ _) shapes_size rfl (by simp [Value.oneCell']) ?_; intro w1 hb1 hg1)
  have hb0 := (Blk.alloc (Blk.new w 69 (shCells 0 0 false 0)) (.cells #[.int .i64 0, .int .i64 0, .bool false, .int .i64 0, .int .i64 0, .int .i64 0, .bool false, .int .i64 0, .int .i64 0, .int .i64 0, .bool false, .int .i64 0, .int .i64 0, .int .i64 0, .bool false, .int .i64 0, .int .i64 0, .int .i64 0, .bool false, .int .i64 0, .int .i64 0, .int .i64 0, .bool false, .int .i64 0] 75)).grown hg1 (fun e => by injection e with e; omega)
  have HE := Lib.hid (fun x y p z w2 (h2 : w1.grownBy w2 (some w.heap.size)) hb => shape_end (x := x) (y := y) (p := p) (z := z) hg1 w2 h2 hb)
  clear hg1
  by_cases hk : 0 ≤ k ∧ k ≤ 5
  · have hkb : kindB k = true := by simpa [kindB, withinB] using hk
    obtain ⟨n, rfl⟩ : ∃ n : Nat, k = n := ⟨k.toNat, by omega⟩
    have hn : n < 6 := by omega
    obtain ⟨f0, f1, f2, f3⟩ := sh_all n hn
    have c0 := (hb1.cell (n * 4)).trans f0
    have c1 := (hb1.cell (n * 4 + 1)).trans f1
    have c2 := (hb1.cell (n * 4 + 2)).trans f2
    have c3 := (hb1.cell (n * 4 + 3)).trans f3
    have h5 : (n : Int) ≤ 5 := hk.2
    have h6 : (n : Int) < 6 := by omega
    have HK := Lib.hid hkb
    clear hk f0 f1 f2 f3 hb1 hkb
    go_wp2_with (refine wpList_store_made rfl (.tmp 2) (.tmp 21) 69 rfl rfl rfl hb0 shape_size rfl (by simp [Value.oneCell']) ?_; intro w2 hb2 hg2)
    obtain ⟨e1, e2⟩ := HE.out _ _ _ _ _ hg2 hb2
    rw [shapeV_in HK.out, HK.out]
    exact bodyPost_ret (shapeOf_results rfl rfl e2) rfl ⟨rfl, e1⟩
  · have hkb : kindB k = false := by simpa [kindB, withinB] using hk
    have HK := Lib.hid hkb
    clear hkb
    rcases Int.lt_or_le k 0 with h | h
    · clear hk
      go_wp2_with (refine wpList_store_made rfl (.tmp 2) (.tmp 18) 69 rfl rfl rfl hb0 shape_size rfl (by simp [Value.oneCell']) ?_; intro w2 hb2 hg2)
      obtain ⟨e1, e2⟩ := HE.out _ _ _ _ _ hg2 hb2
      rw [shapeV_out HK.out, HK.out]
      exact bodyPost_ret (shapeOf_results rfl rfl e2) rfl ⟨rfl, e1⟩
    · have h5 : 5 < k := by omega
      have h0 : ¬ k < 0 := by omega
      clear hk
      go_wp2_with (refine wpList_store_made rfl (.tmp 2) (.tmp 18) 69 rfl rfl rfl hb0 shape_size rfl (by simp [Value.oneCell']) ?_; intro w2 hb2 hg2)
      obtain ⟨e1, e2⟩ := HE.out _ _ _ _ _ hg2 hb2
      rw [shapeV_out HK.out, HK.out]
      exact bodyPost_ret (shapeOf_results rfl rfl e2) rfl ⟨rfl, e1⟩
end Go.Proofs.Ytacjkkhignjmnaa

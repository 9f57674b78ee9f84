/- graph: isWithin, isNode, shapeOf, hasPay, edges: what each answers. -/
import Derived.Test.YtoklaajiajilhaaDoorGTab
import Derived.Lib.Hide
import Derived.Shelf.Abstract
import Derived.Shelf.RegionOpen
import Derived.OwnWalkIn
import Derived.TacticsInMore
import Derived.LoopNIn
import Derived.LoopIn
import Derived.Outline
import Derived.Deep.CutBlock
import Derived.Laws.CopyRow
import Derived.Laws.Tables
namespace Go.Proofs.YtoklaajiajilhaaDoor
open Go.RowKit Go.Shelf
attribute [local go_sem] Oper.semAt_some

set_option maxHeartbeats 400000 in
theorem within_any (n lo hi : Int) (w : World) :
    Calls Tryd.prog 39 #[.int .i64 n, .int .i64 lo, .int .i64 hi] w fun e w' => e = .returned (.bool (withinB n lo hi)) ∧ w = w' := by
  unfold withinB
  by_cases h : lo ≤ n
  · have h1 : decide (lo ≤ n) = true := by simpa using h
    go_enter Tryd.func39, Tryd.ntmps39
    go_wp2
    go_ret
    exact ⟨by simp [h], rfl⟩
  · have h1 : decide (lo ≤ n) = false := by simpa using h
    go_enter Tryd.func39, Tryd.ntmps39
    go_wp2
    go_ret
    exact ⟨by simp, rfl⟩

set_option maxHeartbeats 400000 in
theorem isNode_any (A : Option Addr) (n c : Nat) (hn : n ≤ 140737488351232) (i : Int) (w : World) :
    Calls Tryd.prog 34 #[.slice A n c, .int .i64 i] w fun e w' => e = .returned (.bool (nodeB n i)) ∧ w = w' := by
  unfold nodeB
  go_enter Tryd.func34, Tryd.ntmps34
  go_wp2_with (go_at_call 39; refine (within_any _ _ _ _).mono ?_; rintro e w' ⟨rfl, rfl⟩)
  go_ret
  exact ⟨rfl, rfl⟩

theorem blk_at {w : World} {H : Nat} (h : w.heap.size = H) (t : TypeId) (cs : Array Value) : Blk (w.alloc (.cells cs t)) H t cs := by subst h; exact Blk.new w t cs
/-- A store of a whole struct or array into a block that is known whole. -/
theorem wpList_store_made {P : Program} {ops : Array Oper} {rest : List Oper} {o : Oper} {a : Act} {w : World} {Q : Exit → Act → World → Prop} {b : Nat} {cs old : Array Value} (hgd : o.guard = none) (x y : Operand) (ty : TypeId) (ho : o.op = .store ty x y)
    (hx : a.eval x = .pointer (some ⟨b, 0, none⟩)) (hy : a.eval y = .agg cs) (hb : Blk w b ty old) (hi : (P.info? ty).map (·.size) = some cs.size) (hs : old.size = cs.size) (h1 : cs.all (·.oneCell') = true)
    (h : ∀ w1, Blk w1 b ty cs → w.grownBy w1 (some b) → wpList P ops Q rest (a.put o.dst undef) w1) : wpList P ops Q (o :: rest) a w :=
  wpList_plain hgd fun _ hK => wp_store_row ty x y ho b cs hx hy ty old hb hi hs h1 (hK _ _ (h _ (setRow_heap w b old cs ty _ hb) ⟨rfl, rfl, rfl, by simp, fun k _ hk => setRow_other w b k cs (fun e => hk (by rw [e]))⟩))

abbrev shCells (a b : Int) (p : Bool) (c : Int) : Array Value := #[.int .i64 a, .int .i64 b, .bool p, .int .i64 c]
abbrev shV (a b : Int) (p : Bool) (c : Int) : Value := .agg #[.int .i64 a, .int .i64 b, .bool p, .int .i64 c]
abbrev shAll : Array Value := #[.int .i64 0, .int .i64 0, .bool false, .int .i64 0, .int .i64 1, .int .i64 1, .bool true, .int .i64 1000, .int .i64 1, .int .i64 1, .bool true, .int .i64 1000, .int .i64 1, .int .i64 8, .bool false, .int .i64 1000, .int .i64 1, .int .i64 8, .bool false, .int .i64 1000, .int .i64 1, .int .i64 1, .bool false, .int .i64 0]
theorem sh_all (k : Nat) (hk : k < 6) : shAll[k * 4]? = some (.int .i64 (leastN k)) ∧ shAll[k * 4 + 1]? = some (.int .i64 (mostN k)) ∧ shAll[k * 4 + 2]? = some (.bool (paysB k)) ∧ shAll[k * 4 + 3]? = some (.int .i64 (mostP k)) := by
  have h : k = 0 ∨ k = 1 ∨ k = 2 ∨ k = 3 ∨ k = 4 ∨ k = 5 := by omega
  rcases h with rfl | rfl | rfl | rfl | rfl | rfl <;> simp [shAll, leastN, mostN, paysB, mostP]
def shapeV (k : Int) : Value := if kindB k then shV (leastN k) (mostN k) (paysB k) (mostP k) else shV 0 0 false 0
theorem shapeV_in {k : Int} (h : kindB k = true) : shapeV k = shV (leastN k) (mostN k) (paysB k) (mostP k) := by simp only [shapeV, h, if_true]
theorem shapeV_out {k : Int} (h : kindB k = false) : shapeV k = shV 0 0 false 0 := by simp [shapeV, h]
end Go.Proofs.YtoklaajiajilhaaDoor

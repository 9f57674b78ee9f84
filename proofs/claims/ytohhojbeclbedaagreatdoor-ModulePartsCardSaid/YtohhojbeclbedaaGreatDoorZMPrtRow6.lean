/- Texts joined for the claim's sake: LebW. -/
import Derived.Test.YtohhojbeclbedaaGreatDoorZMPrtRow5
import Derived.Test.YtohhojbeclbedaaGreatDoorZMPrtRow4
import Derived.RangeFuncNested
import Derived.Lib.Hide
import Derived.RangeFuncBound
import Derived.RangeFuncCalls
import Derived.RangeFuncLeaves
import Derived.RangeFuncBox
import Derived.Shelf.Abstract
import Derived.Shelf.RegionOpen
import Derived.OwnWalkIn
import Derived.TacticsInMore
import Derived.LoopNIn
import Derived.LoopIn
namespace Go.Proofs.YtohhojbeclbedaaGreatDoor
open Go.RowKit Go.Shelf
attribute [local go_sem] Oper.semAt_some

/-- A seven, and whether it is the last one. -/
abbrev Sv := Fin 128 × Bool
def svBytes (p : Sv) : UInt8 := UInt8.ofNat (if p.2 then p.1.val else p.1.val + 128)
abbrev svArgs (p : Sv) : Array Value := #[.int .u8 (p.1.val : Int), .bool p.2]
def pairs (n : Nat) : List Sv := if h : n < 128 then [(⟨n, h⟩, true)] else (⟨n % 128, by omega⟩, false) :: pairs (n / 128)
termination_by n
decreasing_by omega
theorem pairs_lt {n : Nat} (h : n < 128) : pairs n = [(⟨n, h⟩, true)] := by rw [pairs, dif_pos h]
theorem pairs_ge {n : Nat} (h : 128 ≤ n) : pairs n = (⟨n % 128, by omega⟩, false) :: pairs (n / 128) := by rw [pairs, dif_neg (by omega)]
theorem pairs_sev (n : Nat) : (pairs n).map svBytes = sev n := by
  induction n using Nat.strongRecOn with
  | _ n ih =>
    by_cases h : n < 128
    · rw [pairs_lt h, sev_lt h]; simp [svBytes]
    · rw [pairs_ge (by omega), sev_ge (by omega), List.map_cons, ih (n / 128) (by omega)]; simp [svBytes]
theorem pairs_len {n : Nat} (h : n < 18446744073709551616) : (pairs n).length ≤ 10 := by
  have := sev_len10 h
  rw [← pairs_sev, List.length_map] at this
  exact this

set_option maxHeartbeats 400000 in
theorem sevens_any (n : Int) (w : World) :
    Calls Tryz.prog 125 #[.int .u64 n] w fun e w' => e = .returned (.func (.func 172) #[] #[.pointer (some ⟨w.heap.size, 0, none⟩)]) ∧ w' = w.alloc (.cells #[.int .u64 n] 116) := by
  have hmf : ∀ (fn : Fn) (first cap : Array Value) (w : World), (Instr.makeFunc fn first cap).run Tryz.prog w = .ok (.func fn first cap) w := fun _ _ _ _ => rfl
  go_enter Tryz.func125, Tryz.ntmps125
  go_wp2
  go_ret
  exact ⟨rfl, rfl⟩

set_option maxRecDepth 100000 in
set_option maxHeartbeats 1000000 in
/-- The sevens come one by one, the lowest one first, until a round says 'no more'. -/
theorem sevens_in (F : Fence) (k : Nat) (hF : F.fn 172) (hro : F.round = none) (hk : 1 ≤ k) (Bn n : Nat) (hn : n < 18446744073709551616) (w : World) (hB : Bn < w.heap.size) (hc : w.cell? ⟨Bn, 0, none⟩ = some (.int .u64 (n : Int))) :
    SeqStopsK F k Tryz.prog 172 #[.pointer (some ⟨Bn, 0, none⟩)] svArgs (fun _ _ => True) (fun ys => ys = pairs n) (fun pre => pre <+: pairs n) (pairs n).length w := fun l J Jx W hW _ _ hY h0 => by
  have hc1 : W.cell? ⟨Bn, 0, none⟩ = some (.int .u64 (n : Int)) := (hW.cell (p := ⟨Bn, 0, none⟩) hB).trans hc
  clear hc hW
  refine callsIn_of_wp Tryz.func172 rfl hF ?_ hro
  simp only [Tryz.ntmps172, List.size_toArray, List.length_cons, List.length_nil, Nat.reduceAdd, Nat.reduceSub, Array.replicate_succ, Array.replicate_zero, List.push_toArray, List.append_toArray, List.nil_append, List.cons_append]
  gi_wp2
  gi_loopw [3] (fun v wr => ∃ (pre : List Sv) (m : Nat), v = .int .u64 (m : Int) ∧ m ≤ n ∧ pairs n = pre ++ pairs m ∧ J pre wr) (fun v wr => (intOf v).toNat)
  case atStart => exact ⟨[], n, rfl, Nat.le_refl _, rfl, h0⟩
  case round =>
    obtain ⟨pre, m, rfl, hm, hp, hJ⟩ := hrel
    have hm64 : (m : Int) < 18446744073709551616 := by omega
    by_cases hlt : m < 128
    · obtain ⟨x, hx⟩ : ∃ x : Sv, x = (⟨m, hlt⟩, true) := ⟨_, rfl⟩
      have hpe : pairs n = pre ++ [x] := by rw [hp, pairs_lt hlt, hx]
      obtain ⟨fn, tmps, assign, body, hy, hR⟩ := hY pre x wr hJ (by rw [hpe]; simp)
      have hxa : svArgs x = #[.int .u8 (m : Int), .bool true] := by rw [hx]
      rw [hxa] at hy
      have hlt' : (m : Int) < 128 := by omega
      have HP := Lib.hid hpe
      clear hpe hp hm hlt hx hxa
      have hM0 : (0 : Int) ≤ (m : Int) := by omega
      generalize (m : Int) = M at *
      gi_wp2
      refine hR.mono ?_
      rintro e W3 (⟨rfl, hJ3, _⟩ | ⟨rfl, hJ3⟩)
      · gi_wp2
        go_end0
        exact ⟨⟨_, rfl⟩, .inl ⟨_, HP.out.symm, hJ3⟩⟩
      · gi_wp2
        go_end0
        exact ⟨⟨_, rfl⟩, .inr ⟨_, by rw [HP.out]; exact List.prefix_refl _, hJ3⟩⟩
    · have hge : (128 : Int) ≤ (m : Int) := by omega
      have hpe : pairs n = (pre ++ [(⟨m % 128, by omega⟩, false)]) ++ pairs (m / 128) := by rw [hp, pairs_ge (by omega)]; simp
      obtain ⟨x, hx⟩ : ∃ x : Sv, x = (⟨m % 128, by omega⟩, false) := ⟨_, rfl⟩
      rw [← hx] at hpe
      obtain ⟨fn, tmps, assign, body, hy, hR⟩ := hY pre x wr hJ (by rw [hpe]; simp)
      have hxa : svArgs x = #[.int .u8 ((m : Int) % 128), .bool false] := by rw [hx]; simp [svArgs]
      rw [hxa] at hy
      have HP := Lib.hid hpe
      clear hpe hp hlt hx hxa
      gi_wp2
      refine hR.mono ?_
      rintro e W3 (⟨rfl, hJ3, _⟩ | ⟨rfl, hJ3⟩)
      · gi_wp2
        go_roundw
        case rel => exact ⟨_, m / 128, by go_num, by omega, HP.out, hJ3⟩
        case measure => simp [intOf]; omega
      · gi_wp2
        refine bodyPost_ret (results_none rfl _ _ _) rfl ?_
        exact ⟨⟨_, rfl⟩, .inr ⟨_, ⟨_, HP.out.symm⟩, hJ3⟩⟩
end Go.Proofs.YtohhojbeclbedaaGreatDoor

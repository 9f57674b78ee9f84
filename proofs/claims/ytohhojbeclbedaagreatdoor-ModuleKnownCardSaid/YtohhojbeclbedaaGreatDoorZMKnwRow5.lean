/- Texts joined for the claim's sake: LebW, LebP, LebF, IIns, IBck, IForm. -/
import Derived.Test.YtohhojbeclbedaaGreatDoorZMKnwRow4
import Derived.Test.YtohhojbeclbedaaGreatDoorZMKnwRow0
import Derived.RangeFuncNested
import Derived.Lib.Hide
import Derived.RangeFuncBound
import Derived.RangeFuncCalls
import Derived.RangeFuncLeaves
import Derived.RangeFuncBox
import Derived.Shelf.Abstract
import Derived.Shelf.RegionOpen
import Derived.OwnWalkIn
import Derived.TacticsInMore
import Derived.LoopNIn
import Derived.LoopIn
import Derived.Test.YtohhojbeclbedaaGreatDoorZMKnwRow3
namespace Go.Proofs.YtohhojbeclbedaaGreatDoor
open Go.RowKit Go.Shelf
attribute [local go_sem] Oper.semAt_some

/-- A seven, and whether it is the last one. -/
abbrev Sv := Fin 128 × Bool
def svBytes (p : Sv) : UInt8 := UInt8.ofNat (if p.2 then p.1.val else p.1.val + 128)
abbrev svArgs (p : Sv) : Array Value := #[.int .u8 (p.1.val : Int), .bool p.2]
def pairs (n : Nat) : List Sv := if h : n < 128 then [(⟨n, h⟩, true)] else (⟨n % 128, by omega⟩, false) :: pairs (n / 128)
termination_by n
decreasing_by omega
theorem pairs_lt {n : Nat} (h : n < 128) : pairs n = [(⟨n, h⟩, true)] := by rw [pairs, dif_pos h]
theorem pairs_ge {n : Nat} (h : 128 ≤ n) : pairs n = (⟨n % 128, by omega⟩, false) :: pairs (n / 128) := by rw [pairs, dif_neg (by omega)]
theorem pairs_sev (n : Nat) : (pairs n).map svBytes = sev n := by
  induction n using Nat.strongRecOn with
  | _ n ih =>
    by_cases h : n < 128
    · rw [pairs_lt h, sev_lt h]; simp [svBytes]
    · rw [pairs_ge (by omega), sev_ge (by omega), List.map_cons, ih (n / 128) (by omega)]; simp [svBytes]
theorem pairs_len {n : Nat} (h : n < 18446744073709551616) : (pairs n).length ≤ 10 := by
  have := sev_len10 h
  rw [← pairs_sev, List.length_map] at this
  exact this

set_option maxHeartbeats 400000 in
theorem sevens_any (n : Int) (w : World) :
    Calls Tryz.prog 125 #[.int .u64 n] w fun e w' => e = .returned (.func (.func 172) #[] #[.pointer (some ⟨w.heap.size, 0, none⟩)]) ∧ w' = w.alloc (.cells #[.int .u64 n] 116) := by
  have hmf : ∀ (fn : Fn) (first cap : Array Value) (w : World), (Instr.makeFunc fn first cap).run Tryz.prog w = .ok (.func fn first cap) w := fun _ _ _ _ => rfl
  go_enter Tryz.func125, Tryz.ntmps125
  go_wp2
  go_ret
  exact ⟨rfl, rfl⟩

set_option maxRecDepth 100000 in
set_option maxHeartbeats 1000000 in
/-- The sevens come one by one, the lowest one first, until a round says 'no more'. -/
theorem sevens_in (F : Fence) (k : Nat) (hF : F.fn 172) (hro : F.round = none) (hk : 1 ≤ k) (Bn n : Nat) (hn : n < 18446744073709551616) (w : World) (hB : Bn < w.heap.size) (hc : w.cell? ⟨Bn, 0, none⟩ = some (.int .u64 (n : Int))) :
    SeqStopsK F k Tryz.prog 172 #[.pointer (some ⟨Bn, 0, none⟩)] svArgs (fun _ _ => True) (fun ys => ys = pairs n) (fun pre => pre <+: pairs n) (pairs n).length w := fun l J Jx W hW _ _ hY h0 => by
  have hc1 : W.cell? ⟨Bn, 0, none⟩ = some (.int .u64 (n : Int)) := (hW.cell (p := ⟨Bn, 0, none⟩) hB).trans hc
  clear hc hW
  refine callsIn_of_wp Tryz.func172 rfl hF ?_ hro
  simp only [Tryz.ntmps172, List.size_toArray, List.length_cons, List.length_nil, Nat.reduceAdd, Nat.reduceSub, Array.replicate_succ, Array.replicate_zero, List.push_toArray, List.append_toArray, List.nil_append, List.cons_append]
  gi_wp2
  gi_loopw [3] (fun v wr => ∃ (pre : List Sv) (m : Nat), v = .int .u64 (m : Int) ∧ m ≤ n ∧ pairs n = pre ++ pairs m ∧ J pre wr) (fun v wr => (intOf v).toNat)
  case atStart => exact ⟨[], n, rfl, Nat.le_refl _, rfl, h0⟩
  case round =>
    obtain ⟨pre, m, rfl, hm, hp, hJ⟩ := hrel
    have hm64 : (m : Int) < 18446744073709551616 := by omega
    by_cases hlt : m < 128
    · obtain ⟨x, hx⟩ : ∃ x : Sv, x = (⟨m, hlt⟩, true) := ⟨_, rfl⟩
      have hpe : pairs n = pre ++ [x] := by rw [hp, pairs_lt hlt, hx]
      obtain ⟨fn, tmps, assign, body, hy, hR⟩ := hY pre x wr hJ (by rw [hpe]; simp)
      have hxa : svArgs x = #[.int .u8 (m : Int), .bool true] := by rw [hx]
      rw [hxa] at hy
      have hlt' : (m : Int) < 128 := by omega
      have HP := Lib.hid hpe
      clear hpe hp hm hlt hx hxa
      have hM0 : (0 : Int) ≤ (m : Int) := by omega
      generalize (m : Int) = M at *
      gi_wp2
      refine hR.mono ?_
      rintro e W3 (⟨rfl, hJ3, _⟩ | ⟨rfl, hJ3⟩)
      · gi_wp2
        go_end0
        exact ⟨⟨_, rfl⟩, .inl ⟨_, HP.out.symm, hJ3⟩⟩
      · gi_wp2
        go_end0
        exact ⟨⟨_, rfl⟩, .inr ⟨_, by rw [HP.out]; exact List.prefix_refl _, hJ3⟩⟩
    · have hge : (128 : Int) ≤ (m : Int) := by omega
      have hpe : pairs n = (pre ++ [(⟨m % 128, by omega⟩, false)]) ++ pairs (m / 128) := by rw [hp, pairs_ge (by omega)]; simp
      obtain ⟨x, hx⟩ : ∃ x : Sv, x = (⟨m % 128, by omega⟩, false) := ⟨_, rfl⟩
      rw [← hx] at hpe
      obtain ⟨fn, tmps, assign, body, hy, hR⟩ := hY pre x wr hJ (by rw [hpe]; simp)
      have hxa : svArgs x = #[.int .u8 ((m : Int) % 128), .bool false] := by rw [hx]; simp [svArgs]
      rw [hxa] at hy
      have HP := Lib.hid hpe
      clear hpe hp hlt hx hxa
      gi_wp2
      refine hR.mono ?_
      rintro e W3 (⟨rfl, hJ3, _⟩ | ⟨rfl, hJ3⟩)
      · gi_wp2
        go_roundw
        case rel => exact ⟨_, m / 128, by go_num, by omega, HP.out, hJ3⟩
        case measure => simp [intOf]; omega
      · gi_wp2
        refine bodyPost_ret (results_none rfl _ _ _) rfl ?_
        exact ⟨⟨_, rfl⟩, .inr ⟨_, ⟨_, HP.out.symm⟩, hJ3⟩⟩
end Go.Proofs.YtohhojbeclbedaaGreatDoor

namespace Go.Proofs.YtohhojbeclbedaaGreatDoor
open Go.RowKit Go.Shelf
attribute [local go_sem] Oper.semAt_some

theorem Turn.keeps {B g : Nat} {W W' : World} {bs : List UInt8} (ht : Turn (WS B W g) W W') (hw : Wtr B W g bs) : KeepsOthers W W' :=
  ⟨ht.size, fun k o hk ho => by
    refine (ht.block k (Array.getElem?_eq_some_iff.1 hk).1 (fun hs => ?_)).trans hk
    rcases hs with rfl | ⟨_, cs, fr, h2⟩
    · obtain ⟨_, v, hb, _⟩ := hw
      unfold Blk at hb
      rw [hb] at hk
      cases hk
      cases ho
    · rw [h2] at hk
      cases hk
      cases ho⟩
/-- What holds between two sevens. -/
def PI (B g b : Nat) (w : World) (bs : List UInt8) (pre : List Sv) (W : World) : Prop :=
  Wtr B W g (bs ++ pre.map svBytes) ∧ Blk W b 79 #[.pointer (some ⟨g, 0, none⟩)] ∧ Turn (WS B w g) w W
theorem pi_own {B g b B0 : Nat} {w : World} {bs : List UInt8} (hB0 : w.heap.size ≤ B0) : OwnFrom B0 (PI B g b w bs) := by
  rintro pre W W' row ⟨h1, h2, h3⟩ hg hr
  have hcell : ∀ i t cs, Blk W i t cs → some i ≠ row := by
    intro i t cs hb e
    obtain ⟨_, o, ho, hc⟩ := hr i e.symm
    unfold Blk at hb
    rw [hb] at ho
    cases ho
    cases hc
  refine ⟨h1.grown hg ?_ (fun k e hu => ?_), h2.grown hg (hcell _ _ _ h2), h3.grown hg (fun r e => by have := (hr r e).1; omega)⟩
  · obtain ⟨_, v, hb, _⟩ := h1
    exact hcell _ _ _ hb
  · obtain ⟨_, o, ho, hc⟩ := hr k e
    obtain ⟨cs, fr, h⟩ := hu
    rw [h] at ho
    cases ho
    cases hc
theorem pi_next {B g b : Nat} {w W W' : World} {bs : List UInt8} {pre : List Sv} {x : Sv} (h : PI B g b w bs pre W) (hw : Wtr B W' g ((bs ++ pre.map svBytes) ++ [svBytes x])) (ht : Turn (WS B W g) W W') :
    KeepsOthers W W' ∧ True ∧ PI B g b w bs (pre ++ [x]) W' := by
  obtain ⟨h1, h2, h3⟩ := h
  refine ⟨ht.keeps h1, trivial, by rw [List.map_append, ← List.append_assoc]; exact hw, h2.turn ht (fun hs => ?_), h3.trans ht⟩
  rcases hs with rfl | ⟨_, h8⟩
  · obtain ⟨_, v, hb, _⟩ := h1
    exact Blk.ne_ hb h2 (by decide) rfl
  · exact h2.not_u8 (by decide) h8

set_option maxRecDepth 100000 in
set_option maxHeartbeats 2000000 in
theorem putU_any {B g : Nat} {w : World} {bs : List UInt8} (h : Wtr B w g bs) (hB : B ≤ w.heap.size) (n : Nat) (hn : n < 18446744073709551616) (hl : bs.length + 10 ≤ 1099511627776) :
    Calls Tryz.prog 62 #[.pointer (some ⟨g, 0, none⟩), .int .u64 (n : Int)] w fun e w' => e = .returned (.tuple #[]) ∧ Wtr B w' g (bs ++ sev n) ∧ Turn (WS B w g) w w' := by
  have hlen := Lib.hid (pairs_len hn)
  have hn' := Lib.hid hn
  have hl' := Lib.hid hl
  clear hn hl
  refine (callsIn_wide (n := 3)).1 ?_
  refine callsIn_of_wp_marks Tryz.func62 rfl trivial ?_ rfl
  simp only [Tryz.ntmps62, List.size_toArray, List.length_cons, List.length_nil, Nat.reduceAdd, Nat.reduceSub, Array.replicate_succ, Array.replicate_zero, List.push_toArray, List.append_toArray, List.nil_append, List.cons_append]
  gi_wp2_with (refine ⟨trivial, ?_⟩; gi_at_call 125; refine (callsIn_wide.2 (sevens_any _ _)).mono ?_; rintro e w' ⟨rfl, rfl⟩)
  have b0 := Blk.new w 79 #[.pointer (some ⟨g, 0, none⟩)]
  have b1 := b0.alloc (.cells #[.int .u64 (n : Int)] 116)
  have c1 := (Blk.new (w.alloc (.cells #[.pointer (some ⟨g, 0, none⟩)] 79)) 116 #[.int .u64 (n : Int)]).cell 0
  have hg0 : w.grownBy ((w.alloc (.cells #[.pointer (some ⟨g, 0, none⟩)] 79)).alloc (.cells #[.int .u64 (n : Int)] 116)) none := only_alloc (only_alloc (only_refl _ _) _) _
  have hz : (w.alloc (.cells #[.pointer (some ⟨g, 0, none⟩)] 79)).heap.size = w.heap.size + 1 := by simp
  rw [hz] at c1
  have hz2 : ((w.alloc (.cells #[.pointer (some ⟨g, 0, none⟩)] 79)).alloc (.cells #[.int .u64 (n : Int)] 116)).heap.size = w.heap.size + 2 := by simp
  refine wpIn_rangeFunc_ownF rfl (by omega) (gf := 172) (lb := #[.pointer (some ⟨w.heap.size + 1, 0, none⟩)]) rfl trivial (enters_of Tryz.func172 (by kernel_rfl) rfl)
    (sevens_in Fence.wide _ trivial rfl (by omega) (w.heap.size + 1) n hn'.out _ (by rw [hz2]; omega) c1) (fun _ _ => trivial) (fun _ _ _ _ _ _ _ _ => trivial) (Below.refl _ _) (fun _ => rfl)
    (PI B g w.heap.size w bs) (fun _ _ _ => False) (pi_own (by rw [hz2]; omega)) (fun _ _ _ _ _ hs _ _ => hs)
    ⟨by rw [List.map_nil, List.append_nil]; exact h.kept hg0, b1, Turn.none_ hg0⟩
    (fun x => { tmps := #[.pointer (some ⟨g, 0, none⟩), .int .u64 (n : Int), .pointer (some ⟨w.heap.size, 0, none⟩), undef, .int .u8 (x.1.val : Int), .bool x.2, .int .u64 (n : Int), .func (.func 172) #[] #[.pointer (some ⟨w.heap.size + 1, 0, none⟩)], .int .u8 (x.1.val : Int), .bool x.2, undef, undef, undef, undef, undef, undef, undef], defers := [] }) ?assign ?body ?done ?stop
  case assign =>
    intro l x W K hK
    gi_wp2
    exact hK
  case body =>
    rintro l pre x W hI hlt
    have hc := hI.2.1.cell 0
    have hBW : B ≤ W.heap.size := by have := hI.2.2.size; omega
    have hlw : (bs ++ pre.map svBytes).length + 1 ≤ 1099511627776 := by
      have h1 := hlen.out
      have h2 := hl'.out
      rw [List.length_append, List.length_map]; omega
    have HI := Lib.hid hI
    have hw := hI.1
    clear hI
    obtain ⟨d, last⟩ := x
    cases last with
    | true =>
      have hv : (d.val : Int) = ((svBytes (d, true)).toNat : Int) := by
        have := d.isLt
        simp only [svBytes, if_true]
        rw [u8_ofNat (by omega)]
      have HN := Lib.hid (fun (W' : World) (hw' : Wtr B W' g ((bs ++ pre.map svBytes) ++ [svBytes (d, true)])) ht => pi_next HI.out hw' ht)
      have hd0 : (0 : Int) ≤ (d.val : Int) := by omega
      have hd1 : (d.val : Int) < 128 := by have := d.isLt; omega
      generalize svBytes (d, true) = u at *
      dsimp only
      generalize (d.val : Int) = z at *
      have hv' := Lib.hid hv
      clear hv
      gi_wp2_with (refine ⟨trivial, ?_⟩; gi_at_call 61; refine (CallsIn.inRound l (callsIn_wide.2 (wbyte_eq hw hBW u _ hv'.out hlw))).mono ?_; rintro e w1 ⟨rfl, hw1, ht1⟩)
      exact HN.out _ hw1 ht1
    | false =>
      have hv : (d.val : Int) + 128 = ((svBytes (d, false)).toNat : Int) := by
        have := d.isLt
        simp only [svBytes]
        rw [u8_ofNat (by simp; omega)]
        simp
      have HN := Lib.hid (fun (W' : World) (hw' : Wtr B W' g ((bs ++ pre.map svBytes) ++ [svBytes (d, false)])) ht => pi_next HI.out hw' ht)
      have hd0 : (0 : Int) ≤ (d.val : Int) := by omega
      have hd1 : (d.val : Int) < 128 := by have := d.isLt; omega
      generalize svBytes (d, false) = u at *
      dsimp only
      generalize (d.val : Int) = z at *
      have hv' := Lib.hid hv
      clear hv
      gi_wp2_with (refine ⟨trivial, ?_⟩; gi_at_call 61; refine (CallsIn.inRound l (callsIn_wide.2 (wbyte_eq hw hBW u _ hv'.out hlw))).mono ?_; rintro e w1 ⟨rfl, hw1, ht1⟩)
      exact HN.out _ hw1 ht1
  case done =>
    rintro D ys W hD rfl hI hK
    have hO := (pi_own (B := B) (g := g) (b := w.heap.size) (w := w) (bs := bs) (by omega : w.heap.size ≤ w.heap.size + 2)).putObj (.deferred none) hI (by rw [hz2] at hD; exact hD) hK rfl
    obtain ⟨h1, _, h3⟩ := hO
    rw [pairs_sev] at h1
    gi_wp2
    refine ⟨by simp, .inl ⟨_, _, rfl, run_takeDeferred hK, ?_⟩⟩
    exact ⟨_, results_none rfl _ _ _, rfl, h1, h3⟩
  case stop =>
    rintro D c pre W _ _ h _
    exact h.elim

end Go.Proofs.YtohhojbeclbedaaGreatDoor

namespace Go.Proofs.YtohhojbeclbedaaGreatDoor
open Go.RowKit

/-- The fold of a whole number. -/
def foldN (z : Int) : Nat := if 0 ≤ z then 2 * z.toNat else 2 * (-z).toNat - 1
theorem foldN_lt {z : Int} (h : Whole z) : foldN z < 18446744073709551616 := by
  obtain ⟨h1, h2⟩ := h
  unfold foldN
  split <;> omega

def unfoldZ (n : Nat) : Int := if n % 2 = 0 then ((n / 2 : Nat) : Int) else -((n / 2 : Nat) : Int) - 1
theorem unfold_fold {z : Int} : unfoldZ (foldN z) = z := by
  unfold unfoldZ foldN
  split <;> split <;> omega
theorem unfold_whole {n : Nat} (h : n < 18446744073709551616) : Whole (unfoldZ n) := by
  unfold unfoldZ Whole
  split <;> omega

theorem fold_wrap {z : Int} (_ : -9223372036854775808 ≤ z) (_ : z < 0) : IntKind.u64.wrap (IntKind.u64.wrap (2 * IntKind.u64.wrap (-IntKind.u64.wrap z)) - 1) = 2 * (-z) - 1 := by
  simp only [IntKind.wrap_u64]
  omega

set_option maxHeartbeats 1000000 in
theorem fold_any (z : Int) (hz : Whole z) (w : World) :
    Calls Tryz.prog 177 #[.int .i64 z] w fun e w' => e = .returned (.int .u64 (foldN z : Int)) ∧ w.grownBy w' none := by
  obtain ⟨h1, h2⟩ := hz
  by_cases h0 : 0 ≤ z
  · have e : (foldN z : Int) = 2 * z := by unfold foldN; rw [if_pos h0]; omega
    rw [e]
    go_enter Tryz.func177, Tryz.ntmps177
    go_wp2
    go_ret
    exact ⟨rfl, only_refl _ _⟩
  · have e : (foldN z : Int) = 2 * (-z) - 1 := by unfold foldN; rw [if_neg h0]; omega
    have ew := fold_wrap h1 (by omega : z < 0)
    rw [e]
    go_enter Tryz.func177, Tryz.ntmps177
    go_wp2
    go_ret
    exact ⟨by simp, only_refl _ _⟩

set_option maxHeartbeats 1000000 in
theorem unfold_any (n : Nat) (hn : n < 18446744073709551616) (w : World) :
    Calls Tryz.prog 204 #[.int .u64 (n : Int)] w fun e w' => e = .returned (.int .i64 (unfoldZ n)) ∧ w.grownBy w' none := by
  have h0 : (0 : Int) ≤ (n : Int) := by omega
  have h1 : (n : Int) < 18446744073709551616 := by omega
  by_cases hp : n % 2 = 0
  · have e : unfoldZ n = (n : Int) / 2 := by unfold unfoldZ; rw [if_pos hp]; omega
    have t1 : ((n : Int) % 2 == 1) = false := by simp; omega
    rw [e]
    clear e hp
    generalize (n : Int) = m at *
    go_enter Tryz.func204, Tryz.ntmps204
    go_wp2
    go_ret
    exact ⟨rfl, only_refl _ _⟩
  · have e : unfoldZ n = -((n : Int) / 2) - 1 := by unfold unfoldZ; rw [if_neg hp]; omega
    have t1 : ((n : Int) % 2 == 1) = true := by simp; omega
    rw [e]
    clear e hp
    generalize (n : Int) = m at *
    go_enter Tryz.func204, Tryz.ntmps204
    go_wp2
    go_ret
    exact ⟨rfl, only_refl _ _⟩

/-- PutS: the bytes of the fold. -/
theorem putS_any {B g : Nat} {w : World} {bs : List UInt8} (h : Wtr B w g bs) (hB : B ≤ w.heap.size) (z : Int) (hz : Whole z) (hl : bs.length + 10 ≤ 1099511627776) :
    Calls Tryz.prog 135 #[.pointer (some ⟨g, 0, none⟩), .int .i64 z] w fun e w' => e = .returned (.tuple #[]) ∧ Wtr B w' g (bs ++ sev (foldN z)) ∧ Turn (WS B w g) w w' := by
  have H := fold_any z hz
  have H2 := fun (w1 : World) (hg : w.grownBy w1 none) => putU_any (h.kept hg) (Nat.le_trans hB hg.size) (foldN z) (foldN_lt hz) hl
  have HT := Lib.hid (fun (w1 w2 : World) (hg : w.grownBy w1 none) (ht : Turn (WS B w1 g) w1 w2) => Turn.trans (w := w) (Turn.none_ hg) ht)
  clear hz h hB hl
  go_enter Tryz.func135, Tryz.ntmps135
  go_wp2_with fail
  refine (H _).mono ?_
  rintro e w1 ⟨rfl, hg⟩
  go_wp2_with fail
  refine (H2 _ hg).mono ?_
  rintro e w2 ⟨rfl, hw, ht⟩
  go_wp2_with fail
  go_end0
  exact ⟨rfl, hw, HT.out _ _ hg ht⟩
end Go.Proofs.YtohhojbeclbedaaGreatDoor

namespace Go.Proofs.YtohhojbeclbedaaGreatDoor

/-- What stands in an instruction. -/
structure Ins where
  op : Int
  a : Int
  b : Int
  c : Int
  d : Int
  l : List Int
/-- What a number is: the greatest one that may be, and whether it is a register. -/
structure Kd where
  most : Int
  reg : Bool
inductive Fld where
  | A
  | B
  | C
  | D
  | N
  | E (i : Nat)
inductive Kl where
  | no
  | plain
  | push
  | one
  | two
  | jump
  | select
  | branch
  | new_
  | spawn
structure Fm where
  hasA : Bool
  b : Kd
  c : Kd
  d : Kd
  least : Nat
  most : Nat
  each : Kd
def clN : Nat → Kl
  | 0 => .plain
  | 1 => .push
  | 2 => .plain
  | 3 => .plain
  | 4 => .plain
  | 5 => .plain
  | 6 => .plain
  | 7 => .plain
  | 8 => .plain
  | 9 => .one
  | 10 => .one
  | 11 => .jump
  | 12 => .jump
  | 13 => .plain
  | 14 => .one
  | 15 => .one
  | 16 => .two
  | 17 => .two
  | 18 => .select
  | 19 => .branch
  | 20 => .new_
  | 21 => .spawn
  | 22 => .one
  | 23 => .two
  | 24 => .plain
  | _ + 25 => .no
def clI (op : Int) : Kl := if op < 0 then .no else clN op.toNat
def k0 : Kd := ⟨0, false⟩
def kR : Kd := ⟨15, true⟩
def fmOf : Kl → Fm
  | .no => ⟨false, k0, k0, k0, 0, 0, k0⟩
  | .plain => ⟨false, k0, k0, k0, 0, 0, k0⟩
  | .push => ⟨true, k0, k0, k0, 0, 0, k0⟩
  | .one => ⟨false, kR, k0, k0, 0, 0, k0⟩
  | .two => ⟨false, kR, kR, k0, 0, 0, k0⟩
  | .jump => ⟨false, k0, k0, k0, 1, 1, ⟨127, false⟩⟩
  | .select => ⟨false, kR, ⟨7, false⟩, k0, 0, 0, k0⟩
  | .branch => ⟨false, kR, k0, k0, 1, 8, ⟨127, false⟩⟩
  | .new_ => ⟨false, ⟨63, false⟩, k0, ⟨1000, false⟩, 2, 2, kR⟩
  | .spawn => ⟨false, ⟨15, false⟩, k0, k0, 0, 8, kR⟩
/-- The operands ahead of the list. -/
def hdF : Kl → List Fld
  | .no => []
  | .plain => []
  | .push => [.A]
  | .one => [.B]
  | .two => [.B, .C]
  | .jump => []
  | .select => [.B, .C]
  | .branch => [.B, .N]
  | .new_ => [.B, .D]
  | .spawn => [.B, .N]
def els (n : Nat) : List Fld := (List.range n).map .E
def kOf (f : Fm) : Fld → Kd
  | .A => k0
  | .B => f.b
  | .C => f.c
  | .D => f.d
  | .N => ⟨f.most, false⟩
  | .E _ => f.each
def val (x : Ins) : Fld → Int
  | .A => x.a
  | .B => x.b
  | .C => x.c
  | .D => x.d
  | .N => x.l.length
  | .E i => x.l.getD i 0
def isA : Fld → Bool
  | .A => true
  | _ => false
def Kd.is0 (k : Kd) : Bool := k.most == 0 && !k.reg
def coversA (f : Fm) (x : Ins) : Bool :=
  (f.hasA || x.a == 0) && (!f.b.is0 || x.b == 0) && (!f.c.is0 || x.c == 0) && (!f.d.is0 || x.d == 0) && decide (f.least ≤ x.l.length) && decide (x.l.length ≤ f.most)
def inK (z : Int) (k : Kd) : Bool := decide (0 ≤ z) && decide (z ≤ k.most)
/-- One operand, behind the registers rs: is it wrong; which registers are there then. -/
def wrongF (f : Fm) (x : Ins) : List Int → List Fld → Bool
  | _, [] => false
  | rs, k :: r => if isA k then wrongF f x rs r else if inK (val x k) (kOf f k) then (if (kOf f k).reg then (if rs.contains (val x k) then true else wrongF f x (rs ++ [val x k]) r) else wrongF f x rs r) else true
def chkC (c : Kl) (x : Ins) : Int := match c with
  | .no => 11
  | c => if coversA (fmOf c) x && !(wrongF (fmOf c) x [] (hdF c ++ els x.l.length)) then 0 else 2
def chkI (x : Ins) : Int := chkC (clI x.op) x

/-! ### BYTES -/
def fB (x : Ins) (k : Fld) : List UInt8 := if isA k then sev (foldN x.a) else sev (val x k).toNat
def opsB (c : Kl) (x : Ins) : List UInt8 := (hdF c ++ els x.l.length).flatMap (fB x)
def bytesI (x : Ins) : List UInt8 := UInt8.ofNat x.op.toNat :: opsB (clI x.op) x

/-! ### READING -/
/-- What is read from a place on: a value and the place behind it, or a fault, its place, and the place behind what was taken. -/
inductive Rs (α : Type) where
  | ok (v : α) (b : Nat)
  | flt (c : Int) (y : Nat) (b : Nat)
def Rs.bind {α β : Type} (r : Rs α) (f : α → Nat → Rs β) : Rs β := match r with
  | .ok v b => f v b
  | .flt c y b => .flt c y b
theorem Rs.bind_ok {α β : Type} (v : α) (b : Nat) (f : α → Nat → Rs β) : (Rs.ok v b).bind f = f v b := rfl
theorem Rs.bind_is {α β : Type} {r : Rs α} {f : α → Nat → Rs β} {v : β} {b : Nat} (h : r.bind f = .ok v b) : ∃ u a, r = .ok u a ∧ f u a = .ok v b := by
  cases r with
  | ok u a => exact ⟨u, a, rfl, h⟩
  | flt c y b => cases h

/-- How many bytes are taken; none, if they end before. -/
def tk : Nat → List UInt8 → Option Nat
  | 0, _ => none
  | _ + 1, [] => none
  | n + 1, u :: l => if u.toNat < 128 ∨ n = 0 then some 1 else match tk n l with
    | some k => some (k + 1)
    | none => none
def badB (t : List UInt8) : Bool := match t[t.length - 1]? with
  | none => false
  | some u => decide (128 ≤ u.toNat) || (decide (t.length = 10) && decide (1 < u.toNat)) || (decide (1 < t.length) && decide (u.toNat = 0))
def uR (bs : List UInt8) (a : Nat) : Rs Nat := match tk 10 (bs.drop a) with
  | none => .flt 3 bs.length bs.length
  | some k => if badB ((bs.drop a).take k) then .flt 5 a (a + k) else .ok (num ((bs.drop a).take k)) (a + k)
def sR (bs : List UInt8) (a : Nat) : Rs Int := (uR bs a).bind fun n b => .ok (unfoldZ n) b
def smR (bs : List UInt8) (a : Nat) (most : Int) : Rs Int := (uR bs a).bind fun n b => if (n : Int) ≤ most then .ok (n : Int) b else .flt 4 a b
def rdE (most : Int) (bs : List UInt8) : Nat → Nat → Rs (List Int)
  | 0, a => .ok [] a
  | n + 1, a => (smR bs a most).bind fun v b => (rdE most bs n b).bind fun l c => .ok (v :: l) c
def run (f : Fm) (bs : List UInt8) : List Fld → Nat → Ins → Nat → Rs Ins
  | [], n, s, a => (rdE f.each.most bs n a).bind fun l b => .ok { s with l := l } b
  | .A :: r, n, s, a => (sR bs a).bind fun v b => run f bs r n { s with a := v } b
  | .B :: r, n, s, a => (smR bs a f.b.most).bind fun v b => run f bs r n { s with b := v } b
  | .C :: r, n, s, a => (smR bs a f.c.most).bind fun v b => run f bs r n { s with c := v } b
  | .D :: r, n, s, a => (smR bs a f.d.most).bind fun v b => run f bs r n { s with d := v } b
  | .N :: r, _, s, a => (smR bs a f.most).bind fun v b => run f bs r v.toNat s b
  | .E _ :: r, n, s, a => run f bs r n s a
def ins0 (op : Int) : Ins := ⟨op, 0, 0, 0, 0, []⟩
def opsR (c : Kl) (op : Int) (bs : List UInt8) (a : Nat) : Rs Ins := run (fmOf c) bs (hdF c) (fmOf c).most (ins0 op) a
def fin (a : Nat) (r : Rs Ins) : Rs Ins := r.bind fun x b => if chkI x = 0 then .ok x b else .flt (chkI x) a b
def readI (bs : List UInt8) (a : Nat) : Rs Ins := match bs[a]? with
  | none => .flt 3 a a
  | some u => fin a (opsR (clN u.toNat) (u.toNat : Int) bs (a + 1))

/-! ### NUMBERS -/
theorem tk_some : ∀ (n : Nat) (l : List UInt8) (k : Nat), tk n l = some k → 1 ≤ k ∧ k ≤ n ∧ k ≤ l.length ∧ (∀ (j : Nat) (u : UInt8), j + 1 < k → l[j]? = some u → 128 ≤ u.toNat) ∧ (∀ u : UInt8, l[k - 1]? = some u → u.toNat < 128 ∨ k = n) := by
  intro n
  induction n with
  | zero => intro l k h; cases h
  | succ n ih =>
    intro l k h
    cases l with
    | nil => cases h
    | cons u l =>
      rw [tk] at h
      split at h
      · rename_i hc
        injection h with h
        subst h
        refine ⟨by omega, by omega, by simp, fun j v hj => by omega, fun v hv => ?_⟩
        simp at hv
        subst hv
        omega
      · rename_i hc
        split at h
        · rename_i k' hk
          injection h with h
          subst h
          obtain ⟨h1, h2, h3, h4, h5⟩ := ih l k' hk
          refine ⟨by omega, by omega, by simp; omega, fun j v hj hv => ?_, fun v hv => ?_⟩
          · cases j with
            | zero =>
              simp at hv
              subst hv
              omega
            | succ j => exact h4 j v (by omega) (by simpa using hv)
          · have e : k' + 1 - 1 = (k' - 1) + 1 := by omega
            rw [e, List.getElem?_cons_succ] at hv
            have := h5 v hv
            omega
        · cases h
theorem tk_none : ∀ (n : Nat) (l : List UInt8), 1 ≤ n → tk n l = none → l.length < n ∧ ∀ (j : Nat) (u : UInt8), l[j]? = some u → 128 ≤ u.toNat := by
  intro n
  induction n with
  | zero => intro l h; omega
  | succ n ih =>
    intro l _ h
    cases l with
    | nil => exact ⟨by simp, fun j u hu => by simp at hu⟩
    | cons u l =>
      rw [tk] at h
      split at h
      · cases h
      · rename_i hc
        split at h
        · cases h
        · rename_i hk
          obtain ⟨h1, h2⟩ := ih l (by omega) hk
          refine ⟨by simp; omega, fun j v hv => ?_⟩
          cases j with
          | zero =>
            simp at hv
            subst hv
            omega
          | succ j => exact h2 j v (by simpa using hv)
theorem tk_taken {l : List UInt8} {k : Nat} (h : tk 10 l = some k) : Taken l k := by
  obtain ⟨h1, h2, h3, h4, h5⟩ := tk_some 10 l k h
  exact ⟨h1, h2, h3, h4, h5⟩
theorem tk_short {l : List UInt8} (h : tk 10 l = none) : Short l := tk_none 10 l (by omega) h
theorem taken_one {l : List UInt8} {j k : Nat} (h : Taken l j) (h' : Taken l k) (hlt : j < k) : False := by
  have h1 := h'.len
  have hp := h.pos
  have hj : j - 1 < l.length := by omega
  have h3 := h'.high (j - 1) (l[j - 1]) (by omega) (List.getElem?_eq_getElem hj)
  rcases h.last _ (List.getElem?_eq_getElem hj) with h4 | h4
  · omega
  · have := h'.le
    omega
theorem taken_eq {l : List UInt8} {j k : Nat} (h : Taken l j) (h' : Taken l k) : j = k := by
  rcases Nat.lt_trichotomy j k with hl | he | hl
  · exact (taken_one h h' hl).elim
  · exact he
  · exact (taken_one h' h hl).elim
theorem taken_not {l : List UInt8} {k : Nat} (h : Taken l k) (hs : Short l) : False := by
  have h1 := h.len
  have hp := h.pos
  have hj : k - 1 < l.length := by omega
  have h3 := hs.2 (k - 1) _ (List.getElem?_eq_getElem hj)
  rcases h.last _ (List.getElem?_eq_getElem hj) with h4 | h4
  · omega
  · have := hs.1
    omega
theorem tk_of {l : List UInt8} {k : Nat} (h : Taken l k) : tk 10 l = some k := by
  cases e : tk 10 l with
  | none => exact (taken_not h (tk_short e)).elim
  | some j => rw [taken_eq (tk_taken e) h]
theorem tk_ends {l : List UInt8} (h : Short l) : tk 10 l = none := by
  cases e : tk 10 l with
  | none => rfl
  | some j => exact (taken_not (tk_taken e) h).elim
theorem badB_iff (t : List UInt8) : badB t = true ↔ Bad t := by
  unfold badB Bad
  cases e : t[t.length - 1]? with
  | none => simp
  | some u => simp [or_assoc]
theorem uR_ok {bs : List UInt8} {a k : Nat} (h : Taken (bs.drop a) k) (hb : ¬ Bad ((bs.drop a).take k)) : uR bs a = .ok (num ((bs.drop a).take k)) (a + k) := by
  rw [uR, tk_of h]
  exact if_neg (fun h => hb ((badB_iff _).1 h))
theorem uR_bad {bs : List UInt8} {a k : Nat} (h : Taken (bs.drop a) k) (hb : Bad ((bs.drop a).take k)) : uR bs a = .flt 5 a (a + k) := by
  rw [uR, tk_of h]
  exact if_pos ((badB_iff _).2 hb)
theorem uR_short {bs : List UInt8} {a : Nat} (h : Short (bs.drop a)) : uR bs a = .flt 3 bs.length bs.length := by
  rw [uR, tk_ends h]
theorem uR_at {bs rest : List UInt8} {a n : Nat} (hn : n < 18446744073709551616) (he : bs.drop a = sev n ++ rest) : uR bs a = .ok n (a + (sev n).length) := by
  have h1 := taken_sev hn rest
  rw [← he] at h1
  have h2 : (bs.drop a).take (sev n).length = sev n := by rw [he, List.take_left]
  rw [uR_ok h1 (by rw [h2]; exact good_sev hn), h2, num_sev]
theorem uR_is {bs : List UInt8} {a n b : Nat} (h : uR bs a = .ok n b) : n < 18446744073709551616 ∧ b = a + (sev n).length ∧ b ≤ bs.length ∧ bs.drop a = sev n ++ bs.drop b := by
  unfold uR at h
  split at h
  · cases h
  · rename_i k hk
    split at h
    · cases h
    · rename_i hb
      injection h with h1 h2
      have ht := tk_taken hk
      obtain ⟨h3, h4⟩ := sev_of_taken ht (fun h => hb ((badB_iff _).2 h))
      rw [h1] at h3 h4
      have hl := ht.len
      rw [List.length_drop] at hl
      have h5 : (sev n).length = k := by rw [h3, List.length_take, List.length_drop]; omega
      refine ⟨h4, by omega, by have := ht.pos; omega, ?_⟩
      rw [h3, ← h2, ← List.drop_drop, List.take_append_drop]
theorem smR_at {bs rest : List UInt8} {a : Nat} {z most : Int} (h0 : 0 ≤ z) (hm : z ≤ most) (hb : most ≤ 1000) (he : bs.drop a = sev z.toNat ++ rest) : smR bs a most = .ok z (a + (sev z.toNat).length) := by
  rw [smR, uR_at (by omega) he, Rs.bind_ok]
  have : (z.toNat : Int) = z := by omega
  rw [this, if_pos hm]
theorem sR_at {bs rest : List UInt8} {a : Nat} {z : Int} (hz : Whole z) (he : bs.drop a = sev (foldN z) ++ rest) : sR bs a = .ok z (a + (sev (foldN z)).length) := by
  rw [sR, uR_at (foldN_lt hz) he, Rs.bind_ok, unfold_fold]
theorem fold_unfold (n : Nat) : foldN (unfoldZ n) = n := by
  unfold unfoldZ foldN
  split <;> split <;> omega
theorem smR_is {bs : List UInt8} {a b : Nat} {z most : Int} (h : smR bs a most = .ok z b) : 0 ≤ z ∧ z ≤ most ∧ b = a + (sev z.toNat).length ∧ b ≤ bs.length ∧ bs.drop a = sev z.toNat ++ bs.drop b := by
  obtain ⟨n, c, h1, h2⟩ := Rs.bind_is h
  split at h2
  · rename_i hm
    injection h2 with h3 h4
    subst h3 h4
    obtain ⟨_, h5, h6, h7⟩ := uR_is h1
    exact ⟨by omega, hm, by simpa using h5, h6, by simpa using h7⟩
  · cases h2
theorem sR_is {bs : List UInt8} {a b : Nat} {z : Int} (h : sR bs a = .ok z b) : Whole z ∧ b = a + (sev (foldN z)).length ∧ b ≤ bs.length ∧ bs.drop a = sev (foldN z) ++ bs.drop b := by
  obtain ⟨n, c, h1, h2⟩ := Rs.bind_is h
  injection h2 with h3 h4
  subst h3 h4
  obtain ⟨h0, h5, h6, h7⟩ := uR_is h1
  exact ⟨unfold_whole h0, by rw [fold_unfold]; exact h5, h6, by rw [fold_unfold]; exact h7⟩
end Go.Proofs.YtohhojbeclbedaaGreatDoor

namespace Go.Proofs.YtohhojbeclbedaaGreatDoor

theorem drop_next {bs x y : List UInt8} {a : Nat} (h : bs.drop a = x ++ y) : bs.drop (a + x.length) = y := by
  rw [← List.drop_drop, h, List.drop_left]
def sevZ (z : Int) : List UInt8 := sev z.toNat
theorem list_getD (l : List Int) : l = (List.range l.length).map (fun i => l.getD i 0) := by
  refine List.ext_getElem (by simp) (fun i h1 h2 => ?_)
  simp [List.getD_eq_getElem?_getD, h1]
theorem els_flat (x : Ins) : (els x.l.length).flatMap (fB x) = x.l.flatMap sevZ := by
  have h : ∀ r : List Nat, (r.map Fld.E).flatMap (fB x) = (r.map (fun i => x.l.getD i 0)).flatMap sevZ := by
    intro r
    induction r with
    | nil => rfl
    | cons i r ih => rw [List.map_cons, List.map_cons, List.flatMap_cons, List.flatMap_cons, ih]; rfl
  unfold els
  rw [h, ← list_getD]
theorem opsB_eq (c : Kl) (x : Ins) : opsB c x = (hdF c).flatMap (fB x) ++ x.l.flatMap sevZ := by
  unfold opsB
  rw [List.flatMap_append, els_flat]
theorem inK_iff {z : Int} {k : Kd} : inK z k = true ↔ 0 ≤ z ∧ z ≤ k.most := by simp [inK]
theorem rdE_at {most : Int} (hb : most ≤ 1000) {bs : List UInt8} : ∀ (l : List Int) (a : Nat) (rest : List UInt8), (∀ z ∈ l, 0 ≤ z ∧ z ≤ most) → bs.drop a = l.flatMap sevZ ++ rest → rdE most bs l.length a = .ok l (a + (l.flatMap sevZ).length) := by
  intro l
  induction l with
  | nil => intro a rest _ _; rfl
  | cons z l ih =>
    intro a rest hz he
    rw [List.flatMap_cons, List.append_assoc] at he
    obtain ⟨h0, h1⟩ := hz z (List.mem_cons_self)
    have e1 : smR bs a most = .ok z (a + (sevZ z).length) := smR_at h0 h1 hb he
    rw [List.length_cons, rdE, e1, Rs.bind_ok, ih _ rest (fun z h => hz z (List.mem_cons_of_mem _ h)) (drop_next he), Rs.bind_ok, List.flatMap_cons, List.length_append, Nat.add_assoc]
theorem rdE_is {most : Int} {bs : List UInt8} : ∀ (n a : Nat) (l : List Int) (b : Nat), a ≤ bs.length → rdE most bs n a = .ok l b → l.length = n ∧ (∀ z ∈ l, 0 ≤ z ∧ z ≤ most) ∧ b = a + (l.flatMap sevZ).length ∧ b ≤ bs.length ∧ bs.drop a = l.flatMap sevZ ++ bs.drop b := by
  intro n
  induction n with
  | zero =>
    intro a l b ha h
    injection h with h1 h2
    subst h1 h2
    exact ⟨rfl, by simp, by simp, ha, by simp⟩
  | succ n ih =>
    intro a l b ha h
    obtain ⟨v, c, h1, h2⟩ := Rs.bind_is h
    obtain ⟨l', d, h3, h4⟩ := Rs.bind_is h2
    injection h4 with h4 h5
    subst h4 h5
    obtain ⟨k0, k1, k2, k3, k4⟩ := smR_is h1
    obtain ⟨m1, m2, m3, m4, m5⟩ := ih c l' d k3 h3
    refine ⟨by rw [List.length_cons, m1], fun z hz => ?_, ?_, m4, ?_⟩
    · rcases List.mem_cons.1 hz with rfl | hz
      · exact ⟨k0, k1⟩
      · exact m2 z hz
    · rw [List.flatMap_cons, List.length_append, m3, k2, Nat.add_assoc]; rfl
    · rw [List.flatMap_cons, List.append_assoc, ← m5]; exact k4

def setFl (x s : Ins) : Fld → Ins
  | .A => { s with a := x.a }
  | .B => { s with b := x.b }
  | .C => { s with c := x.c }
  | .D => { s with d := x.d }
  | .N => s
  | .E _ => s
def notE : Fld → Bool
  | .E _ => false
  | _ => true
/-- What is asked of operands that may be. -/
def GoodL (f : Fm) (x : Ins) (td : List Fld) : Prop := ∀ k ∈ td, notE k = true ∧ (isA k = true ∨ (0 ≤ val x k ∧ val x k ≤ (kOf f k).most))

theorem run_at {f : Fm} (hf : ∀ k, (kOf f k).most ≤ 1000) {x : Ins} (ha : Whole x.a) (he : ∀ z ∈ x.l, 0 ≤ z ∧ z ≤ f.each.most) {bs : List UInt8} : ∀ (td : List Fld) (n : Nat) (s : Ins) (a : Nat) (rest : List UInt8), GoodL f x td → (n = x.l.length ∨ Fld.N ∈ td) →
    bs.drop a = td.flatMap (fB x) ++ (x.l.flatMap sevZ ++ rest) → run f bs td n s a = .ok { td.foldl (setFl x) s with l := x.l } (a + (td.flatMap (fB x) ++ x.l.flatMap sevZ).length) := by
  intro td
  induction td with
  | nil =>
    intro n s a rest _ hn hd
    rcases hn with rfl | hn
    · have e := rdE_at (hf (.E 0)) x.l a rest he hd
      show (rdE f.each.most bs x.l.length a).bind _ = _
      rw [show f.each.most = (kOf f (.E 0)).most from rfl, e, Rs.bind_ok]
      rfl
    · simp at hn
  | cons k r ih =>
    intro n s a rest hg hn hd
    obtain ⟨hk1, hk2⟩ := hg k (List.mem_cons_self)
    have hg' : GoodL f x r := fun k h => hg k (List.mem_cons_of_mem _ h)
    rw [List.flatMap_cons, List.append_assoc] at hd
    have hnx := drop_next hd
    have hlen : ∀ b, b = a + (fB x k).length → (b + (r.flatMap (fB x) ++ x.l.flatMap sevZ).length) = a + ((k :: r).flatMap (fB x) ++ x.l.flatMap sevZ).length := by
      intro b hb
      rw [List.flatMap_cons]; simp only [List.length_append]; omega
    cases k with
    | A =>
      have hn' : n = x.l.length ∨ Fld.N ∈ r := by simpa using hn
      have e1 : sR bs a = .ok x.a (a + (fB x .A).length) := sR_at ha hd
      rw [run, e1, Rs.bind_ok, ih n _ _ rest hg' hn' hnx, hlen _ rfl]
      rfl
    | B =>
      have hn' : n = x.l.length ∨ Fld.N ∈ r := by simpa using hn
      have h2 := hk2.resolve_left (by simp [isA])
      have e1 : smR bs a f.b.most = .ok x.b (a + (fB x .B).length) := smR_at h2.1 h2.2 (hf .B) hd
      rw [run, e1, Rs.bind_ok, ih n _ _ rest hg' hn' hnx, hlen _ rfl]
      rfl
    | C =>
      have hn' : n = x.l.length ∨ Fld.N ∈ r := by simpa using hn
      have h2 := hk2.resolve_left (by simp [isA])
      have e1 : smR bs a f.c.most = .ok x.c (a + (fB x .C).length) := smR_at h2.1 h2.2 (hf .C) hd
      rw [run, e1, Rs.bind_ok, ih n _ _ rest hg' hn' hnx, hlen _ rfl]
      rfl
    | D =>
      have hn' : n = x.l.length ∨ Fld.N ∈ r := by simpa using hn
      have h2 := hk2.resolve_left (by simp [isA])
      have e1 : smR bs a f.d.most = .ok x.d (a + (fB x .D).length) := smR_at h2.1 h2.2 (hf .D) hd
      rw [run, e1, Rs.bind_ok, ih n _ _ rest hg' hn' hnx, hlen _ rfl]
      rfl
    | N =>
      have h2 := hk2.resolve_left (by simp [isA])
      have e1 : smR bs a f.most = .ok (x.l.length : Int) (a + (fB x .N).length) := smR_at h2.1 h2.2 (hf .N) hd
      rw [run, e1, Rs.bind_ok, ih _ _ _ rest hg' (.inl (by simp)) hnx, hlen _ rfl]
      rfl
    | E i => cases hk1
/-! ### WHAT MAY BE -/
theorem wrongF_in {f : Fm} {x : Ins} : ∀ (td : List Fld) (rs : List Int), wrongF f x rs td = false → ∀ k ∈ td, isA k = true ∨ (0 ≤ val x k ∧ val x k ≤ (kOf f k).most) := by
  intro td
  induction td with
  | nil => intro rs _ k hk; simp at hk
  | cons u r ih =>
    intro rs h k hk
    rw [wrongF] at h
    have hu : (isA u = true ∨ (0 ≤ val x u ∧ val x u ≤ (kOf f u).most)) ∧ ∃ rs', wrongF f x rs' r = false := by
      split at h
      · rename_i h1
        exact ⟨.inl h1, _, h⟩
      · split at h
        · rename_i h2
          refine ⟨.inr (inK_iff.1 h2), ?_⟩
          split at h
          · split at h
            · cases h
            · exact ⟨_, h⟩
          · exact ⟨_, h⟩
        · cases h
    rcases List.mem_cons.1 hk with rfl | hk
    · exact hu.1
    · obtain ⟨rs', h'⟩ := hu.2
      exact ih rs' h' k hk
structure May (c : Kl) (x : Ins) : Prop where
  ne : c ≠ .no
  cov : coversA (fmOf c) x = true
  in_ : ∀ k ∈ hdF c ++ els x.l.length, isA k = true ∨ (0 ≤ val x k ∧ val x k ≤ (kOf (fmOf c) k).most)
theorem may_of {c : Kl} {x : Ins} (h : chkC c x = 0) : May c x := by
  have H : ∀ c, c ≠ Kl.no → (if coversA (fmOf c) x && !(wrongF (fmOf c) x [] (hdF c ++ els x.l.length)) then (0 : Int) else 2) = 0 → May c x := by
    intro c hc h
    split at h
    · rename_i h1
      simp only [Bool.and_eq_true, Bool.not_eq_true'] at h1
      exact ⟨hc, h1.1, wrongF_in _ _ h1.2⟩
    · cases h
  cases c
  case no => simp [chkC] at h
  all_goals exact H _ (by simp) h
theorem May.els_ {c : Kl} {x : Ins} (h : May c x) : ∀ z ∈ x.l, 0 ≤ z ∧ z ≤ (fmOf c).each.most := by
  intro z hz
  obtain ⟨i, hi, rfl⟩ := List.getElem_of_mem hz
  have hm : Fld.E i ∈ hdF c ++ els x.l.length := List.mem_append_right _ (List.mem_map.2 ⟨i, List.mem_range.2 hi, rfl⟩)
  have h2 := (h.in_ _ hm).resolve_left (by simp [isA])
  have e : val x (.E i) = x.l[i] := by simp [val, List.getD_eq_getElem?_getD, hi]
  rw [e] at h2
  exact h2
theorem May.good {c : Kl} {x : Ins} (h : May c x) : GoodL (fmOf c) x (hdF c) := by
  intro k hk
  refine ⟨?_, h.in_ k (List.mem_append_left _ hk)⟩
  revert k
  cases c <;> simp [hdF, notE]
theorem kOf_le (c : Kl) (k : Fld) : (kOf (fmOf c) k).most ≤ 1000 := by
  cases c <;> cases k <;> simp [kOf, fmOf, k0, kR]
theorem May.parts {c : Kl} {x : Ins} (h : May c x) : ((fmOf c).hasA = true ∨ x.a = 0) ∧ ((fmOf c).b.is0 = false ∨ x.b = 0) ∧ ((fmOf c).c.is0 = false ∨ x.c = 0) ∧ ((fmOf c).d.is0 = false ∨ x.d = 0) ∧ (fmOf c).least ≤ x.l.length ∧ x.l.length ≤ (fmOf c).most := by
  have := h.cov
  simp [coversA, and_assoc] at this
  exact this
theorem May.count {c : Kl} {x : Ins} (h : May c x) : (fmOf c).most = x.l.length ∨ Fld.N ∈ hdF c := by
  obtain ⟨_, _, _, _, h1, h2⟩ := h.parts
  cases c <;> simp [fmOf, hdF] at h1 h2 ⊢ <;> first | omega | (rw [h2]; rfl)
theorem May.whole {c : Kl} {x : Ins} (h : May c x) : { (hdF c).foldl (setFl x) (ins0 x.op) with l := x.l } = x := by
  obtain ⟨op, a, b, cc, d, l⟩ := x
  obtain ⟨h1, h2, h3, h4, _, _⟩ := h.parts
  cases c <;> simp [fmOf, k0, kR, Kd.is0] at h1 h2 h3 h4 <;> simp [hdF, setFl, ins0, *]
theorem opsR_at {c : Kl} {x : Ins} (h : May c x) (ha : Whole x.a) {bs rest : List UInt8} {a : Nat} (hd : bs.drop a = opsB c x ++ rest) : opsR c x.op bs a = .ok x (a + (opsB c x).length) := by
  rw [opsB_eq, List.append_assoc] at hd
  unfold opsR
  rw [run_at (kOf_le c) ha h.els_ (hdF c) _ (ins0 x.op) a rest h.good h.count hd, h.whole, opsB_eq]
theorem chkI_op {x : Ins} (h : chkI x = 0) : 0 ≤ x.op ∧ x.op ≤ 24 ∧ clN x.op.toNat = clI x.op ∧ (UInt8.ofNat x.op.toNat).toNat = x.op.toNat := by
  have hm := (may_of h).ne
  unfold clI at hm
  split at hm
  · exact absurd rfl hm
  · rename_i h0
    have h24 : x.op.toNat ≤ 24 := by
      rcases Nat.lt_or_ge 24 x.op.toNat with hlt | hge
      · exfalso
        apply hm
        obtain ⟨m, hmm⟩ : ∃ m, x.op.toNat = m + 25 := ⟨x.op.toNat - 25, by omega⟩
        rw [hmm, clN]
      · exact hge
    refine ⟨by omega, by omega, ?_, u8_ofNat (by omega)⟩
    unfold clI
    rw [if_neg h0]
/-- What was laid is read back. -/
theorem readI_at {x : Ins} (h : chkI x = 0) (ha : Whole x.a) {bs rest : List UInt8} {a : Nat} (hd : bs.drop a = bytesI x ++ rest) : readI bs a = .ok x (a + (bytesI x).length) := by
  obtain ⟨h0, h1, h2, h3⟩ := chkI_op h
  have hb : bs[a]? = some (UInt8.ofNat x.op.toNat) := by
    have : (bs.drop a)[0]? = some (UInt8.ofNat x.op.toNat) := by rw [hd]; rfl
    rwa [List.getElem?_drop] at this
  have hd2 : bs.drop (a + 1) = opsB (clI x.op) x ++ rest := drop_next (x := [UInt8.ofNat x.op.toNat]) hd
  have ho : ((x.op.toNat : Nat) : Int) = x.op := by omega
  have e := opsR_at (may_of h) ha hd2
  unfold readI
  rw [hb]
  show fin a (opsR (clN (UInt8.ofNat x.op.toNat).toNat) ((UInt8.ofNat x.op.toNat).toNat : Int) bs (a + 1)) = _
  rw [h3, h2, ho, e]
  unfold fin
  rw [Rs.bind_ok, if_pos h]
  unfold bytesI
  rw [List.length_cons, Nat.add_assoc, Nat.add_comm 1]
/-- What is read is what is laid. -/
theorem opsR_is {c : Kl} {op : Int} {bs : List UInt8} {a b : Nat} {y : Ins} (ha : a ≤ bs.length) (h : opsR c op bs a = .ok y b) : y.op = op ∧ Whole y.a ∧ b = a + (opsB c y).length ∧ b ≤ bs.length ∧ bs.drop a = opsB c y ++ bs.drop b := by
  have w0 : Whole 0 := ⟨by decide, by decide⟩
  rw [opsB_eq]
  unfold opsR at h
  have H0 : ∀ (n : Nat) (s : Ins) (a b : Nat) (most : Int), a ≤ bs.length → ((rdE most bs n a).bind fun l b => Rs.ok { s with l := l } b) = Rs.ok y b → ∃ l, y = { s with l := l } ∧ l.length = n ∧ b = a + (l.flatMap sevZ).length ∧ b ≤ bs.length ∧ bs.drop a = l.flatMap sevZ ++ bs.drop b := by
    intro n s a b most ha h
    obtain ⟨l, b', h1, h2⟩ := Rs.bind_is h
    injection h2 with h2 h3
    subst h2 h3
    obtain ⟨k1, _, k3, k4, k5⟩ := rdE_is n a l b' ha h1
    exact ⟨l, rfl, k1, k3, k4, k5⟩
  have HC : ∀ (x r : List UInt8) (b c : Nat), b = a + x.length → bs.drop a = x ++ bs.drop b → c = b + r.length → bs.drop b = r ++ bs.drop c → c = a + (x ++ r).length ∧ bs.drop a = (x ++ r) ++ bs.drop c := by
    intro x r b c h1 h2 h3 h4
    refine ⟨by rw [List.length_append]; omega, by rw [h2, h4, List.append_assoc]⟩
  cases c with
  | no =>
    obtain ⟨l, rfl, h1, h2, h3, h4⟩ := H0 _ _ _ _ _ ha h
    exact ⟨rfl, w0, h2, h3, h4⟩
  | plain =>
    obtain ⟨l, rfl, h1, h2, h3, h4⟩ := H0 _ _ _ _ _ ha h
    exact ⟨rfl, w0, h2, h3, h4⟩
  | jump =>
    obtain ⟨l, rfl, h1, h2, h3, h4⟩ := H0 _ _ _ _ _ ha h
    exact ⟨rfl, w0, h2, h3, h4⟩
  | push =>
    obtain ⟨v, b1, h1, h2⟩ := Rs.bind_is h
    obtain ⟨l, rfl, k1, k2, k3, k4⟩ := H0 _ _ _ _ _ (sR_is h1).2.2.1 h2
    obtain ⟨m0, m1, m2, m3⟩ := sR_is h1
    obtain ⟨n1, n2⟩ := HC _ _ _ _ m1 m3 k2 k4
    exact ⟨rfl, m0, by simpa [hdF, fB, isA] using n1, k3, by simpa [hdF, fB, isA] using n2⟩
  | one =>
    obtain ⟨v, b1, h1, h2⟩ := Rs.bind_is h
    obtain ⟨m0, m1, m2, m3, m4⟩ := smR_is h1
    obtain ⟨l, rfl, k1, k2, k3, k4⟩ := H0 _ _ _ _ _ m3 h2
    obtain ⟨n1, n2⟩ := HC _ _ _ _ m2 m4 k2 k4
    exact ⟨rfl, w0, by simpa [hdF, fB, isA, val] using n1, k3, by simpa [hdF, fB, isA, val] using n2⟩
  | two =>
    obtain ⟨v, b1, h1, h2⟩ := Rs.bind_is h
    obtain ⟨m0, m1, m2, m3, m4⟩ := smR_is h1
    obtain ⟨v', b2, h3, h4⟩ := Rs.bind_is h2
    obtain ⟨q0, q1, q2, q3, q4⟩ := smR_is h3
    obtain ⟨l, rfl, k1, k2, k3, k4⟩ := H0 _ _ _ _ _ q3 h4
    obtain ⟨p1, p2⟩ := HC _ _ _ _ m2 m4 q2 q4
    obtain ⟨n1, n2⟩ := HC _ _ _ _ p1 p2 k2 k4
    exact ⟨rfl, w0, by simpa [hdF, fB, isA, val] using n1, k3, by simpa [hdF, fB, isA, val] using n2⟩
  | select =>
    obtain ⟨v, b1, h1, h2⟩ := Rs.bind_is h
    obtain ⟨m0, m1, m2, m3, m4⟩ := smR_is h1
    obtain ⟨v', b2, h3, h4⟩ := Rs.bind_is h2
    obtain ⟨q0, q1, q2, q3, q4⟩ := smR_is h3
    obtain ⟨l, rfl, k1, k2, k3, k4⟩ := H0 _ _ _ _ _ q3 h4
    obtain ⟨p1, p2⟩ := HC _ _ _ _ m2 m4 q2 q4
    obtain ⟨n1, n2⟩ := HC _ _ _ _ p1 p2 k2 k4
    exact ⟨rfl, w0, by simpa [hdF, fB, isA, val] using n1, k3, by simpa [hdF, fB, isA, val] using n2⟩
  | new_ =>
    obtain ⟨v, b1, h1, h2⟩ := Rs.bind_is h
    obtain ⟨m0, m1, m2, m3, m4⟩ := smR_is h1
    obtain ⟨v', b2, h3, h4⟩ := Rs.bind_is h2
    obtain ⟨q0, q1, q2, q3, q4⟩ := smR_is h3
    obtain ⟨l, rfl, k1, k2, k3, k4⟩ := H0 _ _ _ _ _ q3 h4
    obtain ⟨p1, p2⟩ := HC _ _ _ _ m2 m4 q2 q4
    obtain ⟨n1, n2⟩ := HC _ _ _ _ p1 p2 k2 k4
    exact ⟨rfl, w0, by simpa [hdF, fB, isA, val] using n1, k3, by simpa [hdF, fB, isA, val] using n2⟩
  | branch =>
    obtain ⟨v, b1, h1, h2⟩ := Rs.bind_is h
    obtain ⟨m0, m1, m2, m3, m4⟩ := smR_is h1
    obtain ⟨v', b2, h3, h4⟩ := Rs.bind_is h2
    obtain ⟨q0, q1, q2, q3, q4⟩ := smR_is h3
    obtain ⟨l, rfl, k1, k2, k3, k4⟩ := H0 _ _ _ _ _ q3 h4
    obtain ⟨p1, p2⟩ := HC _ _ _ _ m2 m4 q2 q4
    obtain ⟨n1, n2⟩ := HC _ _ _ _ p1 p2 k2 k4
    have hv : max v' 0 = v' := by omega
    exact ⟨rfl, w0, by simpa [hdF, fB, isA, val, k1, hv] using n1, k3, by simpa [hdF, fB, isA, val, k1, hv] using n2⟩
  | spawn =>
    obtain ⟨v, b1, h1, h2⟩ := Rs.bind_is h
    obtain ⟨m0, m1, m2, m3, m4⟩ := smR_is h1
    obtain ⟨v', b2, h3, h4⟩ := Rs.bind_is h2
    obtain ⟨q0, q1, q2, q3, q4⟩ := smR_is h3
    obtain ⟨l, rfl, k1, k2, k3, k4⟩ := H0 _ _ _ _ _ q3 h4
    obtain ⟨p1, p2⟩ := HC _ _ _ _ m2 m4 q2 q4
    obtain ⟨n1, n2⟩ := HC _ _ _ _ p1 p2 k2 k4
    have hv : max v' 0 = v' := by omega
    exact ⟨rfl, w0, by simpa [hdF, fB, isA, val, k1, hv] using n1, k3, by simpa [hdF, fB, isA, val, k1, hv] using n2⟩
theorem readI_is {bs : List UInt8} {a b : Nat} {y : Ins} (h : readI bs a = .ok y b) : chkI y = 0 ∧ Whole y.a ∧ b = a + (bytesI y).length ∧ b ≤ bs.length ∧ bs.drop a = bytesI y ++ bs.drop b := by
  unfold readI at h
  split at h
  · cases h
  · rename_i u hu
    obtain ⟨hlt, he⟩ := List.getElem?_eq_some_iff.1 hu
    unfold fin at h
    obtain ⟨x, c, h1, h2⟩ := Rs.bind_is h
    split at h2
    · rename_i h0
      injection h2 with h3 h4
      subst h3 h4
      obtain ⟨k1, k2, k3, k4, k5⟩ := opsR_is (by omega) h1
      have hc : clI x.op = clN u.toNat := by
        unfold clI
        rw [k1, if_neg (by omega)]
        rfl
      have hb : bytesI x = u :: opsB (clN u.toNat) x := by
        unfold bytesI
        rw [hc, k1]
        simp
      rw [hb, List.length_cons]
      refine ⟨h0, k2, by omega, k4, ?_⟩
      rw [List.cons_append, ← k5, ← he]
      exact List.drop_eq_getElem_cons hlt
    · cases h2
end Go.Proofs.YtohhojbeclbedaaGreatDoor

namespace Go.Proofs.YtohhojbeclbedaaGreatDoor
open Go.RowKit

/-- A form, in cells. -/
def fmC (f : Fm) : Array Value := #[.bool f.hasA, .int .i64 f.b.most, .bool f.b.reg, .int .i64 f.c.most, .bool f.c.reg, .int .i64 f.d.most, .bool f.d.reg, .int .i64 (f.least : Int), .int .i64 (f.most : Int), .int .i64 f.each.most, .bool f.each.reg]
def isOp (c : Kl) : Bool := match c with
  | .no => false
  | _ => true
def FormIs (c : Kl) (w : World) (e : Ending) (w' : World) : Prop := e = .returned (.tuple #[.agg (fmC (fmOf c)), .bool (isOp c)]) ∧ w.grownBy w' none

theorem form_res {tmps : Array Value} {W : World} {b : Nat} {f : Fm} {q : Bool} (h2 : tmps.getD 2 undef = .pointer (some ⟨b, 0, none⟩)) (h3 : tmps.getD 3 undef = .bool q) (hb : Blk W b 253 (fmC f)) :
    (results Tryz.f173 tmps).run Tryz.prog W = .ok (.tuple #[.agg (fmC f), .bool q]) W := by
  have h2' : tmps[2]?.getD undef = .pointer (some ⟨b, 0, none⟩) := by simpa using h2
  have h3' : tmps[3]?.getD undef = .bool q := by simpa using h3
  have c0 := hb.cell 0
  have c1 := hb.cell 1
  have c2 := hb.cell 2
  have c3 := hb.cell 3
  have c4 := hb.cell 4
  have c5 := hb.cell 5
  have c6 := hb.cell 6
  have c7 := hb.cell 7
  have c8 := hb.cell 8
  have c9 := hb.cell 9
  have c10 := hb.cell 10
  clear hb
  simp only [fmC, List.getElem?_toArray] at c0 c1 c2 c3 c4 c5 c6 c7 c8 c9 c10
  simp [results, Tryz.results173, h2', h3', go_sem, c0, c1, c2, c3, c4, c5, c6, c7, c8, c9, c10, fmC]

end Go.Proofs.YtohhojbeclbedaaGreatDoor

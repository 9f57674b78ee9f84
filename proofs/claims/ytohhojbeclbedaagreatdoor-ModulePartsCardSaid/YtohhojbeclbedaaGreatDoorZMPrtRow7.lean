/- Texts joined for the claim's sake: LebP, LebF, IIns, IBck, IForm. -/
import Derived.Test.YtohhojbeclbedaaGreatDoorZMPrtRow6
import Derived.Test.YtohhojbeclbedaaGreatDoorZMPrtRow0
import Derived.Test.YtohhojbeclbedaaGreatDoorZMPrtRow4
namespace Go.Proofs.YtohhojbeclbedaaGreatDoor
open Go.RowKit Go.Shelf
attribute [local go_sem] Oper.semAt_some

theorem Turn.keeps {B g : Nat} {W W' : World} {bs : List UInt8} (ht : Turn (WS B W g) W W') (hw : Wtr B W g bs) : KeepsOthers W W' :=
  ⟨ht.size, fun k o hk ho => by
    refine (ht.block k (Array.getElem?_eq_some_iff.1 hk).1 (fun hs => ?_)).trans hk
    rcases hs with rfl | ⟨_, cs, fr, h2⟩
    · obtain ⟨_, v, hb, _⟩ := hw
      unfold Blk at hb
      rw [hb] at hk
      cases hk
      cases ho
    · rw [h2] at hk
      cases hk
      cases ho⟩
/-- What holds between two sevens. -/
def PI (B g b : Nat) (w : World) (bs : List UInt8) (pre : List Sv) (W : World) : Prop :=
  Wtr B W g (bs ++ pre.map svBytes) ∧ Blk W b 79 #[.pointer (some ⟨g, 0, none⟩)] ∧ Turn (WS B w g) w W
theorem pi_own {B g b B0 : Nat} {w : World} {bs : List UInt8} (hB0 : w.heap.size ≤ B0) : OwnFrom B0 (PI B g b w bs) := by
  rintro pre W W' row ⟨h1, h2, h3⟩ hg hr
  have hcell : ∀ i t cs, Blk W i t cs → some i ≠ row := by
    intro i t cs hb e
    obtain ⟨_, o, ho, hc⟩ := hr i e.symm
    unfold Blk at hb
    rw [hb] at ho
    cases ho
    cases hc
  refine ⟨h1.grown hg ?_ (fun k e hu => ?_), h2.grown hg (hcell _ _ _ h2), h3.grown hg (fun r e => by have := (hr r e).1; omega)⟩
  · obtain ⟨_, v, hb, _⟩ := h1
    exact hcell _ _ _ hb
  · obtain ⟨_, o, ho, hc⟩ := hr k e
    obtain ⟨cs, fr, h⟩ := hu
    rw [h] at ho
    cases ho
    cases hc
theorem pi_next {B g b : Nat} {w W W' : World} {bs : List UInt8} {pre : List Sv} {x : Sv} (h : PI B g b w bs pre W) (hw : Wtr B W' g ((bs ++ pre.map svBytes) ++ [svBytes x])) (ht : Turn (WS B W g) W W') :
    KeepsOthers W W' ∧ True ∧ PI B g b w bs (pre ++ [x]) W' := by
  obtain ⟨h1, h2, h3⟩ := h
  refine ⟨ht.keeps h1, trivial, by rw [List.map_append, ← List.append_assoc]; exact hw, h2.turn ht (fun hs => ?_), h3.trans ht⟩
  rcases hs with rfl | ⟨_, h8⟩
  · obtain ⟨_, v, hb, _⟩ := h1
    exact Blk.ne_ hb h2 (by decide) rfl
  · exact h2.not_u8 (by decide) h8

set_option maxRecDepth 100000 in
set_option maxHeartbeats 2000000 in
theorem putU_any {B g : Nat} {w : World} {bs : List UInt8} (h : Wtr B w g bs) (hB : B ≤ w.heap.size) (n : Nat) (hn : n < 18446744073709551616) (hl : bs.length + 10 ≤ 1099511627776) :
    Calls Tryz.prog 62 #[.pointer (some ⟨g, 0, none⟩), .int .u64 (n : Int)] w fun e w' => e = .returned (.tuple #[]) ∧ Wtr B w' g (bs ++ sev n) ∧ Turn (WS B w g) w w' := by
  have hlen := Lib.hid (pairs_len hn)
  have hn' := Lib.hid hn
  have hl' := Lib.hid hl
  clear hn hl
  refine (callsIn_wide (n := 3)).1 ?_
  refine callsIn_of_wp_marks Tryz.func62 rfl trivial ?_ rfl
  simp only [Tryz.ntmps62, List.size_toArray, List.length_cons, List.length_nil, Nat.reduceAdd, Nat.reduceSub, Array.replicate_succ, Array.replicate_zero, List.push_toArray, List.append_toArray, List.nil_append, List.cons_append]
  gi_wp2_with (refine ⟨trivial, ?_⟩; gi_at_call 125; refine (callsIn_wide.2 (sevens_any _ _)).mono ?_; rintro e w' ⟨rfl, rfl⟩)
  have b0 := Blk.new w 79 #[.pointer (some ⟨g, 0, none⟩)]
  have b1 := b0.alloc (.cells #[.int .u64 (n : Int)] 116)
  have c1 := (Blk.new (w.alloc (.cells #[.pointer (some ⟨g, 0, none⟩)] 79)) 116 #[.int .u64 (n : Int)]).cell 0
  have hg0 : w.grownBy ((w.alloc (.cells #[.pointer (some ⟨g, 0, none⟩)] 79)).alloc (.cells #[.int .u64 (n : Int)] 116)) none := only_alloc (only_alloc (only_refl _ _) _) _
  have hz : (w.alloc (.cells #[.pointer (some ⟨g, 0, none⟩)] 79)).heap.size = w.heap.size + 1 := by simp
  rw [hz] at c1
  have hz2 : ((w.alloc (.cells #[.pointer (some ⟨g, 0, none⟩)] 79)).alloc (.cells #[.int .u64 (n : Int)] 116)).heap.size = w.heap.size + 2 := by simp
  refine wpIn_rangeFunc_ownF rfl (by omega) (gf := 172) (lb := #[.pointer (some ⟨w.heap.size + 1, 0, none⟩)]) rfl trivial (enters_of Tryz.func172 (by kernel_rfl) rfl)
    (sevens_in Fence.wide _ trivial rfl (by omega) (w.heap.size + 1) n hn'.out _ (by rw [hz2]; omega) c1) (fun _ _ => trivial) (fun _ _ _ _ _ _ _ _ => trivial) (Below.refl _ _) (fun _ => rfl)
    (PI B g w.heap.size w bs) (fun _ _ _ => False) (pi_own (by rw [hz2]; omega)) (fun _ _ _ _ _ hs _ _ => hs)
    ⟨by rw [List.map_nil, List.append_nil]; exact h.kept hg0, b1, Turn.none_ hg0⟩
    (fun x => { tmps := #[.pointer (some ⟨g, 0, none⟩), .int .u64 (n : Int), .pointer (some ⟨w.heap.size, 0, none⟩), undef, .int .u8 (x.1.val : Int), .bool x.2, .int .u64 (n : Int), .func (.func 172) #[] #[.pointer (some ⟨w.heap.size + 1, 0, none⟩)], .int .u8 (x.1.val : Int), .bool x.2, undef, undef, undef, undef, undef, undef, undef], defers := [] }) ?assign ?body ?done ?stop
  case assign =>
    intro l x W K hK
    gi_wp2
    exact hK
  case body =>
    rintro l pre x W hI hlt
    have hc := hI.2.1.cell 0
    have hBW : B ≤ W.heap.size := by have := hI.2.2.size; omega
    have hlw : (bs ++ pre.map svBytes).length + 1 ≤ 1099511627776 := by
      have h1 := hlen.out
      have h2 := hl'.out
      rw [List.length_append, List.length_map]; omega
    have HI := Lib.hid hI
    have hw := hI.1
    clear hI
    obtain ⟨d, last⟩ := x
    cases last with
    | true =>
      have hv : (d.val : Int) = ((svBytes (d, true)).toNat : Int) := by
        have := d.isLt
        simp only [svBytes, if_true]
        rw [u8_ofNat (by omega)]
      have HN := Lib.hid (fun (W' : World) (hw' : Wtr B W' g ((bs ++ pre.map svBytes) ++ [svBytes (d, true)])) ht => pi_next HI.out hw' ht)
      have hd0 : (0 : Int) ≤ (d.val : Int) := by omega
      have hd1 : (d.val : Int) < 128 := by have := d.isLt; omega
      generalize svBytes (d, true) = u at *
      dsimp only
      generalize (d.val : Int) = z at *
      have hv' := Lib.hid hv
      clear hv
      gi_wp2_with (refine ⟨trivial, ?_⟩; gi_at_call 61; refine (CallsIn.inRound l (callsIn_wide.2 (wbyte_eq hw hBW u _ hv'.out hlw))).mono ?_; rintro e w1 ⟨rfl, hw1, ht1⟩)
      exact HN.out _ hw1 ht1
    | false =>
      have hv : (d.val : Int) + 128 = ((svBytes (d, false)).toNat : Int) := by
        have := d.isLt
        simp only [svBytes]
        rw [u8_ofNat (by simp; omega)]
        simp
      have HN := Lib.hid (fun (W' : World) (hw' : Wtr B W' g ((bs ++ pre.map svBytes) ++ [svBytes (d, false)])) ht => pi_next HI.out hw' ht)
      have hd0 : (0 : Int) ≤ (d.val : Int) := by omega
      have hd1 : (d.val : Int) < 128 := by have := d.isLt; omega
      generalize svBytes (d, false) = u at *
      dsimp only
      generalize (d.val : Int) = z at *
      have hv' := Lib.hid hv
      clear hv
      gi_wp2_with (refine ⟨trivial, ?_⟩; gi_at_call 61; refine (CallsIn.inRound l (callsIn_wide.2 (wbyte_eq hw hBW u _ hv'.out hlw))).mono ?_; rintro e w1 ⟨rfl, hw1, ht1⟩)
      exact HN.out _ hw1 ht1
  case done =>
    rintro D ys W hD rfl hI hK
    have hO := (pi_own (B := B) (g := g) (b := w.heap.size) (w := w) (bs := bs) (by omega : w.heap.size ≤ w.heap.size + 2)).putObj (.deferred none) hI (by rw [hz2] at hD; exact hD) hK rfl
    obtain ⟨h1, _, h3⟩ := hO
    rw [pairs_sev] at h1
    gi_wp2
    refine ⟨by simp, .inl ⟨_, _, rfl, run_takeDeferred hK, ?_⟩⟩
    exact ⟨_, results_none rfl _ _ _, rfl, h1, h3⟩
  case stop =>
    rintro D c pre W _ _ h _
    exact h.elim

end Go.Proofs.YtohhojbeclbedaaGreatDoor

namespace Go.Proofs.YtohhojbeclbedaaGreatDoor
open Go.RowKit

/-- The fold of a whole number. -/
def foldN (z : Int) : Nat := if 0 ≤ z then 2 * z.toNat else 2 * (-z).toNat - 1
theorem foldN_lt {z : Int} (h : Whole z) : foldN z < 18446744073709551616 := by
  obtain ⟨h1, h2⟩ := h
  unfold foldN
  split <;> omega

def unfoldZ (n : Nat) : Int := if n % 2 = 0 then ((n / 2 : Nat) : Int) else -((n / 2 : Nat) : Int) - 1
theorem fold_wrap {z : Int} (_ : -9223372036854775808 ≤ z) (_ : z < 0) : IntKind.u64.wrap (IntKind.u64.wrap (2 * IntKind.u64.wrap (-IntKind.u64.wrap z)) - 1) = 2 * (-z) - 1 := by
  simp only [IntKind.wrap_u64]
  omega

set_option maxHeartbeats 1000000 in
theorem fold_any (z : Int) (hz : Whole z) (w : World) :
    Calls Tryz.prog 177 #[.int .i64 z] w fun e w' => e = .returned (.int .u64 (foldN z : Int)) ∧ w.grownBy w' none := by
  obtain ⟨h1, h2⟩ := hz
  by_cases h0 : 0 ≤ z
  · have e : (foldN z : Int) = 2 * z := by unfold foldN; rw [if_pos h0]; omega
    rw [e]
    go_enter Tryz.func177, Tryz.ntmps177
    go_wp2
    go_ret
    exact ⟨rfl, only_refl _ _⟩
  · have e : (foldN z : Int) = 2 * (-z) - 1 := by unfold foldN; rw [if_neg h0]; omega
    have ew := fold_wrap h1 (by omega : z < 0)
    rw [e]
    go_enter Tryz.func177, Tryz.ntmps177
    go_wp2
    go_ret
    exact ⟨by simp, only_refl _ _⟩

set_option maxHeartbeats 1000000 in
theorem unfold_any (n : Nat) (hn : n < 18446744073709551616) (w : World) :
    Calls Tryz.prog 204 #[.int .u64 (n : Int)] w fun e w' => e = .returned (.int .i64 (unfoldZ n)) ∧ w.grownBy w' none := by
  have h0 : (0 : Int) ≤ (n : Int) := by omega
  have h1 : (n : Int) < 18446744073709551616 := by omega
  by_cases hp : n % 2 = 0
  · have e : unfoldZ n = (n : Int) / 2 := by unfold unfoldZ; rw [if_pos hp]; omega
    have t1 : ((n : Int) % 2 == 1) = false := by simp; omega
    rw [e]
    clear e hp
    generalize (n : Int) = m at *
    go_enter Tryz.func204, Tryz.ntmps204
    go_wp2
    go_ret
    exact ⟨rfl, only_refl _ _⟩
  · have e : unfoldZ n = -((n : Int) / 2) - 1 := by unfold unfoldZ; rw [if_neg hp]; omega
    have t1 : ((n : Int) % 2 == 1) = true := by simp; omega
    rw [e]
    clear e hp
    generalize (n : Int) = m at *
    go_enter Tryz.func204, Tryz.ntmps204
    go_wp2
    go_ret
    exact ⟨rfl, only_refl _ _⟩

/-- PutS: the bytes of the fold. -/
theorem putS_any {B g : Nat} {w : World} {bs : List UInt8} (h : Wtr B w g bs) (hB : B ≤ w.heap.size) (z : Int) (hz : Whole z) (hl : bs.length + 10 ≤ 1099511627776) :
    Calls Tryz.prog 135 #[.pointer (some ⟨g, 0, none⟩), .int .i64 z] w fun e w' => e = .returned (.tuple #[]) ∧ Wtr B w' g (bs ++ sev (foldN z)) ∧ Turn (WS B w g) w w' := by
  have H := fold_any z hz
  have H2 := fun (w1 : World) (hg : w.grownBy w1 none) => putU_any (h.kept hg) (Nat.le_trans hB hg.size) (foldN z) (foldN_lt hz) hl
  have HT := Lib.hid (fun (w1 w2 : World) (hg : w.grownBy w1 none) (ht : Turn (WS B w1 g) w1 w2) => Turn.trans (w := w) (Turn.none_ hg) ht)
  clear hz h hB hl
  go_enter Tryz.func135, Tryz.ntmps135
  go_wp2_with fail
  refine (H _).mono ?_
  rintro e w1 ⟨rfl, hg⟩
  go_wp2_with fail
  refine (H2 _ hg).mono ?_
  rintro e w2 ⟨rfl, hw, ht⟩
  go_wp2_with fail
  go_end0
  exact ⟨rfl, hw, HT.out _ _ hg ht⟩
end Go.Proofs.YtohhojbeclbedaaGreatDoor

namespace Go.Proofs.YtohhojbeclbedaaGreatDoor

/-- What stands in an instruction. -/
structure Ins where
  op : Int
  a : Int
  b : Int
  c : Int
  d : Int
  l : List Int
/-- What a number is: the greatest one that may be, and whether it is a register. -/
structure Kd where
  most : Int
  reg : Bool
inductive Fld where
  | A
  | B
  | C
  | D
  | N
  | E (i : Nat)
inductive Kl where
  | no
  | plain
  | push
  | one
  | two
  | jump
  | select
  | branch
  | new_
  | spawn
structure Fm where
  hasA : Bool
  b : Kd
  c : Kd
  d : Kd
  least : Nat
  most : Nat
  each : Kd
def clN : Nat → Kl
  | 0 => .plain
  | 1 => .push
  | 2 => .plain
  | 3 => .plain
  | 4 => .plain
  | 5 => .plain
  | 6 => .plain
  | 7 => .plain
  | 8 => .plain
  | 9 => .one
  | 10 => .one
  | 11 => .jump
  | 12 => .jump
  | 13 => .plain
  | 14 => .one
  | 15 => .one
  | 16 => .two
  | 17 => .two
  | 18 => .select
  | 19 => .branch
  | 20 => .new_
  | 21 => .spawn
  | 22 => .one
  | 23 => .two
  | 24 => .plain
  | _ + 25 => .no
def clI (op : Int) : Kl := if op < 0 then .no else clN op.toNat
def k0 : Kd := ⟨0, false⟩
def kR : Kd := ⟨15, true⟩
def fmOf : Kl → Fm
  | .no => ⟨false, k0, k0, k0, 0, 0, k0⟩
  | .plain => ⟨false, k0, k0, k0, 0, 0, k0⟩
  | .push => ⟨true, k0, k0, k0, 0, 0, k0⟩
  | .one => ⟨false, kR, k0, k0, 0, 0, k0⟩
  | .two => ⟨false, kR, kR, k0, 0, 0, k0⟩
  | .jump => ⟨false, k0, k0, k0, 1, 1, ⟨127, false⟩⟩
  | .select => ⟨false, kR, ⟨7, false⟩, k0, 0, 0, k0⟩
  | .branch => ⟨false, kR, k0, k0, 1, 8, ⟨127, false⟩⟩
  | .new_ => ⟨false, ⟨63, false⟩, k0, ⟨1000, false⟩, 2, 2, kR⟩
  | .spawn => ⟨false, ⟨15, false⟩, k0, k0, 0, 8, kR⟩
/-- The operands ahead of the list. -/
def hdF : Kl → List Fld
  | .no => []
  | .plain => []
  | .push => [.A]
  | .one => [.B]
  | .two => [.B, .C]
  | .jump => []
  | .select => [.B, .C]
  | .branch => [.B, .N]
  | .new_ => [.B, .D]
  | .spawn => [.B, .N]
def els (n : Nat) : List Fld := (List.range n).map .E
def kOf (f : Fm) : Fld → Kd
  | .A => k0
  | .B => f.b
  | .C => f.c
  | .D => f.d
  | .N => ⟨f.most, false⟩
  | .E _ => f.each
def val (x : Ins) : Fld → Int
  | .A => x.a
  | .B => x.b
  | .C => x.c
  | .D => x.d
  | .N => x.l.length
  | .E i => x.l.getD i 0
def isA : Fld → Bool
  | .A => true
  | _ => false
def Kd.is0 (k : Kd) : Bool := k.most == 0 && !k.reg
def coversA (f : Fm) (x : Ins) : Bool :=
  (f.hasA || x.a == 0) && (!f.b.is0 || x.b == 0) && (!f.c.is0 || x.c == 0) && (!f.d.is0 || x.d == 0) && decide (f.least ≤ x.l.length) && decide (x.l.length ≤ f.most)
def inK (z : Int) (k : Kd) : Bool := decide (0 ≤ z) && decide (z ≤ k.most)
/-- One operand, behind the registers rs: is it wrong; which registers are there then. -/
def wrongF (f : Fm) (x : Ins) : List Int → List Fld → Bool
  | _, [] => false
  | rs, k :: r => if isA k then wrongF f x rs r else if inK (val x k) (kOf f k) then (if (kOf f k).reg then (if rs.contains (val x k) then true else wrongF f x (rs ++ [val x k]) r) else wrongF f x rs r) else true
def chkC (c : Kl) (x : Ins) : Int := match c with
  | .no => 11
  | c => if coversA (fmOf c) x && !(wrongF (fmOf c) x [] (hdF c ++ els x.l.length)) then 0 else 2
def chkI (x : Ins) : Int := chkC (clI x.op) x

/-! ### BYTES -/
def fB (x : Ins) (k : Fld) : List UInt8 := if isA k then sev (foldN x.a) else sev (val x k).toNat
def opsB (c : Kl) (x : Ins) : List UInt8 := (hdF c ++ els x.l.length).flatMap (fB x)
def bytesI (x : Ins) : List UInt8 := UInt8.ofNat x.op.toNat :: opsB (clI x.op) x

/-! ### READING -/
/-- What is read from a place on: a value and the place behind it, or a fault, its place, and the place behind what was taken. -/
inductive Rs (α : Type) where
  | ok (v : α) (b : Nat)
  | flt (c : Int) (y : Nat) (b : Nat)
def Rs.bind {α β : Type} (r : Rs α) (f : α → Nat → Rs β) : Rs β := match r with
  | .ok v b => f v b
  | .flt c y b => .flt c y b
theorem Rs.bind_ok {α β : Type} (v : α) (b : Nat) (f : α → Nat → Rs β) : (Rs.ok v b).bind f = f v b := rfl
theorem Rs.bind_is {α β : Type} {r : Rs α} {f : α → Nat → Rs β} {v : β} {b : Nat} (h : r.bind f = .ok v b) : ∃ u a, r = .ok u a ∧ f u a = .ok v b := by
  cases r with
  | ok u a => exact ⟨u, a, rfl, h⟩
  | flt c y b => cases h

/-- How many bytes are taken; none, if they end before. -/
def tk : Nat → List UInt8 → Option Nat
  | 0, _ => none
  | _ + 1, [] => none
  | n + 1, u :: l => if u.toNat < 128 ∨ n = 0 then some 1 else match tk n l with
    | some k => some (k + 1)
    | none => none
def badB (t : List UInt8) : Bool := match t[t.length - 1]? with
  | none => false
  | some u => decide (128 ≤ u.toNat) || (decide (t.length = 10) && decide (1 < u.toNat)) || (decide (1 < t.length) && decide (u.toNat = 0))
def uR (bs : List UInt8) (a : Nat) : Rs Nat := match tk 10 (bs.drop a) with
  | none => .flt 3 bs.length bs.length
  | some k => if badB ((bs.drop a).take k) then .flt 5 a (a + k) else .ok (num ((bs.drop a).take k)) (a + k)
def sR (bs : List UInt8) (a : Nat) : Rs Int := (uR bs a).bind fun n b => .ok (unfoldZ n) b
def smR (bs : List UInt8) (a : Nat) (most : Int) : Rs Int := (uR bs a).bind fun n b => if (n : Int) ≤ most then .ok (n : Int) b else .flt 4 a b
def rdE (most : Int) (bs : List UInt8) : Nat → Nat → Rs (List Int)
  | 0, a => .ok [] a
  | n + 1, a => (smR bs a most).bind fun v b => (rdE most bs n b).bind fun l c => .ok (v :: l) c
def run (f : Fm) (bs : List UInt8) : List Fld → Nat → Ins → Nat → Rs Ins
  | [], n, s, a => (rdE f.each.most bs n a).bind fun l b => .ok { s with l := l } b
  | .A :: r, n, s, a => (sR bs a).bind fun v b => run f bs r n { s with a := v } b
  | .B :: r, n, s, a => (smR bs a f.b.most).bind fun v b => run f bs r n { s with b := v } b
  | .C :: r, n, s, a => (smR bs a f.c.most).bind fun v b => run f bs r n { s with c := v } b
  | .D :: r, n, s, a => (smR bs a f.d.most).bind fun v b => run f bs r n { s with d := v } b
  | .N :: r, _, s, a => (smR bs a f.most).bind fun v b => run f bs r v.toNat s b
  | .E _ :: r, n, s, a => run f bs r n s a
def ins0 (op : Int) : Ins := ⟨op, 0, 0, 0, 0, []⟩
def opsR (c : Kl) (op : Int) (bs : List UInt8) (a : Nat) : Rs Ins := run (fmOf c) bs (hdF c) (fmOf c).most (ins0 op) a
def fin (a : Nat) (r : Rs Ins) : Rs Ins := r.bind fun x b => if chkI x = 0 then .ok x b else .flt (chkI x) a b
def readI (bs : List UInt8) (a : Nat) : Rs Ins := match bs[a]? with
  | none => .flt 3 a a
  | some u => fin a (opsR (clN u.toNat) (u.toNat : Int) bs (a + 1))

/-! ### NUMBERS -/
theorem tk_some : ∀ (n : Nat) (l : List UInt8) (k : Nat), tk n l = some k → 1 ≤ k ∧ k ≤ n ∧ k ≤ l.length ∧ (∀ (j : Nat) (u : UInt8), j + 1 < k → l[j]? = some u → 128 ≤ u.toNat) ∧ (∀ u : UInt8, l[k - 1]? = some u → u.toNat < 128 ∨ k = n) := by
  intro n
  induction n with
  | zero => intro l k h; cases h
  | succ n ih =>
    intro l k h
    cases l with
    | nil => cases h
    | cons u l =>
      rw [tk] at h
      split at h
      · rename_i hc
        injection h with h
        subst h
        refine ⟨by omega, by omega, by simp, fun j v hj => by omega, fun v hv => ?_⟩
        simp at hv
        subst hv
        omega
      · rename_i hc
        split at h
        · rename_i k' hk
          injection h with h
          subst h
          obtain ⟨h1, h2, h3, h4, h5⟩ := ih l k' hk
          refine ⟨by omega, by omega, by simp; omega, fun j v hj hv => ?_, fun v hv => ?_⟩
          · cases j with
            | zero =>
              simp at hv
              subst hv
              omega
            | succ j => exact h4 j v (by omega) (by simpa using hv)
          · have e : k' + 1 - 1 = (k' - 1) + 1 := by omega
            rw [e, List.getElem?_cons_succ] at hv
            have := h5 v hv
            omega
        · cases h
theorem tk_none : ∀ (n : Nat) (l : List UInt8), 1 ≤ n → tk n l = none → l.length < n ∧ ∀ (j : Nat) (u : UInt8), l[j]? = some u → 128 ≤ u.toNat := by
  intro n
  induction n with
  | zero => intro l h; omega
  | succ n ih =>
    intro l _ h
    cases l with
    | nil => exact ⟨by simp, fun j u hu => by simp at hu⟩
    | cons u l =>
      rw [tk] at h
      split at h
      · cases h
      · rename_i hc
        split at h
        · cases h
        · rename_i hk
          obtain ⟨h1, h2⟩ := ih l (by omega) hk
          refine ⟨by simp; omega, fun j v hv => ?_⟩
          cases j with
          | zero =>
            simp at hv
            subst hv
            omega
          | succ j => exact h2 j v (by simpa using hv)
theorem tk_taken {l : List UInt8} {k : Nat} (h : tk 10 l = some k) : Taken l k := by
  obtain ⟨h1, h2, h3, h4, h5⟩ := tk_some 10 l k h
  exact ⟨h1, h2, h3, h4, h5⟩
theorem tk_short {l : List UInt8} (h : tk 10 l = none) : Short l := tk_none 10 l (by omega) h
theorem taken_one {l : List UInt8} {j k : Nat} (h : Taken l j) (h' : Taken l k) (hlt : j < k) : False := by
  have h1 := h'.len
  have hp := h.pos
  have hj : j - 1 < l.length := by omega
  have h3 := h'.high (j - 1) (l[j - 1]) (by omega) (List.getElem?_eq_getElem hj)
  rcases h.last _ (List.getElem?_eq_getElem hj) with h4 | h4
  · omega
  · have := h'.le
    omega
theorem taken_eq {l : List UInt8} {j k : Nat} (h : Taken l j) (h' : Taken l k) : j = k := by
  rcases Nat.lt_trichotomy j k with hl | he | hl
  · exact (taken_one h h' hl).elim
  · exact he
  · exact (taken_one h' h hl).elim
theorem taken_not {l : List UInt8} {k : Nat} (h : Taken l k) (hs : Short l) : False := by
  have h1 := h.len
  have hp := h.pos
  have hj : k - 1 < l.length := by omega
  have h3 := hs.2 (k - 1) _ (List.getElem?_eq_getElem hj)
  rcases h.last _ (List.getElem?_eq_getElem hj) with h4 | h4
  · omega
  · have := hs.1
    omega
theorem tk_of {l : List UInt8} {k : Nat} (h : Taken l k) : tk 10 l = some k := by
  cases e : tk 10 l with
  | none => exact (taken_not h (tk_short e)).elim
  | some j => rw [taken_eq (tk_taken e) h]
theorem tk_ends {l : List UInt8} (h : Short l) : tk 10 l = none := by
  cases e : tk 10 l with
  | none => rfl
  | some j => exact (taken_not (tk_taken e) h).elim
theorem badB_iff (t : List UInt8) : badB t = true ↔ Bad t := by
  unfold badB Bad
  cases e : t[t.length - 1]? with
  | none => simp
  | some u => simp [or_assoc]
theorem uR_ok {bs : List UInt8} {a k : Nat} (h : Taken (bs.drop a) k) (hb : ¬ Bad ((bs.drop a).take k)) : uR bs a = .ok (num ((bs.drop a).take k)) (a + k) := by
  rw [uR, tk_of h]
  exact if_neg (fun h => hb ((badB_iff _).1 h))
theorem uR_bad {bs : List UInt8} {a k : Nat} (h : Taken (bs.drop a) k) (hb : Bad ((bs.drop a).take k)) : uR bs a = .flt 5 a (a + k) := by
  rw [uR, tk_of h]
  exact if_pos ((badB_iff _).2 hb)
theorem uR_short {bs : List UInt8} {a : Nat} (h : Short (bs.drop a)) : uR bs a = .flt 3 bs.length bs.length := by
  rw [uR, tk_ends h]
theorem uR_is {bs : List UInt8} {a n b : Nat} (h : uR bs a = .ok n b) : n < 18446744073709551616 ∧ b = a + (sev n).length ∧ b ≤ bs.length ∧ bs.drop a = sev n ++ bs.drop b := by
  unfold uR at h
  split at h
  · cases h
  · rename_i k hk
    split at h
    · cases h
    · rename_i hb
      injection h with h1 h2
      have ht := tk_taken hk
      obtain ⟨h3, h4⟩ := sev_of_taken ht (fun h => hb ((badB_iff _).2 h))
      rw [h1] at h3 h4
      have hl := ht.len
      rw [List.length_drop] at hl
      have h5 : (sev n).length = k := by rw [h3, List.length_take, List.length_drop]; omega
      refine ⟨h4, by omega, by have := ht.pos; omega, ?_⟩
      rw [h3, ← h2, ← List.drop_drop, List.take_append_drop]
theorem smR_is {bs : List UInt8} {a b : Nat} {z most : Int} (h : smR bs a most = .ok z b) : 0 ≤ z ∧ z ≤ most ∧ b = a + (sev z.toNat).length ∧ b ≤ bs.length ∧ bs.drop a = sev z.toNat ++ bs.drop b := by
  obtain ⟨n, c, h1, h2⟩ := Rs.bind_is h
  split at h2
  · rename_i hm
    injection h2 with h3 h4
    subst h3 h4
    obtain ⟨_, h5, h6, h7⟩ := uR_is h1
    exact ⟨by omega, hm, by simpa using h5, h6, by simpa using h7⟩
  · cases h2
end Go.Proofs.YtohhojbeclbedaaGreatDoor

namespace Go.Proofs.YtohhojbeclbedaaGreatDoor

theorem inK_iff {z : Int} {k : Kd} : inK z k = true ↔ 0 ≤ z ∧ z ≤ k.most := by simp [inK]
def setFl (x s : Ins) : Fld → Ins
  | .A => { s with a := x.a }
  | .B => { s with b := x.b }
  | .C => { s with c := x.c }
  | .D => { s with d := x.d }
  | .N => s
  | .E _ => s
def notE : Fld → Bool
  | .E _ => false
  | _ => true
/-- What is asked of operands that may be. -/
def GoodL (f : Fm) (x : Ins) (td : List Fld) : Prop := ∀ k ∈ td, notE k = true ∧ (isA k = true ∨ (0 ≤ val x k ∧ val x k ≤ (kOf f k).most))

/-! ### WHAT MAY BE -/
theorem wrongF_in {f : Fm} {x : Ins} : ∀ (td : List Fld) (rs : List Int), wrongF f x rs td = false → ∀ k ∈ td, isA k = true ∨ (0 ≤ val x k ∧ val x k ≤ (kOf f k).most) := by
  intro td
  induction td with
  | nil => intro rs _ k hk; simp at hk
  | cons u r ih =>
    intro rs h k hk
    rw [wrongF] at h
    have hu : (isA u = true ∨ (0 ≤ val x u ∧ val x u ≤ (kOf f u).most)) ∧ ∃ rs', wrongF f x rs' r = false := by
      split at h
      · rename_i h1
        exact ⟨.inl h1, _, h⟩
      · split at h
        · rename_i h2
          refine ⟨.inr (inK_iff.1 h2), ?_⟩
          split at h
          · split at h
            · cases h
            · exact ⟨_, h⟩
          · exact ⟨_, h⟩
        · cases h
    rcases List.mem_cons.1 hk with rfl | hk
    · exact hu.1
    · obtain ⟨rs', h'⟩ := hu.2
      exact ih rs' h' k hk
structure May (c : Kl) (x : Ins) : Prop where
  ne : c ≠ .no
  cov : coversA (fmOf c) x = true
  in_ : ∀ k ∈ hdF c ++ els x.l.length, isA k = true ∨ (0 ≤ val x k ∧ val x k ≤ (kOf (fmOf c) k).most)
theorem may_of {c : Kl} {x : Ins} (h : chkC c x = 0) : May c x := by
  have H : ∀ c, c ≠ Kl.no → (if coversA (fmOf c) x && !(wrongF (fmOf c) x [] (hdF c ++ els x.l.length)) then (0 : Int) else 2) = 0 → May c x := by
    intro c hc h
    split at h
    · rename_i h1
      simp only [Bool.and_eq_true, Bool.not_eq_true'] at h1
      exact ⟨hc, h1.1, wrongF_in _ _ h1.2⟩
    · cases h
  cases c
  case no => simp [chkC] at h
  all_goals exact H _ (by simp) h
theorem May.good {c : Kl} {x : Ins} (h : May c x) : GoodL (fmOf c) x (hdF c) := by
  intro k hk
  refine ⟨?_, h.in_ k (List.mem_append_left _ hk)⟩
  revert k
  cases c <;> simp [hdF, notE]
theorem kOf_le (c : Kl) (k : Fld) : (kOf (fmOf c) k).most ≤ 1000 := by
  cases c <;> cases k <;> simp [kOf, fmOf, k0, kR]
theorem May.parts {c : Kl} {x : Ins} (h : May c x) : ((fmOf c).hasA = true ∨ x.a = 0) ∧ ((fmOf c).b.is0 = false ∨ x.b = 0) ∧ ((fmOf c).c.is0 = false ∨ x.c = 0) ∧ ((fmOf c).d.is0 = false ∨ x.d = 0) ∧ (fmOf c).least ≤ x.l.length ∧ x.l.length ≤ (fmOf c).most := by
  have := h.cov
  simp [coversA, and_assoc] at this
  exact this
theorem May.count {c : Kl} {x : Ins} (h : May c x) : (fmOf c).most = x.l.length ∨ Fld.N ∈ hdF c := by
  obtain ⟨_, _, _, _, h1, h2⟩ := h.parts
  cases c <;> simp [fmOf, hdF] at h1 h2 ⊢ <;> first | omega | (rw [h2]; rfl)
theorem May.whole {c : Kl} {x : Ins} (h : May c x) : { (hdF c).foldl (setFl x) (ins0 x.op) with l := x.l } = x := by
  obtain ⟨op, a, b, cc, d, l⟩ := x
  obtain ⟨h1, h2, h3, h4, _, _⟩ := h.parts
  cases c <;> simp [fmOf, k0, kR, Kd.is0] at h1 h2 h3 h4 <;> simp [hdF, setFl, ins0, *]
theorem chkI_op {x : Ins} (h : chkI x = 0) : 0 ≤ x.op ∧ x.op ≤ 24 ∧ clN x.op.toNat = clI x.op ∧ (UInt8.ofNat x.op.toNat).toNat = x.op.toNat := by
  have hm := (may_of h).ne
  unfold clI at hm
  split at hm
  · exact absurd rfl hm
  · rename_i h0
    have h24 : x.op.toNat ≤ 24 := by
      rcases Nat.lt_or_ge 24 x.op.toNat with hlt | hge
      · exfalso
        apply hm
        obtain ⟨m, hmm⟩ : ∃ m, x.op.toNat = m + 25 := ⟨x.op.toNat - 25, by omega⟩
        rw [hmm, clN]
      · exact hge
    refine ⟨by omega, by omega, ?_, u8_ofNat (by omega)⟩
    unfold clI
    rw [if_neg h0]
end Go.Proofs.YtohhojbeclbedaaGreatDoor

namespace Go.Proofs.YtohhojbeclbedaaGreatDoor
open Go.RowKit

/-- A form, in cells. -/
def fmC (f : Fm) : Array Value := #[.bool f.hasA, .int .i64 f.b.most, .bool f.b.reg, .int .i64 f.c.most, .bool f.c.reg, .int .i64 f.d.most, .bool f.d.reg, .int .i64 (f.least : Int), .int .i64 (f.most : Int), .int .i64 f.each.most, .bool f.each.reg]
def isOp (c : Kl) : Bool := match c with
  | .no => false
  | _ => true
def FormIs (c : Kl) (w : World) (e : Ending) (w' : World) : Prop := e = .returned (.tuple #[.agg (fmC (fmOf c)), .bool (isOp c)]) ∧ w.grownBy w' none

theorem form_res {tmps : Array Value} {W : World} {b : Nat} {f : Fm} {q : Bool} (h2 : tmps.getD 2 undef = .pointer (some ⟨b, 0, none⟩)) (h3 : tmps.getD 3 undef = .bool q) (hb : Blk W b 253 (fmC f)) :
    (results Tryz.f173 tmps).run Tryz.prog W = .ok (.tuple #[.agg (fmC f), .bool q]) W := by
  have h2' : tmps[2]?.getD undef = .pointer (some ⟨b, 0, none⟩) := by simpa using h2
  have h3' : tmps[3]?.getD undef = .bool q := by simpa using h3
  have c0 := hb.cell 0
  have c1 := hb.cell 1
  have c2 := hb.cell 2
  have c3 := hb.cell 3
  have c4 := hb.cell 4
  have c5 := hb.cell 5
  have c6 := hb.cell 6
  have c7 := hb.cell 7
  have c8 := hb.cell 8
  have c9 := hb.cell 9
  have c10 := hb.cell 10
  clear hb
  simp only [fmC, List.getElem?_toArray] at c0 c1 c2 c3 c4 c5 c6 c7 c8 c9 c10
  simp [results, Tryz.results173, h2', h3', go_sem, c0, c1, c2, c3, c4, c5, c6, c7, c8, c9, c10, fmC]

end Go.Proofs.YtohhojbeclbedaaGreatDoor

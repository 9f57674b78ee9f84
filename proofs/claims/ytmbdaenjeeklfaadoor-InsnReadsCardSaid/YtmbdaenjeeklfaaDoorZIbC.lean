/- Texts joined for the claim's sake: Num, LebW, LebP, LebF. -/
import Derived.WalkKit
import Derived.Test.YtmbdaenjeeklfaaDoorZIbB
import Derived.RangeFuncNested
import Derived.Lib.Hide
import Derived.RangeFuncBound
import Derived.RangeFuncCalls
import Derived.RangeFuncLeaves
import Derived.RangeFuncBox
import Derived.Shelf.Abstract
import Derived.Shelf.RegionOpen
import Derived.OwnWalkIn
import Derived.TacticsInMore
import Derived.LoopNIn
import Derived.LoopIn
/- Numbers by sevens of bits: what is laid, what is taken, and that they belong together. No program. -/
namespace Go.Proofs.YtmbdaenjeeklfaaDoor

/-- The bytes of a number. -/
def sev (n : Nat) : List UInt8 := if n < 128 then [UInt8.ofNat n] else UInt8.ofNat (n % 128 + 128) :: sev (n / 128)
termination_by n
decreasing_by omega
theorem sev_lt {n : Nat} (h : n < 128) : sev n = [UInt8.ofNat n] := by rw [sev, if_pos h]
theorem sev_ge {n : Nat} (h : 128 ≤ n) : sev n = UInt8.ofNat (n % 128 + 128) :: sev (n / 128) := by rw [sev, if_neg (by omega)]
/-- The number of bytes. -/
def num (l : List UInt8) : Nat := l.foldr (fun b n => n * 128 + b.toNat % 128) 0
theorem num_cons (b : UInt8) (l : List UInt8) : num (b :: l) = num l * 128 + b.toNat % 128 := rfl
theorem num_nil : num [] = 0 := rfl

/-- Bytes end before the number does. -/
def Short (l : List UInt8) : Prop := l.length < 10 ∧ ∀ (j : Nat) (u : UInt8), l[j]? = some u → 128 ≤ u.toNat
/-- k bytes are taken. -/
structure Taken (l : List UInt8) (k : Nat) : Prop where
  pos : 1 ≤ k
  le : k ≤ 10
  len : k ≤ l.length
  high : ∀ (j : Nat) (u : UInt8), j + 1 < k → l[j]? = some u → 128 ≤ u.toNat
  last : ∀ u : UInt8, l[k - 1]? = some u → u.toNat < 128 ∨ k = 10
theorem taken_or (l : List UInt8) : Short l ∨ ∃ k, Taken l k := by
  have H : ∀ c, c ≤ 10 → c ≤ l.length → (∀ j u, j < c → l[j]? = some u → 128 ≤ u.toNat) → Short l ∨ ∃ k, Taken l k := by
    intro c
    induction hm : 10 - c generalizing c with
    | zero =>
      intro h1 h2 h3
      have hc : c = 10 := by omega
      subst hc
      exact .inr ⟨10, by omega, by omega, h2, fun j u hj => h3 j u (by omega), fun _ _ => .inr rfl⟩
    | succ m ih =>
      intro h1 h2 h3
      by_cases hl : c = l.length
      · exact .inl ⟨by omega, fun j u hj => h3 j u (by have := (List.getElem?_eq_some_iff.1 hj).1; omega) hj⟩
      · have hlt : c < l.length := by omega
        by_cases hb : (l[c]'hlt).toNat < 128
        · refine .inr ⟨c + 1, by omega, by omega, by omega, fun j u hj => h3 j u (by omega), fun u hu => .inl ?_⟩
          rw [Nat.add_sub_cancel, List.getElem?_eq_getElem hlt] at hu
          injection hu with hu
          rw [← hu]; exact hb
        · refine ih (c + 1) (by omega) (by omega) (by omega) (fun j u hj hu => ?_)
          by_cases he : j = c
          · subst he
            rw [List.getElem?_eq_getElem hlt] at hu
            injection hu with hu
            rw [← hu]; omega
          · exact h3 j u (by omega) hu
  exact H 0 (by omega) (by omega) (fun j u hj => by omega)
/-- The bytes that were taken are no number's, or not those that it has. -/
def Bad (t : List UInt8) : Prop := ∃ u, t[t.length - 1]? = some u ∧ (128 ≤ u.toNat ∨ (t.length = 10 ∧ 1 < u.toNat) ∨ (1 < t.length ∧ u.toNat = 0))

theorem u8_ofNat {n : Nat} (h : n < 256) : (UInt8.ofNat n).toNat = n := by simp [UInt8.toNat_ofNat']; omega
theorem sev_pos (n : Nat) : 1 ≤ (sev n).length := by
  by_cases h : n < 128
  · rw [sev_lt h]; simp
  · rw [sev_ge (by omega)]; simp
theorem sev_len : ∀ (k n : Nat), 1 ≤ k → n < 128 ^ k → (sev n).length ≤ k := by
  intro k
  induction k with
  | zero => intro n h; omega
  | succ k ih =>
    intro n _ hn
    by_cases h : n < 128
    · rw [sev_lt h]; simp
    · rw [sev_ge (by omega), List.length_cons]
      by_cases hk : k = 0
      · subst hk; simp at hn; omega
      · have := ih (n / 128) (by omega) (by rw [Nat.pow_succ] at hn; omega)
        omega
theorem sev_len10 {n : Nat} (h : n < 18446744073709551616) : (sev n).length ≤ 10 := sev_len 10 n (by omega) (by omega)
theorem num_sev (n : Nat) : num (sev n) = n := by
  induction n using Nat.strongRecOn with
  | _ n ih =>
    by_cases h : n < 128
    · rw [sev_lt h, num_cons, num_nil, u8_ofNat (by omega)]; omega
    · rw [sev_ge (by omega), num_cons, ih (n / 128) (by omega), u8_ofNat (by omega)]; omega
theorem sev_high (n : Nat) : ∀ j u, j + 1 < (sev n).length → (sev n)[j]? = some u → 128 ≤ u.toNat := by
  induction n using Nat.strongRecOn with
  | _ n ih =>
    intro j u hj hu
    by_cases h : n < 128
    · rw [sev_lt h] at hj; simp at hj
    · rw [sev_ge (by omega)] at hj hu
      cases j with
      | zero =>
        rw [List.getElem?_cons_zero] at hu
        injection hu with hu
        rw [← hu, u8_ofNat (by omega)]; omega
      | succ j =>
        rw [List.length_cons] at hj
        rw [List.getElem?_cons_succ] at hu
        exact ih (n / 128) (by omega) j u (by omega) hu
theorem sev_last (n : Nat) : ∀ u, (sev n)[(sev n).length - 1]? = some u → u.toNat < 128 ∧ (1 < (sev n).length → u.toNat ≠ 0) := by
  induction n using Nat.strongRecOn with
  | _ n ih =>
    intro u hu
    by_cases h : n < 128
    · rw [sev_lt h] at hu ⊢
      simp at hu
      rw [← hu, u8_ofNat (by omega)]
      exact ⟨h, by simp⟩
    · have hp := sev_pos (n / 128)
      have h1 := ih (n / 128) (by omega)
      rw [sev_ge (by omega), List.length_cons] at hu
      rw [show (sev (n / 128)).length + 1 - 1 = ((sev (n / 128)).length - 1) + 1 by omega, List.getElem?_cons_succ] at hu
      refine ⟨(h1 u hu).1, fun _ h0 => ?_⟩
      by_cases hl : 1 < (sev (n / 128)).length
      · exact (h1 u hu).2 hl h0
      · -- ONE BYTE: the number behind is below 128, and not 0
        by_cases h2 : n / 128 < 128
        · rw [sev_lt h2] at hu
          simp at hu
          rw [← hu, u8_ofNat (by omega)] at h0
          omega
        · rw [sev_ge (by omega), List.length_cons] at hl
          have := sev_pos (n / 128 / 128)
          omega
theorem pow_num : ∀ (l : List UInt8), num l < 128 ^ l.length := by
  intro l
  induction l with
  | nil => simp [num]
  | cons b l ih =>
    rw [num_cons, List.length_cons, Nat.pow_succ]
    have : b.toNat % 128 < 128 := Nat.mod_lt _ (by omega)
    omega
/-- The tenth byte of a number that fits is 0 or 1. -/
theorem sev_tenth : ∀ (k n : Nat), n < 2 * 128 ^ k → (sev n).length = k + 1 → ∀ u, (sev n)[k]? = some u → u.toNat ≤ 1 := by
  intro k
  induction k with
  | zero =>
    intro n hn _ u hu
    simp at hn
    rw [sev_lt (by omega)] at hu
    simp at hu
    rw [← hu, u8_ofNat (by omega)]; omega
  | succ k ih =>
    intro n hn hl u hu
    by_cases h : n < 128
    · rw [sev_lt h] at hl; simp at hl
    · rw [sev_ge (by omega)] at hl hu
      rw [List.length_cons] at hl
      rw [List.getElem?_cons_succ] at hu
      exact ih (n / 128) (by rw [Nat.pow_succ] at hn; omega) (by omega) u hu

/-- **What is laid for a number is taken, is not bad, and is that number.** -/
theorem taken_sev {n : Nat} (hn : n < 18446744073709551616) (rest : List UInt8) : Taken (sev n ++ rest) (sev n).length := by
  have hp := sev_pos n
  refine ⟨hp, sev_len10 hn, by rw [List.length_append]; omega, fun j u hj hu => ?_, fun u hu => .inl ?_⟩
  · rw [List.getElem?_append_left (by omega)] at hu
    exact sev_high n j u hj hu
  · rw [List.getElem?_append_left (by omega)] at hu
    exact (sev_last n u hu).1
theorem good_sev {n : Nat} (hn : n < 18446744073709551616) : ¬ Bad (sev n) := by
  rintro ⟨u, hu, h⟩
  have h1 := sev_last n u hu
  rcases h with h | ⟨hl, h⟩ | ⟨hl, h⟩
  · omega
  · have := sev_tenth 9 n (by omega) hl u (by rw [hl] at hu; exact hu)
    omega
  · exact h1.2 hl h

/-- **The bytes from which a number is read are those that are laid for it.** -/
theorem sev_num : ∀ (t : List UInt8), 1 ≤ t.length → (∀ j u, j + 1 < t.length → t[j]? = some u → 128 ≤ u.toNat) → (∀ u, t[t.length - 1]? = some u → u.toNat < 128 ∧ (1 < t.length → u.toNat ≠ 0)) → sev (num t) = t := by
  intro t
  induction t with
  | nil => intro h; simp at h
  | cons b l ih =>
    intro _ hh hl
    cases l with
    | nil =>
      have := (hl b (by simp)).1
      rw [num_cons, num_nil, sev_lt (by omega)]
      congr 1
      apply UInt8.toNat_inj.1
      rw [u8_ofNat (by omega)]; omega
    | cons c l =>
      have hb : 128 ≤ b.toNat := hh 0 b (by simp) rfl
      have h256 := b.toNat_lt
      have hih : sev (num (c :: l)) = c :: l := by
        refine ih (by simp) (fun j u hj hu => hh (j + 1) u (by simp at hj ⊢; omega) (by simpa using hu)) (fun u hu => ?_)
        have h1 := hl u (by simpa using hu)
        exact ⟨h1.1, fun _ => h1.2 (by simp)⟩
      have hpos : 1 ≤ num (c :: l) := by
        rcases Nat.eq_zero_or_pos (num (c :: l)) with h0 | h0
        · exfalso
          rw [h0, sev_lt (by omega)] at hih
          injection hih with h1 h2
          subst h2
          have := (hl c (by simp)).2 (by simp)
          apply this
          rw [← h1]; rfl
        · exact h0
      rw [num_cons, sev_ge (by omega)]
      have e1 : (num (c :: l) * 128 + b.toNat % 128) % 128 + 128 = b.toNat := by omega
      have e2 : (num (c :: l) * 128 + b.toNat % 128) / 128 = num (c :: l) := by omega
      rw [e1, e2, hih]
      congr 1
      apply UInt8.toNat_inj.1
      rw [u8_ofNat (by omega)]
/-- A number whose bytes are good has 64 bits. -/
theorem num_lt {t : List UInt8} (hl : t.length ≤ 10) (hp : 1 ≤ t.length) (hb : ¬ Bad t) : num t < 18446744073709551616 := by
  by_cases h9 : t.length ≤ 9
  · have h1 := pow_num t
    have h2 : 128 ^ t.length ≤ 128 ^ 9 := Nat.pow_le_pow_right (by omega) h9
    omega
  · have h10 : t.length = 10 := by omega
    have hsplit : t = t.take 9 ++ t.drop 9 := (List.take_append_drop 9 t).symm
    obtain ⟨u, hu⟩ : ∃ u, t.drop 9 = [u] := List.length_eq_one_iff.1 (by rw [List.length_drop]; omega)
    have hu2 : t[t.length - 1]? = some u := by
      rw [h10]
      have : (t.drop 9)[0]? = some u := by rw [hu]; rfl
      rw [List.getElem?_drop] at this
      exact this
    have hu1 : u.toNat ≤ 1 := by
      rcases Nat.lt_or_ge 1 u.toNat with h | h
      · exact absurd ⟨u, hu2, .inr (.inl ⟨h10, h⟩)⟩ hb
      · exact h
    have hn : ∀ (a : List UInt8) (b : Nat), (a.foldr (fun b n => n * 128 + b.toNat % 128) b) = num a + b * 128 ^ a.length := by
      intro a
      induction a with
      | nil => intro b; simp [num]
      | cons x a ih =>
        intro b
        rw [List.foldr_cons, ih, num_cons, List.length_cons, Nat.pow_succ]
        rw [Nat.add_mul, Nat.mul_assoc]; omega
    have h3 : num t = num (t.take 9) + (u.toNat % 128) * 128 ^ 9 := by
      have h4 : num t = (t.take 9).foldr (fun b n => n * 128 + b.toNat % 128) (num (t.drop 9)) := by
        rw [hsplit] 
        unfold num
        rw [List.foldr_append]
        rw [← hsplit]
      rw [h4, hn, hu, num_cons, num_nil, List.length_take]
      rw [show min 9 t.length = 9 by omega]
      omega
    have h5 := pow_num (t.take 9)
    rw [List.length_take, show min 9 t.length = 9 by omega] at h5
    rw [h3]
    have h6 : u.toNat % 128 ≤ 1 := by omega
    have h7 : (u.toNat % 128) * 128 ^ 9 ≤ 1 * 128 ^ 9 := Nat.mul_le_mul_right _ h6
    omega
/-- Of the bytes that were taken and are good. -/
theorem sev_of_taken {l : List UInt8} {k : Nat} (h : Taken l k) (hb : ¬ Bad (l.take k)) : sev (num (l.take k)) = l.take k ∧ num (l.take k) < 18446744073709551616 := by
  have hl : (l.take k).length = k := by rw [List.length_take]; have := h.len; omega
  have hp := h.pos
  have hk := h.le
  refine ⟨sev_num _ (by omega) (fun j u hj hu => ?_) (fun u hu => ?_), num_lt (by omega) (by omega) hb⟩
  · rw [hl] at hj
    rw [List.getElem?_take_of_lt (by omega)] at hu
    exact h.high j u hj hu
  · have hu2 := hu
    rw [hl, List.getElem?_take_of_lt (by omega)] at hu2
    have h1 : u.toNat < 128 := by
      rcases Nat.lt_or_ge u.toNat 128 with h | h
      · exact h
      · exact absurd ⟨u, hu, .inl h⟩ hb
    exact ⟨h1, fun hl1 h0 => hb ⟨u, hu, .inr (.inr ⟨hl1, h0⟩)⟩⟩
end Go.Proofs.YtmbdaenjeeklfaaDoor

/- leb: a number's bytes behind a writer's: sevens (a function over which one ranges), PutU, fold, PutS: what each answers, and what it leaves. -/
namespace Go.Proofs.YtmbdaenjeeklfaaDoor
open Go.RowKit Go.Shelf
attribute [local go_sem] Oper.semAt_some

/-- A seven, and whether it is the last one. -/
abbrev Sv := Fin 128 × Bool
def svBytes (p : Sv) : UInt8 := UInt8.ofNat (if p.2 then p.1.val else p.1.val + 128)
abbrev svArgs (p : Sv) : Array Value := #[.int .u8 (p.1.val : Int), .bool p.2]
def pairs (n : Nat) : List Sv := if h : n < 128 then [(⟨n, h⟩, true)] else (⟨n % 128, by omega⟩, false) :: pairs (n / 128)
termination_by n
decreasing_by omega
theorem pairs_lt {n : Nat} (h : n < 128) : pairs n = [(⟨n, h⟩, true)] := by rw [pairs, dif_pos h]
theorem pairs_ge {n : Nat} (h : 128 ≤ n) : pairs n = (⟨n % 128, by omega⟩, false) :: pairs (n / 128) := by rw [pairs, dif_neg (by omega)]
theorem pairs_sev (n : Nat) : (pairs n).map svBytes = sev n := by
  induction n using Nat.strongRecOn with
  | _ n ih =>
    by_cases h : n < 128
    · rw [pairs_lt h, sev_lt h]; simp [svBytes]
    · rw [pairs_ge (by omega), sev_ge (by omega), List.map_cons, ih (n / 128) (by omega)]; simp [svBytes]
theorem pairs_len {n : Nat} (h : n < 18446744073709551616) : (pairs n).length ≤ 10 := by
  have := sev_len10 h
  rw [← pairs_sev, List.length_map] at this
  exact this

set_option maxHeartbeats 400000 in
theorem sevens_any (n : Int) (w : World) :
    Calls Tryd.prog 75 #[.int .u64 n] w fun e w' => e = .returned (.func (.func 84) #[] #[.pointer (some ⟨w.heap.size, 0, none⟩)]) ∧ w' = w.alloc (.cells #[.int .u64 n] 79) := by
  have hmf : ∀ (fn : Fn) (first cap : Array Value) (w : World), (Instr.makeFunc fn first cap).run Tryd.prog w = .ok (.func fn first cap) w := fun _ _ _ _ => rfl
  go_enter Tryd.func75, Tryd.ntmps75
  go_wp2
  go_ret
  exact ⟨rfl, rfl⟩

set_option maxRecDepth 100000 in
set_option maxHeartbeats 1000000 in
/-- The sevens come one by one, the lowest one first, until a round says 'no more'. -/
theorem sevens_in (F : Fence) (k : Nat) (hF : F.fn 84) (hro : F.round = none) (hk : 1 ≤ k) (Bn n : Nat) (hn : n < 18446744073709551616) (w : World) (hB : Bn < w.heap.size) (hc : w.cell? ⟨Bn, 0, none⟩ = some (.int .u64 (n : Int))) :
    SeqStopsK F k Tryd.prog 84 #[.pointer (some ⟨Bn, 0, none⟩)] svArgs (fun _ _ => True) (fun ys => ys = pairs n) (fun pre => pre <+: pairs n) (pairs n).length w := fun l J Jx W hW _ _ hY h0 => by
  have hc1 : W.cell? ⟨Bn, 0, none⟩ = some (.int .u64 (n : Int)) := (hW.cell (p := ⟨Bn, 0, none⟩) hB).trans hc
  clear hc hW
  refine callsIn_of_wp Tryd.func84 rfl hF ?_ hro
  simp only [Tryd.ntmps84, List.size_toArray, List.length_cons, List.length_nil, Nat.reduceAdd, Nat.reduceSub, Array.replicate_succ, Array.replicate_zero, List.push_toArray, List.append_toArray, List.nil_append, List.cons_append]
  gi_wp2
  gi_loopw [3] (fun v wr => ∃ (pre : List Sv) (m : Nat), v = .int .u64 (m : Int) ∧ m ≤ n ∧ pairs n = pre ++ pairs m ∧ J pre wr) (fun v wr => (intOf v).toNat)
  case atStart => exact ⟨[], n, rfl, Nat.le_refl _, rfl, h0⟩
  case round =>
    obtain ⟨pre, m, rfl, hm, hp, hJ⟩ := hrel
    have hm64 : (m : Int) < 18446744073709551616 := by omega
    by_cases hlt : m < 128
    · obtain ⟨x, hx⟩ : ∃ x : Sv, x = (⟨m, hlt⟩, true) := ⟨_, rfl⟩
      have hpe : pairs n = pre ++ [x] := by rw [hp, pairs_lt hlt, hx]
      obtain ⟨fn, tmps, assign, body, hy, hR⟩ := hY pre x wr hJ (by rw [hpe]; simp)
      have hxa : svArgs x = #[.int .u8 (m : Int), .bool true] := by rw [hx]
      rw [hxa] at hy
      have hlt' : (m : Int) < 128 := by omega
      have HP := Lib.hid hpe
      clear hpe hp hm hlt hx hxa
      have hM0 : (0 : Int) ≤ (m : Int) := by omega
      generalize (m : Int) = M at *
      gi_wp2
      refine hR.mono ?_
      rintro e W3 (⟨rfl, hJ3, _⟩ | ⟨rfl, hJ3⟩)
      · gi_wp2
        go_end0
        exact ⟨⟨_, rfl⟩, .inl ⟨_, HP.out.symm, hJ3⟩⟩
      · gi_wp2
        go_end0
        exact ⟨⟨_, rfl⟩, .inr ⟨_, by rw [HP.out]; exact List.prefix_refl _, hJ3⟩⟩
    · have hge : (128 : Int) ≤ (m : Int) := by omega
      have hpe : pairs n = (pre ++ [(⟨m % 128, by omega⟩, false)]) ++ pairs (m / 128) := by rw [hp, pairs_ge (by omega)]; simp
      obtain ⟨x, hx⟩ : ∃ x : Sv, x = (⟨m % 128, by omega⟩, false) := ⟨_, rfl⟩
      rw [← hx] at hpe
      obtain ⟨fn, tmps, assign, body, hy, hR⟩ := hY pre x wr hJ (by rw [hpe]; simp)
      have hxa : svArgs x = #[.int .u8 ((m : Int) % 128), .bool false] := by rw [hx]; simp [svArgs]
      rw [hxa] at hy
      have HP := Lib.hid hpe
      clear hpe hp hlt hx hxa
      gi_wp2
      refine hR.mono ?_
      rintro e W3 (⟨rfl, hJ3, _⟩ | ⟨rfl, hJ3⟩)
      · gi_wp2
        go_roundw
        case rel => exact ⟨_, m / 128, by go_num, by omega, HP.out, hJ3⟩
        case measure => simp [intOf]; omega
      · gi_wp2
        refine bodyPost_ret (results_none rfl _ _ _) rfl ?_
        exact ⟨⟨_, rfl⟩, .inr ⟨_, ⟨_, HP.out.symm⟩, hJ3⟩⟩
end Go.Proofs.YtmbdaenjeeklfaaDoor

/- leb: PutU, fold, PutS, and a number's bytes alone: what each answers, and what it leaves. -/
namespace Go.Proofs.YtmbdaenjeeklfaaDoor
open Go.RowKit Go.Shelf
attribute [local go_sem] Oper.semAt_some

theorem Turn.keeps {B g : Nat} {W W' : World} {bs : List UInt8} (ht : Turn (WS B W g) W W') (hw : Wtr B W g bs) : KeepsOthers W W' :=
  ⟨ht.size, fun k o hk ho => by
    refine (ht.block k (Array.getElem?_eq_some_iff.1 hk).1 (fun hs => ?_)).trans hk
    rcases hs with rfl | ⟨_, cs, fr, h2⟩
    · obtain ⟨_, v, hb, _⟩ := hw
      unfold Blk at hb
      rw [hb] at hk
      cases hk
      cases ho
    · rw [h2] at hk
      cases hk
      cases ho⟩
/-- What holds between two sevens. -/
def PI (B g b : Nat) (w : World) (bs : List UInt8) (pre : List Sv) (W : World) : Prop :=
  Wtr B W g (bs ++ pre.map svBytes) ∧ Blk W b 26 #[.pointer (some ⟨g, 0, none⟩)] ∧ Turn (WS B w g) w W
theorem pi_own {B g b B0 : Nat} {w : World} {bs : List UInt8} (hB0 : w.heap.size ≤ B0) : OwnFrom B0 (PI B g b w bs) := by
  rintro pre W W' row ⟨h1, h2, h3⟩ hg hr
  have hcell : ∀ i t cs, Blk W i t cs → some i ≠ row := by
    intro i t cs hb e
    obtain ⟨_, o, ho, hc⟩ := hr i e.symm
    unfold Blk at hb
    rw [hb] at ho
    cases ho
    cases hc
  refine ⟨h1.grown hg ?_ (fun k e hu => ?_), h2.grown hg (hcell _ _ _ h2), h3.grown hg (fun r e => by have := (hr r e).1; omega)⟩
  · obtain ⟨_, v, hb, _⟩ := h1
    exact hcell _ _ _ hb
  · obtain ⟨_, o, ho, hc⟩ := hr k e
    obtain ⟨cs, fr, h⟩ := hu
    rw [h] at ho
    cases ho
    cases hc
theorem pi_next {B g b : Nat} {w W W' : World} {bs : List UInt8} {pre : List Sv} {x : Sv} (h : PI B g b w bs pre W) (hw : Wtr B W' g ((bs ++ pre.map svBytes) ++ [svBytes x])) (ht : Turn (WS B W g) W W') :
    KeepsOthers W W' ∧ True ∧ PI B g b w bs (pre ++ [x]) W' := by
  obtain ⟨h1, h2, h3⟩ := h
  refine ⟨ht.keeps h1, trivial, by rw [List.map_append, ← List.append_assoc]; exact hw, h2.turn ht (fun hs => ?_), h3.trans ht⟩
  rcases hs with rfl | ⟨_, h8⟩
  · obtain ⟨_, v, hb, _⟩ := h1
    exact Blk.ne_ hb h2 (by decide) rfl
  · exact h2.not_u8 (by decide) h8

set_option maxRecDepth 100000 in
set_option maxHeartbeats 2000000 in
theorem putU_any {B g : Nat} {w : World} {bs : List UInt8} (h : Wtr B w g bs) (hB : B ≤ w.heap.size) (n : Nat) (hn : n < 18446744073709551616) (hl : bs.length + 10 ≤ 1099511627776) :
    Calls Tryd.prog 54 #[.pointer (some ⟨g, 0, none⟩), .int .u64 (n : Int)] w fun e w' => e = .returned (.tuple #[]) ∧ Wtr B w' g (bs ++ sev n) ∧ Turn (WS B w g) w w' := by
  have hlen := Lib.hid (pairs_len hn)
  have hn' := Lib.hid hn
  have hl' := Lib.hid hl
  clear hn hl
  refine (callsIn_wide (n := 3)).1 ?_
  refine callsIn_of_wp_marks Tryd.func54 rfl trivial ?_ rfl
  simp only [Tryd.ntmps54, List.size_toArray, List.length_cons, List.length_nil, Nat.reduceAdd, Nat.reduceSub, Array.replicate_succ, Array.replicate_zero, List.push_toArray, List.append_toArray, List.nil_append, List.cons_append]
  gi_wp2_with (refine ⟨trivial, ?_⟩; gi_at_call 75; refine (callsIn_wide.2 (sevens_any _ _)).mono ?_; rintro e w' ⟨rfl, rfl⟩)
  have b0 := Blk.new w 26 #[.pointer (some ⟨g, 0, none⟩)]
  have b1 := b0.alloc (.cells #[.int .u64 (n : Int)] 79)
  have c1 := (Blk.new (w.alloc (.cells #[.pointer (some ⟨g, 0, none⟩)] 26)) 79 #[.int .u64 (n : Int)]).cell 0
  have hg0 : w.grownBy ((w.alloc (.cells #[.pointer (some ⟨g, 0, none⟩)] 26)).alloc (.cells #[.int .u64 (n : Int)] 79)) none := only_alloc (only_alloc (only_refl _ _) _) _
  have hz : (w.alloc (.cells #[.pointer (some ⟨g, 0, none⟩)] 26)).heap.size = w.heap.size + 1 := by simp
  rw [hz] at c1
  have hz2 : ((w.alloc (.cells #[.pointer (some ⟨g, 0, none⟩)] 26)).alloc (.cells #[.int .u64 (n : Int)] 79)).heap.size = w.heap.size + 2 := by simp
  refine wpIn_rangeFunc_ownF rfl (by omega) (gf := 84) (lb := #[.pointer (some ⟨w.heap.size + 1, 0, none⟩)]) rfl trivial (enters_of Tryd.func84 (by kernel_rfl) rfl)
    (sevens_in Fence.wide _ trivial rfl (by omega) (w.heap.size + 1) n hn'.out _ (by rw [hz2]; omega) c1) (fun _ _ => trivial) (fun _ _ _ _ _ _ _ _ => trivial) (Below.refl _ _) (fun _ => rfl)
    (PI B g w.heap.size w bs) (fun _ _ _ => False) (pi_own (by rw [hz2]; omega)) (fun _ _ _ _ _ hs _ _ => hs)
    ⟨by rw [List.map_nil, List.append_nil]; exact h.kept hg0, b1, Turn.none_ hg0⟩
    (fun x => { tmps := #[.pointer (some ⟨g, 0, none⟩), .int .u64 (n : Int), .pointer (some ⟨w.heap.size, 0, none⟩), undef, .int .u8 (x.1.val : Int), .bool x.2, .int .u64 (n : Int), .func (.func 84) #[] #[.pointer (some ⟨w.heap.size + 1, 0, none⟩)], .int .u8 (x.1.val : Int), .bool x.2, undef, undef, undef, undef, undef, undef, undef], defers := [] }) ?assign ?body ?done ?stop
  case assign =>
    intro l x W K hK
    gi_wp2
    exact hK
  case body =>
    rintro l pre x W hI hlt
    have hc := hI.2.1.cell 0
    have hBW : B ≤ W.heap.size := by have := hI.2.2.size; omega
    have hlw : (bs ++ pre.map svBytes).length + 1 ≤ 1099511627776 := by
      have h1 := hlen.out
      have h2 := hl'.out
      rw [List.length_append, List.length_map]; omega
    have HI := Lib.hid hI
    have hw := hI.1
    clear hI
    obtain ⟨d, last⟩ := x
    cases last with
    | true =>
      have hv : (d.val : Int) = ((svBytes (d, true)).toNat : Int) := by
        have := d.isLt
        simp only [svBytes, if_true]
        rw [u8_ofNat (by omega)]
      have HN := Lib.hid (fun (W' : World) (hw' : Wtr B W' g ((bs ++ pre.map svBytes) ++ [svBytes (d, true)])) ht => pi_next HI.out hw' ht)
      have hd0 : (0 : Int) ≤ (d.val : Int) := by omega
      have hd1 : (d.val : Int) < 128 := by have := d.isLt; omega
      generalize svBytes (d, true) = u at *
      dsimp only
      generalize (d.val : Int) = z at *
      have hv' := Lib.hid hv
      clear hv
      gi_wp2_with (refine ⟨trivial, ?_⟩; gi_at_call 34; refine (CallsIn.inRound l (callsIn_wide.2 (wbyte_eq hw hBW u _ hv'.out hlw))).mono ?_; rintro e w1 ⟨rfl, hw1, ht1⟩)
      exact HN.out _ hw1 ht1
    | false =>
      have hv : (d.val : Int) + 128 = ((svBytes (d, false)).toNat : Int) := by
        have := d.isLt
        simp only [svBytes]
        rw [u8_ofNat (by simp; omega)]
        simp
      have HN := Lib.hid (fun (W' : World) (hw' : Wtr B W' g ((bs ++ pre.map svBytes) ++ [svBytes (d, false)])) ht => pi_next HI.out hw' ht)
      have hd0 : (0 : Int) ≤ (d.val : Int) := by omega
      have hd1 : (d.val : Int) < 128 := by have := d.isLt; omega
      generalize svBytes (d, false) = u at *
      dsimp only
      generalize (d.val : Int) = z at *
      have hv' := Lib.hid hv
      clear hv
      gi_wp2_with (refine ⟨trivial, ?_⟩; gi_at_call 34; refine (CallsIn.inRound l (callsIn_wide.2 (wbyte_eq hw hBW u _ hv'.out hlw))).mono ?_; rintro e w1 ⟨rfl, hw1, ht1⟩)
      exact HN.out _ hw1 ht1
  case done =>
    rintro D ys W hD rfl hI hK
    have hO := (pi_own (B := B) (g := g) (b := w.heap.size) (w := w) (bs := bs) (by omega : w.heap.size ≤ w.heap.size + 2)).putObj (.deferred none) hI (by rw [hz2] at hD; exact hD) hK rfl
    obtain ⟨h1, _, h3⟩ := hO
    rw [pairs_sev] at h1
    gi_wp2
    refine ⟨by simp, .inl ⟨_, _, rfl, run_takeDeferred hK, ?_⟩⟩
    exact ⟨_, results_none rfl _ _ _, rfl, h1, h3⟩
  case stop =>
    rintro D c pre W _ _ h _
    exact h.elim

/-- What holds between two sevens where the writer is none. -/
def PN (b : Nat) (w : World) (_ : List Sv) (W : World) : Prop := Blk W b 26 #[.pointer none] ∧ w.grownBy W none
theorem pn_own {b B0 : Nat} {w : World} (hB0 : w.heap.size ≤ B0) : OwnFrom B0 (PN b w) := by
  rintro pre W W' row ⟨h2, h3⟩ hg hr
  refine ⟨h2.grown hg (fun e => ?_), ?_⟩
  · obtain ⟨_, o, ho, hc⟩ := hr b e.symm
    unfold Blk at h2
    rw [h2] at ho
    cases ho
    cases hc
  · exact ⟨hg.os.trans h3.os, hg.tape.trans h3.tape, hg.output.trans h3.output, Nat.le_trans h3.size hg.size, fun i hi hn => (hg.block i (Nat.lt_of_lt_of_le hi h3.size) (fun e => by have := (hr i e.symm).1; omega)).trans (h3.block i hi hn)⟩

set_option maxRecDepth 100000 in
set_option maxHeartbeats 2000000 in
theorem putU_none (w : World) (n : Nat) (hn : n < 18446744073709551616) :
    Calls Tryd.prog 54 #[.pointer none, .int .u64 (n : Int)] w fun e w' => e = .returned (.tuple #[]) ∧ w.grownBy w' none := by
  have hn' := Lib.hid hn
  clear hn
  refine (callsIn_wide (n := 3)).1 ?_
  refine callsIn_of_wp_marks Tryd.func54 rfl trivial ?_ rfl
  simp only [Tryd.ntmps54, List.size_toArray, List.length_cons, List.length_nil, Nat.reduceAdd, Nat.reduceSub, Array.replicate_succ, Array.replicate_zero, List.push_toArray, List.append_toArray, List.nil_append, List.cons_append]
  gi_wp2_with (refine ⟨trivial, ?_⟩; gi_at_call 75; refine (callsIn_wide.2 (sevens_any _ _)).mono ?_; rintro e w' ⟨rfl, rfl⟩)
  have b0 := Blk.new w 26 #[.pointer none]
  have b1 := b0.alloc (.cells #[.int .u64 (n : Int)] 79)
  have c1 := (Blk.new (w.alloc (.cells #[.pointer none] 26)) 79 #[.int .u64 (n : Int)]).cell 0
  have hg0 : w.grownBy ((w.alloc (.cells #[.pointer none] 26)).alloc (.cells #[.int .u64 (n : Int)] 79)) none := only_alloc (only_alloc (only_refl _ _) _) _
  have hz : (w.alloc (.cells #[.pointer none] 26)).heap.size = w.heap.size + 1 := by simp
  rw [hz] at c1
  have hz2 : ((w.alloc (.cells #[.pointer none] 26)).alloc (.cells #[.int .u64 (n : Int)] 79)).heap.size = w.heap.size + 2 := by simp
  refine wpIn_rangeFunc_ownF rfl (by omega) (gf := 84) (lb := #[.pointer (some ⟨w.heap.size + 1, 0, none⟩)]) rfl trivial (enters_of Tryd.func84 (by kernel_rfl) rfl)
    (sevens_in Fence.wide _ trivial rfl (by omega) (w.heap.size + 1) n hn'.out _ (by rw [hz2]; omega) c1) (fun _ _ => trivial) (fun _ _ _ _ _ _ _ _ => trivial) (Below.refl _ _) (fun _ => rfl)
    (PN w.heap.size w) (fun _ _ _ => False) (pn_own (by rw [hz2]; omega)) (fun _ _ _ _ _ hs _ _ => hs)
    ⟨b1, hg0⟩
    (fun x => { tmps := #[.pointer none, .int .u64 (n : Int), .pointer (some ⟨w.heap.size, 0, none⟩), undef, .int .u8 (x.1.val : Int), .bool x.2, .int .u64 (n : Int), .func (.func 84) #[] #[.pointer (some ⟨w.heap.size + 1, 0, none⟩)], .int .u8 (x.1.val : Int), .bool x.2, undef, undef, undef, undef, undef, undef, undef], defers := [] }) ?assign ?body ?done ?stop
  case assign =>
    intro l x W K hK
    gi_wp2
    exact hK
  case body =>
    rintro l pre x W hI hlt
    have hc := hI.1.cell 0
    have HI := Lib.hid hI
    clear hI
    obtain ⟨d, last⟩ := x
    have hd0 : (0 : Int) ≤ (d.val : Int) := by omega
    have hd1 : (d.val : Int) < 128 := by have := d.isLt; omega
    dsimp only
    generalize (d.val : Int) = z at *
    cases last <;>
    (gi_wp2_with (refine ⟨trivial, ?_⟩; gi_at_call 34; refine (CallsIn.inRound l (callsIn_wide.2 (wbyte_none _ _))).mono ?_; rintro e w1 ⟨rfl, rfl⟩)
     exact ⟨KeepsOthers.refl _, trivial, HI.out⟩)
  case done =>
    rintro D ys W hD rfl hI hK
    have hO := (pn_own (b := w.heap.size) (w := w) (by omega : w.heap.size ≤ w.heap.size + 2)).putObj (.deferred none) hI (by rw [hz2] at hD; exact hD) hK rfl
    obtain ⟨_, h3⟩ := hO
    gi_wp2
    refine ⟨by simp, .inl ⟨_, _, rfl, run_takeDeferred hK, ?_⟩⟩
    exact ⟨_, results_none rfl _ _ _, rfl, h3⟩
  case stop =>
    rintro D c pre W _ _ h _
    exact h.elim
end Go.Proofs.YtmbdaenjeeklfaaDoor

/- leb: fold, unfold, PutS; and a number's bytes alone (put, folded): what each answers, and what it leaves. -/
namespace Go.Proofs.YtmbdaenjeeklfaaDoor
open Go.RowKit

/-- The fold of a whole number. -/
def foldN (z : Int) : Nat := if 0 ≤ z then 2 * z.toNat else 2 * (-z).toNat - 1
def Whole (z : Int) : Prop := -9223372036854775808 ≤ z ∧ z ≤ 9223372036854775807
theorem foldN_lt {z : Int} (h : Whole z) : foldN z < 18446744073709551616 := by
  obtain ⟨h1, h2⟩ := h
  unfold foldN
  split <;> omega

def unfoldZ (n : Nat) : Int := if n % 2 = 0 then ((n / 2 : Nat) : Int) else -((n / 2 : Nat) : Int) - 1
theorem unfold_fold {z : Int} : unfoldZ (foldN z) = z := by
  unfold unfoldZ foldN
  split <;> split <;> omega
theorem unfold_whole {n : Nat} (h : n < 18446744073709551616) : Whole (unfoldZ n) := by
  unfold unfoldZ Whole
  split <;> omega

theorem fold_wrap {z : Int} (_ : -9223372036854775808 ≤ z) (_ : z < 0) : IntKind.u64.wrap (IntKind.u64.wrap (2 * IntKind.u64.wrap (-IntKind.u64.wrap z)) - 1) = 2 * (-z) - 1 := by
  simp only [IntKind.wrap_u64]
  omega

set_option maxHeartbeats 1000000 in
theorem fold_any (z : Int) (hz : Whole z) (w : World) :
    Calls Tryd.prog 74 #[.int .i64 z] w fun e w' => e = .returned (.int .u64 (foldN z : Int)) ∧ w.grownBy w' none := by
  obtain ⟨h1, h2⟩ := hz
  by_cases h0 : 0 ≤ z
  · have e : (foldN z : Int) = 2 * z := by unfold foldN; rw [if_pos h0]; omega
    rw [e]
    go_enter Tryd.func74, Tryd.ntmps74
    go_wp2
    go_ret
    exact ⟨rfl, only_refl _ _⟩
  · have e : (foldN z : Int) = 2 * (-z) - 1 := by unfold foldN; rw [if_neg h0]; omega
    have ew := fold_wrap h1 (by omega : z < 0)
    rw [e]
    go_enter Tryd.func74, Tryd.ntmps74
    go_wp2
    go_ret
    exact ⟨by simp, only_refl _ _⟩

set_option maxHeartbeats 1000000 in
theorem unfold_any (n : Nat) (hn : n < 18446744073709551616) (w : World) :
    Calls Tryd.prog 77 #[.int .u64 (n : Int)] w fun e w' => e = .returned (.int .i64 (unfoldZ n)) ∧ w.grownBy w' none := by
  have h0 : (0 : Int) ≤ (n : Int) := by omega
  have h1 : (n : Int) < 18446744073709551616 := by omega
  by_cases hp : n % 2 = 0
  · have e : unfoldZ n = (n : Int) / 2 := by unfold unfoldZ; rw [if_pos hp]; omega
    have t1 : ((n : Int) % 2 == 1) = false := by simp; omega
    rw [e]
    clear e hp
    generalize (n : Int) = m at *
    go_enter Tryd.func77, Tryd.ntmps77
    go_wp2
    go_ret
    exact ⟨rfl, only_refl _ _⟩
  · have e : unfoldZ n = -((n : Int) / 2) - 1 := by unfold unfoldZ; rw [if_neg hp]; omega
    have t1 : ((n : Int) % 2 == 1) = true := by simp; omega
    rw [e]
    clear e hp
    generalize (n : Int) = m at *
    go_enter Tryd.func77, Tryd.ntmps77
    go_wp2
    go_ret
    exact ⟨rfl, only_refl _ _⟩

/-- PutS: the bytes of the fold. -/
theorem putS_any {B g : Nat} {w : World} {bs : List UInt8} (h : Wtr B w g bs) (hB : B ≤ w.heap.size) (z : Int) (hz : Whole z) (hl : bs.length + 10 ≤ 1099511627776) :
    Calls Tryd.prog 53 #[.pointer (some ⟨g, 0, none⟩), .int .i64 z] w fun e w' => e = .returned (.tuple #[]) ∧ Wtr B w' g (bs ++ sev (foldN z)) ∧ Turn (WS B w g) w w' := by
  have H := fold_any z hz
  have H2 := fun (w1 : World) (hg : w.grownBy w1 none) => putU_any (h.kept hg) (Nat.le_trans hB hg.size) (foldN z) (foldN_lt hz) hl
  have HT := Lib.hid (fun (w1 w2 : World) (hg : w.grownBy w1 none) (ht : Turn (WS B w1 g) w1 w2) => Turn.trans (w := w) (Turn.none_ hg) ht)
  clear hz h hB hl
  go_enter Tryd.func53, Tryd.ntmps53
  go_wp2_with fail
  refine (H _).mono ?_
  rintro e w1 ⟨rfl, hg⟩
  go_wp2_with fail
  refine (H2 _ hg).mono ?_
  rintro e w2 ⟨rfl, hw, ht⟩
  go_wp2_with fail
  go_end0
  exact ⟨rfl, hw, HT.out _ _ hg ht⟩
theorem putS_none (w : World) (z : Int) (hz : Whole z) :
    Calls Tryd.prog 53 #[.pointer none, .int .i64 z] w fun e w' => e = .returned (.tuple #[]) ∧ w.grownBy w' none := by
  have H := fold_any z hz
  have H2 := fun (w1 : World) => putU_none w1 (foldN z) (foldN_lt hz)
  clear hz
  go_enter Tryd.func53, Tryd.ntmps53
  go_wp2_with fail
  refine (H _).mono ?_
  rintro e w1 ⟨rfl, hg⟩
  go_wp2_with fail
  refine (H2 _).mono ?_
  rintro e w2 ⟨rfl, hg2⟩
  go_wp2_with fail
  go_end0
  exact ⟨rfl, only_trans hg hg2⟩

end Go.Proofs.YtmbdaenjeeklfaaDoor

/- Instructions as the chapter has them: what forms ops have, whether an instruction may be, its bytes, and what is read from bytes. No program. -/
import Derived.Test.YtmbdaenjeeklfaaDoorLebF
namespace Go.Proofs.YtmbdaenjeeklfaaDoor

/-- What stands in an instruction. -/
structure Ins where
  op : Int
  a : Int
  b : Int
  c : Int
  d : Int
  l : List Int
/-- What a number is: the greatest one that may be, and whether it is a register. -/
structure Kd where
  most : Int
  reg : Bool
inductive Fld where
  | A
  | B
  | C
  | D
  | N
  | E (i : Nat)
inductive Kl where
  | no
  | plain
  | push
  | one
  | two
  | jump
  | select
  | branch
  | new_
  | spawn
structure Fm where
  hasA : Bool
  b : Kd
  c : Kd
  d : Kd
  least : Nat
  most : Nat
  each : Kd
def clN : Nat → Kl
  | 0 => .plain
  | 1 => .push
  | 2 => .plain
  | 3 => .plain
  | 4 => .plain
  | 5 => .plain
  | 6 => .plain
  | 7 => .plain
  | 8 => .plain
  | 9 => .one
  | 10 => .one
  | 11 => .jump
  | 12 => .jump
  | 13 => .plain
  | 14 => .one
  | 15 => .one
  | 16 => .two
  | 17 => .two
  | 18 => .select
  | 19 => .branch
  | 20 => .new_
  | 21 => .spawn
  | 22 => .one
  | 23 => .two
  | 24 => .plain
  | _ + 25 => .no
def clI (op : Int) : Kl := if op < 0 then .no else clN op.toNat
def k0 : Kd := ⟨0, false⟩
def kR : Kd := ⟨15, true⟩
def fmOf : Kl → Fm
  | .no => ⟨false, k0, k0, k0, 0, 0, k0⟩
  | .plain => ⟨false, k0, k0, k0, 0, 0, k0⟩
  | .push => ⟨true, k0, k0, k0, 0, 0, k0⟩
  | .one => ⟨false, kR, k0, k0, 0, 0, k0⟩
  | .two => ⟨false, kR, kR, k0, 0, 0, k0⟩
  | .jump => ⟨false, k0, k0, k0, 1, 1, ⟨127, false⟩⟩
  | .select => ⟨false, kR, ⟨7, false⟩, k0, 0, 0, k0⟩
  | .branch => ⟨false, kR, k0, k0, 1, 8, ⟨127, false⟩⟩
  | .new_ => ⟨false, ⟨63, false⟩, k0, ⟨1000, false⟩, 2, 2, kR⟩
  | .spawn => ⟨false, ⟨15, false⟩, k0, k0, 0, 8, kR⟩
/-- The operands ahead of the list. -/
def hdF : Kl → List Fld
  | .no => []
  | .plain => []
  | .push => [.A]
  | .one => [.B]
  | .two => [.B, .C]
  | .jump => []
  | .select => [.B, .C]
  | .branch => [.B, .N]
  | .new_ => [.B, .D]
  | .spawn => [.B, .N]
def els (n : Nat) : List Fld := (List.range n).map .E
def kOf (f : Fm) : Fld → Kd
  | .A => k0
  | .B => f.b
  | .C => f.c
  | .D => f.d
  | .N => ⟨f.most, false⟩
  | .E _ => f.each
def val (x : Ins) : Fld → Int
  | .A => x.a
  | .B => x.b
  | .C => x.c
  | .D => x.d
  | .N => x.l.length
  | .E i => x.l.getD i 0
def isA : Fld → Bool
  | .A => true
  | _ => false
def Kd.is0 (k : Kd) : Bool := k.most == 0 && !k.reg
def coversA (f : Fm) (x : Ins) : Bool :=
  (f.hasA || x.a == 0) && (!f.b.is0 || x.b == 0) && (!f.c.is0 || x.c == 0) && (!f.d.is0 || x.d == 0) && decide (f.least ≤ x.l.length) && decide (x.l.length ≤ f.most)
def inK (z : Int) (k : Kd) : Bool := decide (0 ≤ z) && decide (z ≤ k.most)
/-- One operand, behind the registers rs: is it wrong; which registers are there then. -/
def wrongF (f : Fm) (x : Ins) : List Int → List Fld → Bool
  | _, [] => false
  | rs, k :: r => if isA k then wrongF f x rs r else if inK (val x k) (kOf f k) then (if (kOf f k).reg then (if rs.contains (val x k) then true else wrongF f x (rs ++ [val x k]) r) else wrongF f x rs r) else true
def chkC (c : Kl) (x : Ins) : Int := match c with
  | .no => 11
  | c => if coversA (fmOf c) x && !(wrongF (fmOf c) x [] (hdF c ++ els x.l.length)) then 0 else 2
def chkI (x : Ins) : Int := chkC (clI x.op) x

/-! ### BYTES -/
def fB (x : Ins) (k : Fld) : List UInt8 := if isA k then sev (foldN x.a) else sev (val x k).toNat
def opsB (c : Kl) (x : Ins) : List UInt8 := (hdF c ++ els x.l.length).flatMap (fB x)
def bytesI (x : Ins) : List UInt8 := UInt8.ofNat x.op.toNat :: opsB (clI x.op) x

/-! ### READING -/
/-- What is read from a place on: a value and the place behind it, or a fault, its place, and the place behind what was taken. -/
inductive Rs (α : Type) where
  | ok (v : α) (b : Nat)
  | flt (c : Int) (y : Nat) (b : Nat)
def Rs.bind {α β : Type} (r : Rs α) (f : α → Nat → Rs β) : Rs β := match r with
  | .ok v b => f v b
  | .flt c y b => .flt c y b
theorem Rs.bind_ok {α β : Type} (v : α) (b : Nat) (f : α → Nat → Rs β) : (Rs.ok v b).bind f = f v b := rfl
theorem Rs.bind_flt {α β : Type} (c : Int) (y b : Nat) (f : α → Nat → Rs β) : (Rs.flt c y b : Rs α).bind f = .flt c y b := rfl
theorem Rs.bind_is {α β : Type} {r : Rs α} {f : α → Nat → Rs β} {v : β} {b : Nat} (h : r.bind f = .ok v b) : ∃ u a, r = .ok u a ∧ f u a = .ok v b := by
  cases r with
  | ok u a => exact ⟨u, a, rfl, h⟩
  | flt c y b => cases h

/-- How many bytes are taken; none, if they end before. -/
def tk : Nat → List UInt8 → Option Nat
  | 0, _ => none
  | _ + 1, [] => none
  | n + 1, u :: l => if u.toNat < 128 ∨ n = 0 then some 1 else match tk n l with
    | some k => some (k + 1)
    | none => none
def badB (t : List UInt8) : Bool := match t[t.length - 1]? with
  | none => false
  | some u => decide (128 ≤ u.toNat) || (decide (t.length = 10) && decide (1 < u.toNat)) || (decide (1 < t.length) && decide (u.toNat = 0))
def uR (bs : List UInt8) (a : Nat) : Rs Nat := match tk 10 (bs.drop a) with
  | none => .flt 3 bs.length bs.length
  | some k => if badB ((bs.drop a).take k) then .flt 5 a (a + k) else .ok (num ((bs.drop a).take k)) (a + k)
def sR (bs : List UInt8) (a : Nat) : Rs Int := (uR bs a).bind fun n b => .ok (unfoldZ n) b
def smR (bs : List UInt8) (a : Nat) (most : Int) : Rs Int := (uR bs a).bind fun n b => if (n : Int) ≤ most then .ok (n : Int) b else .flt 4 a b
def rdE (most : Int) (bs : List UInt8) : Nat → Nat → Rs (List Int)
  | 0, a => .ok [] a
  | n + 1, a => (smR bs a most).bind fun v b => (rdE most bs n b).bind fun l c => .ok (v :: l) c
def run (f : Fm) (bs : List UInt8) : List Fld → Nat → Ins → Nat → Rs Ins
  | [], n, s, a => (rdE f.each.most bs n a).bind fun l b => .ok { s with l := l } b
  | .A :: r, n, s, a => (sR bs a).bind fun v b => run f bs r n { s with a := v } b
  | .B :: r, n, s, a => (smR bs a f.b.most).bind fun v b => run f bs r n { s with b := v } b
  | .C :: r, n, s, a => (smR bs a f.c.most).bind fun v b => run f bs r n { s with c := v } b
  | .D :: r, n, s, a => (smR bs a f.d.most).bind fun v b => run f bs r n { s with d := v } b
  | .N :: r, _, s, a => (smR bs a f.most).bind fun v b => run f bs r v.toNat s b
  | .E _ :: r, n, s, a => run f bs r n s a
def ins0 (op : Int) : Ins := ⟨op, 0, 0, 0, 0, []⟩
def opsR (c : Kl) (op : Int) (bs : List UInt8) (a : Nat) : Rs Ins := run (fmOf c) bs (hdF c) (fmOf c).most (ins0 op) a
def fin (a : Nat) (r : Rs Ins) : Rs Ins := r.bind fun x b => if chkI x = 0 then .ok x b else .flt (chkI x) a b
def readI (bs : List UInt8) (a : Nat) : Rs Ins := match bs[a]? with
  | none => .flt 3 a a
  | some u => fin a (opsR (clN u.toNat) (u.toNat : Int) bs (a + 1))

/-! ### NUMBERS -/
theorem tk_some : ∀ (n : Nat) (l : List UInt8) (k : Nat), tk n l = some k → 1 ≤ k ∧ k ≤ n ∧ k ≤ l.length ∧ (∀ (j : Nat) (u : UInt8), j + 1 < k → l[j]? = some u → 128 ≤ u.toNat) ∧ (∀ u : UInt8, l[k - 1]? = some u → u.toNat < 128 ∨ k = n) := by
  intro n
  induction n with
  | zero => intro l k h; cases h
  | succ n ih =>
    intro l k h
    cases l with
    | nil => cases h
    | cons u l =>
      rw [tk] at h
      split at h
      · rename_i hc
        injection h with h
        subst h
        refine ⟨by omega, by omega, by simp, fun j v hj => by omega, fun v hv => ?_⟩
        simp at hv
        subst hv
        omega
      · rename_i hc
        split at h
        · rename_i k' hk
          injection h with h
          subst h
          obtain ⟨h1, h2, h3, h4, h5⟩ := ih l k' hk
          refine ⟨by omega, by omega, by simp; omega, fun j v hj hv => ?_, fun v hv => ?_⟩
          · cases j with
            | zero =>
              simp at hv
              subst hv
              omega
            | succ j => exact h4 j v (by omega) (by simpa using hv)
          · have e : k' + 1 - 1 = (k' - 1) + 1 := by omega
            rw [e, List.getElem?_cons_succ] at hv
            have := h5 v hv
            omega
        · cases h
theorem tk_none : ∀ (n : Nat) (l : List UInt8), 1 ≤ n → tk n l = none → l.length < n ∧ ∀ (j : Nat) (u : UInt8), l[j]? = some u → 128 ≤ u.toNat := by
  intro n
  induction n with
  | zero => intro l h; omega
  | succ n ih =>
    intro l _ h
    cases l with
    | nil => exact ⟨by simp, fun j u hu => by simp at hu⟩
    | cons u l =>
      rw [tk] at h
      split at h
      · cases h
      · rename_i hc
        split at h
        · cases h
        · rename_i hk
          obtain ⟨h1, h2⟩ := ih l (by omega) hk
          refine ⟨by simp; omega, fun j v hv => ?_⟩
          cases j with
          | zero =>
            simp at hv
            subst hv
            omega
          | succ j => exact h2 j v (by simpa using hv)
theorem tk_taken {l : List UInt8} {k : Nat} (h : tk 10 l = some k) : Taken l k := by
  obtain ⟨h1, h2, h3, h4, h5⟩ := tk_some 10 l k h
  exact ⟨h1, h2, h3, h4, h5⟩
theorem tk_short {l : List UInt8} (h : tk 10 l = none) : Short l := tk_none 10 l (by omega) h
theorem taken_one {l : List UInt8} {j k : Nat} (h : Taken l j) (h' : Taken l k) (hlt : j < k) : False := by
  have h1 := h'.len
  have hp := h.pos
  have hj : j - 1 < l.length := by omega
  have h3 := h'.high (j - 1) (l[j - 1]) (by omega) (List.getElem?_eq_getElem hj)
  rcases h.last _ (List.getElem?_eq_getElem hj) with h4 | h4
  · omega
  · have := h'.le
    omega
theorem taken_eq {l : List UInt8} {j k : Nat} (h : Taken l j) (h' : Taken l k) : j = k := by
  rcases Nat.lt_trichotomy j k with hl | he | hl
  · exact (taken_one h h' hl).elim
  · exact he
  · exact (taken_one h' h hl).elim
theorem taken_not {l : List UInt8} {k : Nat} (h : Taken l k) (hs : Short l) : False := by
  have h1 := h.len
  have hp := h.pos
  have hj : k - 1 < l.length := by omega
  have h3 := hs.2 (k - 1) _ (List.getElem?_eq_getElem hj)
  rcases h.last _ (List.getElem?_eq_getElem hj) with h4 | h4
  · omega
  · have := hs.1
    omega
theorem tk_of {l : List UInt8} {k : Nat} (h : Taken l k) : tk 10 l = some k := by
  cases e : tk 10 l with
  | none => exact (taken_not h (tk_short e)).elim
  | some j => rw [taken_eq (tk_taken e) h]
theorem tk_ends {l : List UInt8} (h : Short l) : tk 10 l = none := by
  cases e : tk 10 l with
  | none => rfl
  | some j => exact (taken_not (tk_taken e) h).elim
theorem badB_iff (t : List UInt8) : badB t = true ↔ Bad t := by
  unfold badB Bad
  cases e : t[t.length - 1]? with
  | none => simp
  | some u => simp [or_assoc]
theorem uR_ok {bs : List UInt8} {a k : Nat} (h : Taken (bs.drop a) k) (hb : ¬ Bad ((bs.drop a).take k)) : uR bs a = .ok (num ((bs.drop a).take k)) (a + k) := by
  rw [uR, tk_of h]
  exact if_neg (fun h => hb ((badB_iff _).1 h))
theorem uR_bad {bs : List UInt8} {a k : Nat} (h : Taken (bs.drop a) k) (hb : Bad ((bs.drop a).take k)) : uR bs a = .flt 5 a (a + k) := by
  rw [uR, tk_of h]
  exact if_pos ((badB_iff _).2 hb)
theorem uR_short {bs : List UInt8} {a : Nat} (h : Short (bs.drop a)) : uR bs a = .flt 3 bs.length bs.length := by
  rw [uR, tk_ends h]
theorem uR_at {bs rest : List UInt8} {a n : Nat} (hn : n < 18446744073709551616) (he : bs.drop a = sev n ++ rest) : uR bs a = .ok n (a + (sev n).length) := by
  have h1 := taken_sev hn rest
  rw [← he] at h1
  have h2 : (bs.drop a).take (sev n).length = sev n := by rw [he, List.take_left]
  rw [uR_ok h1 (by rw [h2]; exact good_sev hn), h2, num_sev]
theorem uR_cut {bs : List UInt8} {a n j : Nat} (hn : n < 18446744073709551616) (hj : j < (sev n).length) (he : bs.drop a = (sev n).take j) : uR bs a = .flt 3 bs.length bs.length := by
  refine uR_short ?_
  have h10 := sev_len10 hn
  rw [he]
  refine ⟨by rw [List.length_take]; omega, fun i u hu => ?_⟩
  have hi : i < j := by
    have := (List.getElem?_eq_some_iff.1 hu).1
    rw [List.length_take] at this
    omega
  rw [List.getElem?_take_of_lt hi] at hu
  exact sev_high n i u (by omega) hu
theorem uR_is {bs : List UInt8} {a n b : Nat} (h : uR bs a = .ok n b) : n < 18446744073709551616 ∧ b = a + (sev n).length ∧ b ≤ bs.length ∧ bs.drop a = sev n ++ bs.drop b := by
  unfold uR at h
  split at h
  · cases h
  · rename_i k hk
    split at h
    · cases h
    · rename_i hb
      injection h with h1 h2
      have ht := tk_taken hk
      obtain ⟨h3, h4⟩ := sev_of_taken ht (fun h => hb ((badB_iff _).2 h))
      rw [h1] at h3 h4
      have hl := ht.len
      rw [List.length_drop] at hl
      have h5 : (sev n).length = k := by rw [h3, List.length_take, List.length_drop]; omega
      refine ⟨h4, by omega, by have := ht.pos; omega, ?_⟩
      rw [h3, ← h2, ← List.drop_drop, List.take_append_drop]
theorem smR_at {bs rest : List UInt8} {a : Nat} {z most : Int} (h0 : 0 ≤ z) (hm : z ≤ most) (hb : most ≤ 1000) (he : bs.drop a = sev z.toNat ++ rest) : smR bs a most = .ok z (a + (sev z.toNat).length) := by
  rw [smR, uR_at (by omega) he, Rs.bind_ok]
  have : (z.toNat : Int) = z := by omega
  rw [this, if_pos hm]
theorem smR_cut {bs : List UInt8} {a j : Nat} {z most : Int} (_ : 0 ≤ z) (hm : z ≤ most) (hb : most ≤ 1000) (hj : j < (sev z.toNat).length) (he : bs.drop a = (sev z.toNat).take j) : smR bs a most = .flt 3 bs.length bs.length := by
  rw [smR, uR_cut (by omega) hj he, Rs.bind_flt]
theorem sR_at {bs rest : List UInt8} {a : Nat} {z : Int} (hz : Whole z) (he : bs.drop a = sev (foldN z) ++ rest) : sR bs a = .ok z (a + (sev (foldN z)).length) := by
  rw [sR, uR_at (foldN_lt hz) he, Rs.bind_ok, unfold_fold]
theorem sR_cut {bs : List UInt8} {a j : Nat} {z : Int} (hz : Whole z) (hj : j < (sev (foldN z)).length) (he : bs.drop a = (sev (foldN z)).take j) : sR bs a = .flt 3 bs.length bs.length := by
  rw [sR, uR_cut (foldN_lt hz) hj he, Rs.bind_flt]
theorem fold_unfold (n : Nat) : foldN (unfoldZ n) = n := by
  unfold unfoldZ foldN
  split <;> split <;> omega
theorem smR_is {bs : List UInt8} {a b : Nat} {z most : Int} (h : smR bs a most = .ok z b) : 0 ≤ z ∧ z ≤ most ∧ b = a + (sev z.toNat).length ∧ b ≤ bs.length ∧ bs.drop a = sev z.toNat ++ bs.drop b := by
  obtain ⟨n, c, h1, h2⟩ := Rs.bind_is h
  split at h2
  · rename_i hm
    injection h2 with h3 h4
    subst h3 h4
    obtain ⟨_, h5, h6, h7⟩ := uR_is h1
    exact ⟨by omega, hm, by simpa using h5, h6, by simpa using h7⟩
  · cases h2
theorem sR_is {bs : List UInt8} {a b : Nat} {z : Int} (h : sR bs a = .ok z b) : Whole z ∧ b = a + (sev (foldN z)).length ∧ b ≤ bs.length ∧ bs.drop a = sev (foldN z) ++ bs.drop b := by
  obtain ⟨n, c, h1, h2⟩ := Rs.bind_is h
  injection h2 with h3 h4
  subst h3 h4
  obtain ⟨h0, h5, h6, h7⟩ := uR_is h1
  exact ⟨unfold_whole h0, by rw [fold_unfold]; exact h5, h6, by rw [fold_unfold]; exact h7⟩
end Go.Proofs.YtmbdaenjeeklfaaDoor

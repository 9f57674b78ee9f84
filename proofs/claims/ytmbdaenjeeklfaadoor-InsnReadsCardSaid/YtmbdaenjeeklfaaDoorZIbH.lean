/- Texts joined for the claim's sake: IIns, IBck, IForm. -/
import Derived.Test.YtmbdaenjeeklfaaDoorZIbC
import Derived.Test.YtmbdaenjeeklfaaDoorZIbA
/- Instructions as the chapter has them: what forms ops have, whether an instruction may be, its bytes, and what is read from bytes. No program. -/
namespace Go.Proofs.YtmbdaenjeeklfaaDoor

/-- What stands in an instruction. -/
structure Ins where
  op : Int
  a : Int
  b : Int
  c : Int
  d : Int
  l : List Int
/-- What a number is: the greatest one that may be, and whether it is a register. -/
structure Kd where
  most : Int
  reg : Bool
inductive Fld where
  | A
  | B
  | C
  | D
  | N
  | E (i : Nat)
inductive Kl where
  | no
  | plain
  | push
  | one
  | two
  | jump
  | select
  | branch
  | new_
  | spawn
structure Fm where
  hasA : Bool
  b : Kd
  c : Kd
  d : Kd
  least : Nat
  most : Nat
  each : Kd
def clN : Nat → Kl
  | 0 => .plain
  | 1 => .push
  | 2 => .plain
  | 3 => .plain
  | 4 => .plain
  | 5 => .plain
  | 6 => .plain
  | 7 => .plain
  | 8 => .plain
  | 9 => .one
  | 10 => .one
  | 11 => .jump
  | 12 => .jump
  | 13 => .plain
  | 14 => .one
  | 15 => .one
  | 16 => .two
  | 17 => .two
  | 18 => .select
  | 19 => .branch
  | 20 => .new_
  | 21 => .spawn
  | 22 => .one
  | 23 => .two
  | 24 => .plain
  | _ + 25 => .no
def clI (op : Int) : Kl := if op < 0 then .no else clN op.toNat
def k0 : Kd := ⟨0, false⟩
def kR : Kd := ⟨15, true⟩
def fmOf : Kl → Fm
  | .no => ⟨false, k0, k0, k0, 0, 0, k0⟩
  | .plain => ⟨false, k0, k0, k0, 0, 0, k0⟩
  | .push => ⟨true, k0, k0, k0, 0, 0, k0⟩
  | .one => ⟨false, kR, k0, k0, 0, 0, k0⟩
  | .two => ⟨false, kR, kR, k0, 0, 0, k0⟩
  | .jump => ⟨false, k0, k0, k0, 1, 1, ⟨127, false⟩⟩
  | .select => ⟨false, kR, ⟨7, false⟩, k0, 0, 0, k0⟩
  | .branch => ⟨false, kR, k0, k0, 1, 8, ⟨127, false⟩⟩
  | .new_ => ⟨false, ⟨63, false⟩, k0, ⟨1000, false⟩, 2, 2, kR⟩
  | .spawn => ⟨false, ⟨15, false⟩, k0, k0, 0, 8, kR⟩
/-- The operands ahead of the list. -/
def hdF : Kl → List Fld
  | .no => []
  | .plain => []
  | .push => [.A]
  | .one => [.B]
  | .two => [.B, .C]
  | .jump => []
  | .select => [.B, .C]
  | .branch => [.B, .N]
  | .new_ => [.B, .D]
  | .spawn => [.B, .N]
def els (n : Nat) : List Fld := (List.range n).map .E
def kOf (f : Fm) : Fld → Kd
  | .A => k0
  | .B => f.b
  | .C => f.c
  | .D => f.d
  | .N => ⟨f.most, false⟩
  | .E _ => f.each
def val (x : Ins) : Fld → Int
  | .A => x.a
  | .B => x.b
  | .C => x.c
  | .D => x.d
  | .N => x.l.length
  | .E i => x.l.getD i 0
def isA : Fld → Bool
  | .A => true
  | _ => false
def Kd.is0 (k : Kd) : Bool := k.most == 0 && !k.reg
def coversA (f : Fm) (x : Ins) : Bool :=
  (f.hasA || x.a == 0) && (!f.b.is0 || x.b == 0) && (!f.c.is0 || x.c == 0) && (!f.d.is0 || x.d == 0) && decide (f.least ≤ x.l.length) && decide (x.l.length ≤ f.most)
def inK (z : Int) (k : Kd) : Bool := decide (0 ≤ z) && decide (z ≤ k.most)
/-- One operand, behind the registers rs: is it wrong; which registers are there then. -/
def wrongF (f : Fm) (x : Ins) : List Int → List Fld → Bool
  | _, [] => false
  | rs, k :: r => if isA k then wrongF f x rs r else if inK (val x k) (kOf f k) then (if (kOf f k).reg then (if rs.contains (val x k) then true else wrongF f x (rs ++ [val x k]) r) else wrongF f x rs r) else true
def chkC (c : Kl) (x : Ins) : Int := match c with
  | .no => 11
  | c => if coversA (fmOf c) x && !(wrongF (fmOf c) x [] (hdF c ++ els x.l.length)) then 0 else 2
def chkI (x : Ins) : Int := chkC (clI x.op) x

/-! ### BYTES -/
def fB (x : Ins) (k : Fld) : List UInt8 := if isA k then sev (foldN x.a) else sev (val x k).toNat
def opsB (c : Kl) (x : Ins) : List UInt8 := (hdF c ++ els x.l.length).flatMap (fB x)
def bytesI (x : Ins) : List UInt8 := UInt8.ofNat x.op.toNat :: opsB (clI x.op) x

/-! ### READING -/
/-- What is read from a place on: a value and the place behind it, or a fault, its place, and the place behind what was taken. -/
inductive Rs (α : Type) where
  | ok (v : α) (b : Nat)
  | flt (c : Int) (y : Nat) (b : Nat)
def Rs.bind {α β : Type} (r : Rs α) (f : α → Nat → Rs β) : Rs β := match r with
  | .ok v b => f v b
  | .flt c y b => .flt c y b
theorem Rs.bind_ok {α β : Type} (v : α) (b : Nat) (f : α → Nat → Rs β) : (Rs.ok v b).bind f = f v b := rfl
theorem Rs.bind_flt {α β : Type} (c : Int) (y b : Nat) (f : α → Nat → Rs β) : (Rs.flt c y b : Rs α).bind f = .flt c y b := rfl
theorem Rs.bind_is {α β : Type} {r : Rs α} {f : α → Nat → Rs β} {v : β} {b : Nat} (h : r.bind f = .ok v b) : ∃ u a, r = .ok u a ∧ f u a = .ok v b := by
  cases r with
  | ok u a => exact ⟨u, a, rfl, h⟩
  | flt c y b => cases h

/-- How many bytes are taken; none, if they end before. -/
def tk : Nat → List UInt8 → Option Nat
  | 0, _ => none
  | _ + 1, [] => none
  | n + 1, u :: l => if u.toNat < 128 ∨ n = 0 then some 1 else match tk n l with
    | some k => some (k + 1)
    | none => none
def badB (t : List UInt8) : Bool := match t[t.length - 1]? with
  | none => false
  | some u => decide (128 ≤ u.toNat) || (decide (t.length = 10) && decide (1 < u.toNat)) || (decide (1 < t.length) && decide (u.toNat = 0))
def uR (bs : List UInt8) (a : Nat) : Rs Nat := match tk 10 (bs.drop a) with
  | none => .flt 3 bs.length bs.length
  | some k => if badB ((bs.drop a).take k) then .flt 5 a (a + k) else .ok (num ((bs.drop a).take k)) (a + k)
def sR (bs : List UInt8) (a : Nat) : Rs Int := (uR bs a).bind fun n b => .ok (unfoldZ n) b
def smR (bs : List UInt8) (a : Nat) (most : Int) : Rs Int := (uR bs a).bind fun n b => if (n : Int) ≤ most then .ok (n : Int) b else .flt 4 a b
def rdE (most : Int) (bs : List UInt8) : Nat → Nat → Rs (List Int)
  | 0, a => .ok [] a
  | n + 1, a => (smR bs a most).bind fun v b => (rdE most bs n b).bind fun l c => .ok (v :: l) c
def run (f : Fm) (bs : List UInt8) : List Fld → Nat → Ins → Nat → Rs Ins
  | [], n, s, a => (rdE f.each.most bs n a).bind fun l b => .ok { s with l := l } b
  | .A :: r, n, s, a => (sR bs a).bind fun v b => run f bs r n { s with a := v } b
  | .B :: r, n, s, a => (smR bs a f.b.most).bind fun v b => run f bs r n { s with b := v } b
  | .C :: r, n, s, a => (smR bs a f.c.most).bind fun v b => run f bs r n { s with c := v } b
  | .D :: r, n, s, a => (smR bs a f.d.most).bind fun v b => run f bs r n { s with d := v } b
  | .N :: r, _, s, a => (smR bs a f.most).bind fun v b => run f bs r v.toNat s b
  | .E _ :: r, n, s, a => run f bs r n s a
def ins0 (op : Int) : Ins := ⟨op, 0, 0, 0, 0, []⟩
def opsR (c : Kl) (op : Int) (bs : List UInt8) (a : Nat) : Rs Ins := run (fmOf c) bs (hdF c) (fmOf c).most (ins0 op) a
def fin (a : Nat) (r : Rs Ins) : Rs Ins := r.bind fun x b => if chkI x = 0 then .ok x b else .flt (chkI x) a b
def readI (bs : List UInt8) (a : Nat) : Rs Ins := match bs[a]? with
  | none => .flt 3 a a
  | some u => fin a (opsR (clN u.toNat) (u.toNat : Int) bs (a + 1))

/-! ### NUMBERS -/
theorem tk_some : ∀ (n : Nat) (l : List UInt8) (k : Nat), tk n l = some k → 1 ≤ k ∧ k ≤ n ∧ k ≤ l.length ∧ (∀ (j : Nat) (u : UInt8), j + 1 < k → l[j]? = some u → 128 ≤ u.toNat) ∧ (∀ u : UInt8, l[k - 1]? = some u → u.toNat < 128 ∨ k = n) := by
  intro n
  induction n with
  | zero => intro l k h; cases h
  | succ n ih =>
    intro l k h
    cases l with
    | nil => cases h
    | cons u l =>
      rw [tk] at h
      split at h
      · rename_i hc
        injection h with h
        subst h
        refine ⟨by omega, by omega, by simp, fun j v hj => by omega, fun v hv => ?_⟩
        simp at hv
        subst hv
        omega
      · rename_i hc
        split at h
        · rename_i k' hk
          injection h with h
          subst h
          obtain ⟨h1, h2, h3, h4, h5⟩ := ih l k' hk
          refine ⟨by omega, by omega, by simp; omega, fun j v hj hv => ?_, fun v hv => ?_⟩
          · cases j with
            | zero =>
              simp at hv
              subst hv
              omega
            | succ j => exact h4 j v (by omega) (by simpa using hv)
          · have e : k' + 1 - 1 = (k' - 1) + 1 := by omega
            rw [e, List.getElem?_cons_succ] at hv
            have := h5 v hv
            omega
        · cases h
theorem tk_none : ∀ (n : Nat) (l : List UInt8), 1 ≤ n → tk n l = none → l.length < n ∧ ∀ (j : Nat) (u : UInt8), l[j]? = some u → 128 ≤ u.toNat := by
  intro n
  induction n with
  | zero => intro l h; omega
  | succ n ih =>
    intro l _ h
    cases l with
    | nil => exact ⟨by simp, fun j u hu => by simp at hu⟩
    | cons u l =>
      rw [tk] at h
      split at h
      · cases h
      · rename_i hc
        split at h
        · cases h
        · rename_i hk
          obtain ⟨h1, h2⟩ := ih l (by omega) hk
          refine ⟨by simp; omega, fun j v hv => ?_⟩
          cases j with
          | zero =>
            simp at hv
            subst hv
            omega
          | succ j => exact h2 j v (by simpa using hv)
theorem tk_taken {l : List UInt8} {k : Nat} (h : tk 10 l = some k) : Taken l k := by
  obtain ⟨h1, h2, h3, h4, h5⟩ := tk_some 10 l k h
  exact ⟨h1, h2, h3, h4, h5⟩
theorem tk_short {l : List UInt8} (h : tk 10 l = none) : Short l := tk_none 10 l (by omega) h
theorem taken_one {l : List UInt8} {j k : Nat} (h : Taken l j) (h' : Taken l k) (hlt : j < k) : False := by
  have h1 := h'.len
  have hp := h.pos
  have hj : j - 1 < l.length := by omega
  have h3 := h'.high (j - 1) (l[j - 1]) (by omega) (List.getElem?_eq_getElem hj)
  rcases h.last _ (List.getElem?_eq_getElem hj) with h4 | h4
  · omega
  · have := h'.le
    omega
theorem taken_eq {l : List UInt8} {j k : Nat} (h : Taken l j) (h' : Taken l k) : j = k := by
  rcases Nat.lt_trichotomy j k with hl | he | hl
  · exact (taken_one h h' hl).elim
  · exact he
  · exact (taken_one h' h hl).elim
theorem taken_not {l : List UInt8} {k : Nat} (h : Taken l k) (hs : Short l) : False := by
  have h1 := h.len
  have hp := h.pos
  have hj : k - 1 < l.length := by omega
  have h3 := hs.2 (k - 1) _ (List.getElem?_eq_getElem hj)
  rcases h.last _ (List.getElem?_eq_getElem hj) with h4 | h4
  · omega
  · have := hs.1
    omega
theorem tk_of {l : List UInt8} {k : Nat} (h : Taken l k) : tk 10 l = some k := by
  cases e : tk 10 l with
  | none => exact (taken_not h (tk_short e)).elim
  | some j => rw [taken_eq (tk_taken e) h]
theorem tk_ends {l : List UInt8} (h : Short l) : tk 10 l = none := by
  cases e : tk 10 l with
  | none => rfl
  | some j => exact (taken_not (tk_taken e) h).elim
theorem badB_iff (t : List UInt8) : badB t = true ↔ Bad t := by
  unfold badB Bad
  cases e : t[t.length - 1]? with
  | none => simp
  | some u => simp [or_assoc]
theorem uR_ok {bs : List UInt8} {a k : Nat} (h : Taken (bs.drop a) k) (hb : ¬ Bad ((bs.drop a).take k)) : uR bs a = .ok (num ((bs.drop a).take k)) (a + k) := by
  rw [uR, tk_of h]
  exact if_neg (fun h => hb ((badB_iff _).1 h))
theorem uR_bad {bs : List UInt8} {a k : Nat} (h : Taken (bs.drop a) k) (hb : Bad ((bs.drop a).take k)) : uR bs a = .flt 5 a (a + k) := by
  rw [uR, tk_of h]
  exact if_pos ((badB_iff _).2 hb)
theorem uR_short {bs : List UInt8} {a : Nat} (h : Short (bs.drop a)) : uR bs a = .flt 3 bs.length bs.length := by
  rw [uR, tk_ends h]
theorem uR_at {bs rest : List UInt8} {a n : Nat} (hn : n < 18446744073709551616) (he : bs.drop a = sev n ++ rest) : uR bs a = .ok n (a + (sev n).length) := by
  have h1 := taken_sev hn rest
  rw [← he] at h1
  have h2 : (bs.drop a).take (sev n).length = sev n := by rw [he, List.take_left]
  rw [uR_ok h1 (by rw [h2]; exact good_sev hn), h2, num_sev]
theorem uR_cut {bs : List UInt8} {a n j : Nat} (hn : n < 18446744073709551616) (hj : j < (sev n).length) (he : bs.drop a = (sev n).take j) : uR bs a = .flt 3 bs.length bs.length := by
  refine uR_short ?_
  have h10 := sev_len10 hn
  rw [he]
  refine ⟨by rw [List.length_take]; omega, fun i u hu => ?_⟩
  have hi : i < j := by
    have := (List.getElem?_eq_some_iff.1 hu).1
    rw [List.length_take] at this
    omega
  rw [List.getElem?_take_of_lt hi] at hu
  exact sev_high n i u (by omega) hu
theorem uR_is {bs : List UInt8} {a n b : Nat} (h : uR bs a = .ok n b) : n < 18446744073709551616 ∧ b = a + (sev n).length ∧ b ≤ bs.length ∧ bs.drop a = sev n ++ bs.drop b := by
  unfold uR at h
  split at h
  · cases h
  · rename_i k hk
    split at h
    · cases h
    · rename_i hb
      injection h with h1 h2
      have ht := tk_taken hk
      obtain ⟨h3, h4⟩ := sev_of_taken ht (fun h => hb ((badB_iff _).2 h))
      rw [h1] at h3 h4
      have hl := ht.len
      rw [List.length_drop] at hl
      have h5 : (sev n).length = k := by rw [h3, List.length_take, List.length_drop]; omega
      refine ⟨h4, by omega, by have := ht.pos; omega, ?_⟩
      rw [h3, ← h2, ← List.drop_drop, List.take_append_drop]
theorem smR_at {bs rest : List UInt8} {a : Nat} {z most : Int} (h0 : 0 ≤ z) (hm : z ≤ most) (hb : most ≤ 1000) (he : bs.drop a = sev z.toNat ++ rest) : smR bs a most = .ok z (a + (sev z.toNat).length) := by
  rw [smR, uR_at (by omega) he, Rs.bind_ok]
  have : (z.toNat : Int) = z := by omega
  rw [this, if_pos hm]
theorem smR_cut {bs : List UInt8} {a j : Nat} {z most : Int} (_ : 0 ≤ z) (hm : z ≤ most) (hb : most ≤ 1000) (hj : j < (sev z.toNat).length) (he : bs.drop a = (sev z.toNat).take j) : smR bs a most = .flt 3 bs.length bs.length := by
  rw [smR, uR_cut (by omega) hj he, Rs.bind_flt]
theorem sR_at {bs rest : List UInt8} {a : Nat} {z : Int} (hz : Whole z) (he : bs.drop a = sev (foldN z) ++ rest) : sR bs a = .ok z (a + (sev (foldN z)).length) := by
  rw [sR, uR_at (foldN_lt hz) he, Rs.bind_ok, unfold_fold]
theorem sR_cut {bs : List UInt8} {a j : Nat} {z : Int} (hz : Whole z) (hj : j < (sev (foldN z)).length) (he : bs.drop a = (sev (foldN z)).take j) : sR bs a = .flt 3 bs.length bs.length := by
  rw [sR, uR_cut (foldN_lt hz) hj he, Rs.bind_flt]
theorem fold_unfold (n : Nat) : foldN (unfoldZ n) = n := by
  unfold unfoldZ foldN
  split <;> split <;> omega
theorem smR_is {bs : List UInt8} {a b : Nat} {z most : Int} (h : smR bs a most = .ok z b) : 0 ≤ z ∧ z ≤ most ∧ b = a + (sev z.toNat).length ∧ b ≤ bs.length ∧ bs.drop a = sev z.toNat ++ bs.drop b := by
  obtain ⟨n, c, h1, h2⟩ := Rs.bind_is h
  split at h2
  · rename_i hm
    injection h2 with h3 h4
    subst h3 h4
    obtain ⟨_, h5, h6, h7⟩ := uR_is h1
    exact ⟨by omega, hm, by simpa using h5, h6, by simpa using h7⟩
  · cases h2
theorem sR_is {bs : List UInt8} {a b : Nat} {z : Int} (h : sR bs a = .ok z b) : Whole z ∧ b = a + (sev (foldN z)).length ∧ b ≤ bs.length ∧ bs.drop a = sev (foldN z) ++ bs.drop b := by
  obtain ⟨n, c, h1, h2⟩ := Rs.bind_is h
  injection h2 with h3 h4
  subst h3 h4
  obtain ⟨h0, h5, h6, h7⟩ := uR_is h1
  exact ⟨unfold_whole h0, by rw [fold_unfold]; exact h5, h6, by rw [fold_unfold]; exact h7⟩
end Go.Proofs.YtmbdaenjeeklfaaDoor

/- Instructions: what is laid is read back, what is read is what is laid, and what is cut is told where it ends. No program. -/
namespace Go.Proofs.YtmbdaenjeeklfaaDoor

theorem drop_next {bs x y : List UInt8} {a : Nat} (h : bs.drop a = x ++ y) : bs.drop (a + x.length) = y := by
  rw [← List.drop_drop, h, List.drop_left]
def sevZ (z : Int) : List UInt8 := sev z.toNat
theorem list_getD (l : List Int) : l = (List.range l.length).map (fun i => l.getD i 0) := by
  refine List.ext_getElem (by simp) (fun i h1 h2 => ?_)
  simp [List.getD_eq_getElem?_getD, h1]
theorem els_flat (x : Ins) : (els x.l.length).flatMap (fB x) = x.l.flatMap sevZ := by
  have h : ∀ r : List Nat, (r.map Fld.E).flatMap (fB x) = (r.map (fun i => x.l.getD i 0)).flatMap sevZ := by
    intro r
    induction r with
    | nil => rfl
    | cons i r ih => rw [List.map_cons, List.map_cons, List.flatMap_cons, List.flatMap_cons, ih]; rfl
  unfold els
  rw [h, ← list_getD]
theorem opsB_eq (c : Kl) (x : Ins) : opsB c x = (hdF c).flatMap (fB x) ++ x.l.flatMap sevZ := by
  unfold opsB
  rw [List.flatMap_append, els_flat]
theorem inK_iff {z : Int} {k : Kd} : inK z k = true ↔ 0 ≤ z ∧ z ≤ k.most := by simp [inK]
theorem sevZ_pos (z : Int) : 1 ≤ (sevZ z).length := sev_pos _

theorem rdE_at {most : Int} (hb : most ≤ 1000) {bs : List UInt8} : ∀ (l : List Int) (a : Nat) (rest : List UInt8), (∀ z ∈ l, 0 ≤ z ∧ z ≤ most) → bs.drop a = l.flatMap sevZ ++ rest → rdE most bs l.length a = .ok l (a + (l.flatMap sevZ).length) := by
  intro l
  induction l with
  | nil => intro a rest _ _; rfl
  | cons z l ih =>
    intro a rest hz he
    rw [List.flatMap_cons, List.append_assoc] at he
    obtain ⟨h0, h1⟩ := hz z (List.mem_cons_self)
    have e1 : smR bs a most = .ok z (a + (sevZ z).length) := smR_at h0 h1 hb he
    rw [List.length_cons, rdE, e1, Rs.bind_ok, ih _ rest (fun z h => hz z (List.mem_cons_of_mem _ h)) (drop_next he), Rs.bind_ok, List.flatMap_cons, List.length_append, Nat.add_assoc]
theorem rdE_cut {most : Int} (hb : most ≤ 1000) {bs : List UInt8} : ∀ (l : List Int) (a j : Nat), (∀ z ∈ l, 0 ≤ z ∧ z ≤ most) → j < (l.flatMap sevZ).length → bs.drop a = (l.flatMap sevZ).take j → rdE most bs l.length a = .flt 3 bs.length bs.length := by
  intro l
  induction l with
  | nil => intro a j _ h; simp at h
  | cons z l ih =>
    intro a j hz hj he
    rw [List.flatMap_cons] at he hj
    rw [List.length_append] at hj
    obtain ⟨h0, h1⟩ := hz z (List.mem_cons_self)
    rw [List.length_cons, rdE]
    by_cases hlt : j < (sevZ z).length
    · rw [List.take_append_of_le_length (by omega)] at he
      have e1 : smR bs a most = .flt 3 bs.length bs.length := smR_cut h0 h1 hb hlt he
      rw [e1, Rs.bind_flt]
    · rw [List.take_append, List.take_of_length_le (by omega)] at he
      have e1 : smR bs a most = .ok z (a + (sevZ z).length) := smR_at h0 h1 hb he
      rw [e1, Rs.bind_ok, ih _ (j - (sevZ z).length) (fun z h => hz z (List.mem_cons_of_mem _ h)) (by omega) (drop_next he), Rs.bind_flt]
theorem rdE_is {most : Int} {bs : List UInt8} : ∀ (n a : Nat) (l : List Int) (b : Nat), a ≤ bs.length → rdE most bs n a = .ok l b → l.length = n ∧ (∀ z ∈ l, 0 ≤ z ∧ z ≤ most) ∧ b = a + (l.flatMap sevZ).length ∧ b ≤ bs.length ∧ bs.drop a = l.flatMap sevZ ++ bs.drop b := by
  intro n
  induction n with
  | zero =>
    intro a l b ha h
    injection h with h1 h2
    subst h1 h2
    exact ⟨rfl, by simp, by simp, ha, by simp⟩
  | succ n ih =>
    intro a l b ha h
    obtain ⟨v, c, h1, h2⟩ := Rs.bind_is h
    obtain ⟨l', d, h3, h4⟩ := Rs.bind_is h2
    injection h4 with h4 h5
    subst h4 h5
    obtain ⟨k0, k1, k2, k3, k4⟩ := smR_is h1
    obtain ⟨m1, m2, m3, m4, m5⟩ := ih c l' d k3 h3
    refine ⟨by rw [List.length_cons, m1], fun z hz => ?_, ?_, m4, ?_⟩
    · rcases List.mem_cons.1 hz with rfl | hz
      · exact ⟨k0, k1⟩
      · exact m2 z hz
    · rw [List.flatMap_cons, List.length_append, m3, k2, Nat.add_assoc]; rfl
    · rw [List.flatMap_cons, List.append_assoc, ← m5]; exact k4

def setFl (x s : Ins) : Fld → Ins
  | .A => { s with a := x.a }
  | .B => { s with b := x.b }
  | .C => { s with c := x.c }
  | .D => { s with d := x.d }
  | .N => s
  | .E _ => s
def notE : Fld → Bool
  | .E _ => false
  | _ => true
/-- What is asked of operands that may be. -/
def GoodL (f : Fm) (x : Ins) (td : List Fld) : Prop := ∀ k ∈ td, notE k = true ∧ (isA k = true ∨ (0 ≤ val x k ∧ val x k ≤ (kOf f k).most))

theorem run_at {f : Fm} (hf : ∀ k, (kOf f k).most ≤ 1000) {x : Ins} (ha : Whole x.a) (he : ∀ z ∈ x.l, 0 ≤ z ∧ z ≤ f.each.most) {bs : List UInt8} : ∀ (td : List Fld) (n : Nat) (s : Ins) (a : Nat) (rest : List UInt8), GoodL f x td → (n = x.l.length ∨ Fld.N ∈ td) →
    bs.drop a = td.flatMap (fB x) ++ (x.l.flatMap sevZ ++ rest) → run f bs td n s a = .ok { td.foldl (setFl x) s with l := x.l } (a + (td.flatMap (fB x) ++ x.l.flatMap sevZ).length) := by
  intro td
  induction td with
  | nil =>
    intro n s a rest _ hn hd
    rcases hn with rfl | hn
    · have e := rdE_at (hf (.E 0)) x.l a rest he hd
      show (rdE f.each.most bs x.l.length a).bind _ = _
      rw [show f.each.most = (kOf f (.E 0)).most from rfl, e, Rs.bind_ok]
      rfl
    · simp at hn
  | cons k r ih =>
    intro n s a rest hg hn hd
    obtain ⟨hk1, hk2⟩ := hg k (List.mem_cons_self)
    have hg' : GoodL f x r := fun k h => hg k (List.mem_cons_of_mem _ h)
    rw [List.flatMap_cons, List.append_assoc] at hd
    have hnx := drop_next hd
    have hlen : ∀ b, b = a + (fB x k).length → (b + (r.flatMap (fB x) ++ x.l.flatMap sevZ).length) = a + ((k :: r).flatMap (fB x) ++ x.l.flatMap sevZ).length := by
      intro b hb
      rw [List.flatMap_cons]; simp only [List.length_append]; omega
    cases k with
    | A =>
      have hn' : n = x.l.length ∨ Fld.N ∈ r := by simpa using hn
      have e1 : sR bs a = .ok x.a (a + (fB x .A).length) := sR_at ha hd
      rw [run, e1, Rs.bind_ok, ih n _ _ rest hg' hn' hnx, hlen _ rfl]
      rfl
    | B =>
      have hn' : n = x.l.length ∨ Fld.N ∈ r := by simpa using hn
      have h2 := hk2.resolve_left (by simp [isA])
      have e1 : smR bs a f.b.most = .ok x.b (a + (fB x .B).length) := smR_at h2.1 h2.2 (hf .B) hd
      rw [run, e1, Rs.bind_ok, ih n _ _ rest hg' hn' hnx, hlen _ rfl]
      rfl
    | C =>
      have hn' : n = x.l.length ∨ Fld.N ∈ r := by simpa using hn
      have h2 := hk2.resolve_left (by simp [isA])
      have e1 : smR bs a f.c.most = .ok x.c (a + (fB x .C).length) := smR_at h2.1 h2.2 (hf .C) hd
      rw [run, e1, Rs.bind_ok, ih n _ _ rest hg' hn' hnx, hlen _ rfl]
      rfl
    | D =>
      have hn' : n = x.l.length ∨ Fld.N ∈ r := by simpa using hn
      have h2 := hk2.resolve_left (by simp [isA])
      have e1 : smR bs a f.d.most = .ok x.d (a + (fB x .D).length) := smR_at h2.1 h2.2 (hf .D) hd
      rw [run, e1, Rs.bind_ok, ih n _ _ rest hg' hn' hnx, hlen _ rfl]
      rfl
    | N =>
      have h2 := hk2.resolve_left (by simp [isA])
      have e1 : smR bs a f.most = .ok (x.l.length : Int) (a + (fB x .N).length) := smR_at h2.1 h2.2 (hf .N) hd
      rw [run, e1, Rs.bind_ok, ih _ _ _ rest hg' (.inl (by simp)) hnx, hlen _ rfl]
      rfl
    | E i => cases hk1
theorem run_cut {f : Fm} (hf : ∀ k, (kOf f k).most ≤ 1000) {x : Ins} (ha : Whole x.a) (he : ∀ z ∈ x.l, 0 ≤ z ∧ z ≤ f.each.most) {bs : List UInt8} : ∀ (td : List Fld) (n : Nat) (s : Ins) (a j : Nat), GoodL f x td → (n = x.l.length ∨ Fld.N ∈ td) →
    j < (td.flatMap (fB x) ++ x.l.flatMap sevZ).length → bs.drop a = (td.flatMap (fB x) ++ x.l.flatMap sevZ).take j → run f bs td n s a = .flt 3 bs.length bs.length := by
  intro td
  induction td with
  | nil =>
    intro n s a j _ hn hj hd
    rcases hn with rfl | hn
    · have e := rdE_cut (hf (.E 0)) x.l a j he hj hd
      show (rdE f.each.most bs x.l.length a).bind _ = _
      rw [show f.each.most = (kOf f (.E 0)).most from rfl, e, Rs.bind_flt]
    · simp at hn
  | cons k r ih =>
    intro n s a j hg hn hj hd
    obtain ⟨hk1, hk2⟩ := hg k (List.mem_cons_self)
    have hg' : GoodL f x r := fun k h => hg k (List.mem_cons_of_mem _ h)
    rw [List.flatMap_cons, List.append_assoc] at hd hj
    rw [List.length_append] at hj
    by_cases hlt : j < (fB x k).length
    · rw [List.take_append_of_le_length (by omega)] at hd
      cases k with
      | A =>
        have e1 : sR bs a = .flt 3 bs.length bs.length := sR_cut ha hlt hd
        rw [run, e1, Rs.bind_flt]
      | B =>
        have h2 := hk2.resolve_left (by simp [isA])
        have e1 : smR bs a f.b.most = .flt 3 bs.length bs.length := smR_cut h2.1 h2.2 (hf .B) hlt hd
        rw [run, e1, Rs.bind_flt]
      | C =>
        have h2 := hk2.resolve_left (by simp [isA])
        have e1 : smR bs a f.c.most = .flt 3 bs.length bs.length := smR_cut h2.1 h2.2 (hf .C) hlt hd
        rw [run, e1, Rs.bind_flt]
      | D =>
        have h2 := hk2.resolve_left (by simp [isA])
        have e1 : smR bs a f.d.most = .flt 3 bs.length bs.length := smR_cut h2.1 h2.2 (hf .D) hlt hd
        rw [run, e1, Rs.bind_flt]
      | N =>
        have h2 := hk2.resolve_left (by simp [isA])
        have e1 : smR bs a f.most = .flt 3 bs.length bs.length := smR_cut h2.1 h2.2 (hf .N) hlt hd
        rw [run, e1, Rs.bind_flt]
      | E i => cases hk1
    · rw [List.take_append, List.take_of_length_le (by omega)] at hd
      have hnx := drop_next hd
      have hj' : j - (fB x k).length < (r.flatMap (fB x) ++ x.l.flatMap sevZ).length := by omega
      cases k with
      | A =>
        have hn' : n = x.l.length ∨ Fld.N ∈ r := by simpa using hn
        have e1 : sR bs a = .ok x.a (a + (fB x .A).length) := sR_at ha hd
        rw [run, e1, Rs.bind_ok, ih n _ _ _ hg' hn' hj' hnx]
      | B =>
        have hn' : n = x.l.length ∨ Fld.N ∈ r := by simpa using hn
        have h2 := hk2.resolve_left (by simp [isA])
        have e1 : smR bs a f.b.most = .ok x.b (a + (fB x .B).length) := smR_at h2.1 h2.2 (hf .B) hd
        rw [run, e1, Rs.bind_ok, ih n _ _ _ hg' hn' hj' hnx]
      | C =>
        have hn' : n = x.l.length ∨ Fld.N ∈ r := by simpa using hn
        have h2 := hk2.resolve_left (by simp [isA])
        have e1 : smR bs a f.c.most = .ok x.c (a + (fB x .C).length) := smR_at h2.1 h2.2 (hf .C) hd
        rw [run, e1, Rs.bind_ok, ih n _ _ _ hg' hn' hj' hnx]
      | D =>
        have hn' : n = x.l.length ∨ Fld.N ∈ r := by simpa using hn
        have h2 := hk2.resolve_left (by simp [isA])
        have e1 : smR bs a f.d.most = .ok x.d (a + (fB x .D).length) := smR_at h2.1 h2.2 (hf .D) hd
        rw [run, e1, Rs.bind_ok, ih n _ _ _ hg' hn' hj' hnx]
      | N =>
        have h2 := hk2.resolve_left (by simp [isA])
        have e1 : smR bs a f.most = .ok (x.l.length : Int) (a + (fB x .N).length) := smR_at h2.1 h2.2 (hf .N) hd
        rw [run, e1, Rs.bind_ok, ih _ _ _ _ hg' (.inl (by simp)) hj' hnx]
      | E i => cases hk1

/-! ### WHAT MAY BE -/
theorem wrongF_in {f : Fm} {x : Ins} : ∀ (td : List Fld) (rs : List Int), wrongF f x rs td = false → ∀ k ∈ td, isA k = true ∨ (0 ≤ val x k ∧ val x k ≤ (kOf f k).most) := by
  intro td
  induction td with
  | nil => intro rs _ k hk; simp at hk
  | cons u r ih =>
    intro rs h k hk
    rw [wrongF] at h
    have hu : (isA u = true ∨ (0 ≤ val x u ∧ val x u ≤ (kOf f u).most)) ∧ ∃ rs', wrongF f x rs' r = false := by
      split at h
      · rename_i h1
        exact ⟨.inl h1, _, h⟩
      · split at h
        · rename_i h2
          refine ⟨.inr (inK_iff.1 h2), ?_⟩
          split at h
          · split at h
            · cases h
            · exact ⟨_, h⟩
          · exact ⟨_, h⟩
        · cases h
    rcases List.mem_cons.1 hk with rfl | hk
    · exact hu.1
    · obtain ⟨rs', h'⟩ := hu.2
      exact ih rs' h' k hk
structure May (c : Kl) (x : Ins) : Prop where
  ne : c ≠ .no
  cov : coversA (fmOf c) x = true
  in_ : ∀ k ∈ hdF c ++ els x.l.length, isA k = true ∨ (0 ≤ val x k ∧ val x k ≤ (kOf (fmOf c) k).most)
theorem may_of {c : Kl} {x : Ins} (h : chkC c x = 0) : May c x := by
  have H : ∀ c, c ≠ Kl.no → (if coversA (fmOf c) x && !(wrongF (fmOf c) x [] (hdF c ++ els x.l.length)) then (0 : Int) else 2) = 0 → May c x := by
    intro c hc h
    split at h
    · rename_i h1
      simp only [Bool.and_eq_true, Bool.not_eq_true'] at h1
      exact ⟨hc, h1.1, wrongF_in _ _ h1.2⟩
    · cases h
  cases c
  case no => simp [chkC] at h
  all_goals exact H _ (by simp) h
theorem May.els_ {c : Kl} {x : Ins} (h : May c x) : ∀ z ∈ x.l, 0 ≤ z ∧ z ≤ (fmOf c).each.most := by
  intro z hz
  obtain ⟨i, hi, rfl⟩ := List.getElem_of_mem hz
  have hm : Fld.E i ∈ hdF c ++ els x.l.length := List.mem_append_right _ (List.mem_map.2 ⟨i, List.mem_range.2 hi, rfl⟩)
  have h2 := (h.in_ _ hm).resolve_left (by simp [isA])
  have e : val x (.E i) = x.l[i] := by simp [val, List.getD_eq_getElem?_getD, hi]
  rw [e] at h2
  exact h2
theorem May.good {c : Kl} {x : Ins} (h : May c x) : GoodL (fmOf c) x (hdF c) := by
  intro k hk
  refine ⟨?_, h.in_ k (List.mem_append_left _ hk)⟩
  revert k
  cases c <;> simp [hdF, notE]
theorem kOf_le (c : Kl) (k : Fld) : (kOf (fmOf c) k).most ≤ 1000 := by
  cases c <;> cases k <;> simp [kOf, fmOf, k0, kR]
theorem May.parts {c : Kl} {x : Ins} (h : May c x) : ((fmOf c).hasA = true ∨ x.a = 0) ∧ ((fmOf c).b.is0 = false ∨ x.b = 0) ∧ ((fmOf c).c.is0 = false ∨ x.c = 0) ∧ ((fmOf c).d.is0 = false ∨ x.d = 0) ∧ (fmOf c).least ≤ x.l.length ∧ x.l.length ≤ (fmOf c).most := by
  have := h.cov
  simp [coversA, and_assoc] at this
  exact this
theorem May.count {c : Kl} {x : Ins} (h : May c x) : (fmOf c).most = x.l.length ∨ Fld.N ∈ hdF c := by
  obtain ⟨_, _, _, _, h1, h2⟩ := h.parts
  cases c <;> simp [fmOf, hdF] at h1 h2 ⊢ <;> first | omega | (rw [h2]; rfl)
theorem May.whole {c : Kl} {x : Ins} (h : May c x) : { (hdF c).foldl (setFl x) (ins0 x.op) with l := x.l } = x := by
  obtain ⟨op, a, b, cc, d, l⟩ := x
  obtain ⟨h1, h2, h3, h4, _, _⟩ := h.parts
  cases c <;> simp [fmOf, k0, kR, Kd.is0] at h1 h2 h3 h4 <;> simp [hdF, setFl, ins0, *]
theorem opsR_at {c : Kl} {x : Ins} (h : May c x) (ha : Whole x.a) {bs rest : List UInt8} {a : Nat} (hd : bs.drop a = opsB c x ++ rest) : opsR c x.op bs a = .ok x (a + (opsB c x).length) := by
  rw [opsB_eq, List.append_assoc] at hd
  unfold opsR
  rw [run_at (kOf_le c) ha h.els_ (hdF c) _ (ins0 x.op) a rest h.good h.count hd, h.whole, opsB_eq]
theorem opsR_cut {c : Kl} {x : Ins} (h : May c x) (ha : Whole x.a) {bs : List UInt8} {a j : Nat} (hj : j < (opsB c x).length) (hd : bs.drop a = (opsB c x).take j) : opsR c x.op bs a = .flt 3 bs.length bs.length := by
  rw [opsB_eq] at hd hj
  exact run_cut (kOf_le c) ha h.els_ (hdF c) _ (ins0 x.op) a j h.good h.count hj hd

theorem chkI_op {x : Ins} (h : chkI x = 0) : 0 ≤ x.op ∧ x.op ≤ 24 ∧ clN x.op.toNat = clI x.op ∧ (UInt8.ofNat x.op.toNat).toNat = x.op.toNat := by
  have hm := (may_of h).ne
  unfold clI at hm
  split at hm
  · exact absurd rfl hm
  · rename_i h0
    have h24 : x.op.toNat ≤ 24 := by
      rcases Nat.lt_or_ge 24 x.op.toNat with hlt | hge
      · exfalso
        apply hm
        obtain ⟨m, hmm⟩ : ∃ m, x.op.toNat = m + 25 := ⟨x.op.toNat - 25, by omega⟩
        rw [hmm, clN]
      · exact hge
    refine ⟨by omega, by omega, ?_, u8_ofNat (by omega)⟩
    unfold clI
    rw [if_neg h0]
/-- What was laid is read back. -/
theorem readI_at {x : Ins} (h : chkI x = 0) (ha : Whole x.a) {bs rest : List UInt8} {a : Nat} (hd : bs.drop a = bytesI x ++ rest) : readI bs a = .ok x (a + (bytesI x).length) := by
  obtain ⟨h0, h1, h2, h3⟩ := chkI_op h
  have hb : bs[a]? = some (UInt8.ofNat x.op.toNat) := by
    have : (bs.drop a)[0]? = some (UInt8.ofNat x.op.toNat) := by rw [hd]; rfl
    rwa [List.getElem?_drop] at this
  have hd2 : bs.drop (a + 1) = opsB (clI x.op) x ++ rest := drop_next (x := [UInt8.ofNat x.op.toNat]) hd
  have ho : ((x.op.toNat : Nat) : Int) = x.op := by omega
  have e := opsR_at (may_of h) ha hd2
  unfold readI
  rw [hb]
  show fin a (opsR (clN (UInt8.ofNat x.op.toNat).toNat) ((UInt8.ofNat x.op.toNat).toNat : Int) bs (a + 1)) = _
  rw [h3, h2, ho, e]
  unfold fin
  rw [Rs.bind_ok, if_pos h]
  unfold bytesI
  rw [List.length_cons, Nat.add_assoc, Nat.add_comm 1]
theorem readI_cut {x : Ins} (h : chkI x = 0) (ha : Whole x.a) {k : Nat} (hk : k < (bytesI x).length) : readI ((bytesI x).take k) 0 = .flt 3 k k := by
  have hl : ((bytesI x).take k).length = k := by rw [List.length_take]; omega
  cases k with
  | zero => rfl
  | succ k =>
    obtain ⟨h0, h1, h2, h3⟩ := chkI_op h
    have hb : ((bytesI x).take (k + 1))[0]? = some (UInt8.ofNat x.op.toNat) := rfl
    have ho : ((x.op.toNat : Nat) : Int) = x.op := by omega
    have hk' : k < (opsB (clI x.op) x).length := by unfold bytesI at hk; rw [List.length_cons] at hk; omega
    have e := opsR_cut (may_of h) ha (bs := (bytesI x).take (k + 1)) (a := 0 + 1) hk' rfl
    unfold readI
    rw [hb]
    show fin 0 (opsR (clN (UInt8.ofNat x.op.toNat).toNat) ((UInt8.ofNat x.op.toNat).toNat : Int) _ (0 + 1)) = _
    rw [h3, h2, ho, e, hl]
    rfl

/-- What is read is what is laid. -/
theorem opsR_is {c : Kl} {op : Int} {bs : List UInt8} {a b : Nat} {y : Ins} (ha : a ≤ bs.length) (h : opsR c op bs a = .ok y b) : y.op = op ∧ Whole y.a ∧ b = a + (opsB c y).length ∧ b ≤ bs.length ∧ bs.drop a = opsB c y ++ bs.drop b := by
  have w0 : Whole 0 := ⟨by decide, by decide⟩
  rw [opsB_eq]
  unfold opsR at h
  have H0 : ∀ (n : Nat) (s : Ins) (a b : Nat) (most : Int), a ≤ bs.length → ((rdE most bs n a).bind fun l b => Rs.ok { s with l := l } b) = Rs.ok y b → ∃ l, y = { s with l := l } ∧ l.length = n ∧ b = a + (l.flatMap sevZ).length ∧ b ≤ bs.length ∧ bs.drop a = l.flatMap sevZ ++ bs.drop b := by
    intro n s a b most ha h
    obtain ⟨l, b', h1, h2⟩ := Rs.bind_is h
    injection h2 with h2 h3
    subst h2 h3
    obtain ⟨k1, _, k3, k4, k5⟩ := rdE_is n a l b' ha h1
    exact ⟨l, rfl, k1, k3, k4, k5⟩
  have HC : ∀ (x r : List UInt8) (b c : Nat), b = a + x.length → bs.drop a = x ++ bs.drop b → c = b + r.length → bs.drop b = r ++ bs.drop c → c = a + (x ++ r).length ∧ bs.drop a = (x ++ r) ++ bs.drop c := by
    intro x r b c h1 h2 h3 h4
    refine ⟨by rw [List.length_append]; omega, by rw [h2, h4, List.append_assoc]⟩
  cases c with
  | no =>
    obtain ⟨l, rfl, h1, h2, h3, h4⟩ := H0 _ _ _ _ _ ha h
    exact ⟨rfl, w0, h2, h3, h4⟩
  | plain =>
    obtain ⟨l, rfl, h1, h2, h3, h4⟩ := H0 _ _ _ _ _ ha h
    exact ⟨rfl, w0, h2, h3, h4⟩
  | jump =>
    obtain ⟨l, rfl, h1, h2, h3, h4⟩ := H0 _ _ _ _ _ ha h
    exact ⟨rfl, w0, h2, h3, h4⟩
  | push =>
    obtain ⟨v, b1, h1, h2⟩ := Rs.bind_is h
    obtain ⟨l, rfl, k1, k2, k3, k4⟩ := H0 _ _ _ _ _ (sR_is h1).2.2.1 h2
    obtain ⟨m0, m1, m2, m3⟩ := sR_is h1
    obtain ⟨n1, n2⟩ := HC _ _ _ _ m1 m3 k2 k4
    exact ⟨rfl, m0, by simpa [hdF, fB, isA] using n1, k3, by simpa [hdF, fB, isA] using n2⟩
  | one =>
    obtain ⟨v, b1, h1, h2⟩ := Rs.bind_is h
    obtain ⟨m0, m1, m2, m3, m4⟩ := smR_is h1
    obtain ⟨l, rfl, k1, k2, k3, k4⟩ := H0 _ _ _ _ _ m3 h2
    obtain ⟨n1, n2⟩ := HC _ _ _ _ m2 m4 k2 k4
    exact ⟨rfl, w0, by simpa [hdF, fB, isA, val] using n1, k3, by simpa [hdF, fB, isA, val] using n2⟩
  | two =>
    obtain ⟨v, b1, h1, h2⟩ := Rs.bind_is h
    obtain ⟨m0, m1, m2, m3, m4⟩ := smR_is h1
    obtain ⟨v', b2, h3, h4⟩ := Rs.bind_is h2
    obtain ⟨q0, q1, q2, q3, q4⟩ := smR_is h3
    obtain ⟨l, rfl, k1, k2, k3, k4⟩ := H0 _ _ _ _ _ q3 h4
    obtain ⟨p1, p2⟩ := HC _ _ _ _ m2 m4 q2 q4
    obtain ⟨n1, n2⟩ := HC _ _ _ _ p1 p2 k2 k4
    exact ⟨rfl, w0, by simpa [hdF, fB, isA, val] using n1, k3, by simpa [hdF, fB, isA, val] using n2⟩
  | select =>
    obtain ⟨v, b1, h1, h2⟩ := Rs.bind_is h
    obtain ⟨m0, m1, m2, m3, m4⟩ := smR_is h1
    obtain ⟨v', b2, h3, h4⟩ := Rs.bind_is h2
    obtain ⟨q0, q1, q2, q3, q4⟩ := smR_is h3
    obtain ⟨l, rfl, k1, k2, k3, k4⟩ := H0 _ _ _ _ _ q3 h4
    obtain ⟨p1, p2⟩ := HC _ _ _ _ m2 m4 q2 q4
    obtain ⟨n1, n2⟩ := HC _ _ _ _ p1 p2 k2 k4
    exact ⟨rfl, w0, by simpa [hdF, fB, isA, val] using n1, k3, by simpa [hdF, fB, isA, val] using n2⟩
  | new_ =>
    obtain ⟨v, b1, h1, h2⟩ := Rs.bind_is h
    obtain ⟨m0, m1, m2, m3, m4⟩ := smR_is h1
    obtain ⟨v', b2, h3, h4⟩ := Rs.bind_is h2
    obtain ⟨q0, q1, q2, q3, q4⟩ := smR_is h3
    obtain ⟨l, rfl, k1, k2, k3, k4⟩ := H0 _ _ _ _ _ q3 h4
    obtain ⟨p1, p2⟩ := HC _ _ _ _ m2 m4 q2 q4
    obtain ⟨n1, n2⟩ := HC _ _ _ _ p1 p2 k2 k4
    exact ⟨rfl, w0, by simpa [hdF, fB, isA, val] using n1, k3, by simpa [hdF, fB, isA, val] using n2⟩
  | branch =>
    obtain ⟨v, b1, h1, h2⟩ := Rs.bind_is h
    obtain ⟨m0, m1, m2, m3, m4⟩ := smR_is h1
    obtain ⟨v', b2, h3, h4⟩ := Rs.bind_is h2
    obtain ⟨q0, q1, q2, q3, q4⟩ := smR_is h3
    obtain ⟨l, rfl, k1, k2, k3, k4⟩ := H0 _ _ _ _ _ q3 h4
    obtain ⟨p1, p2⟩ := HC _ _ _ _ m2 m4 q2 q4
    obtain ⟨n1, n2⟩ := HC _ _ _ _ p1 p2 k2 k4
    have hv : max v' 0 = v' := by omega
    exact ⟨rfl, w0, by simpa [hdF, fB, isA, val, k1, hv] using n1, k3, by simpa [hdF, fB, isA, val, k1, hv] using n2⟩
  | spawn =>
    obtain ⟨v, b1, h1, h2⟩ := Rs.bind_is h
    obtain ⟨m0, m1, m2, m3, m4⟩ := smR_is h1
    obtain ⟨v', b2, h3, h4⟩ := Rs.bind_is h2
    obtain ⟨q0, q1, q2, q3, q4⟩ := smR_is h3
    obtain ⟨l, rfl, k1, k2, k3, k4⟩ := H0 _ _ _ _ _ q3 h4
    obtain ⟨p1, p2⟩ := HC _ _ _ _ m2 m4 q2 q4
    obtain ⟨n1, n2⟩ := HC _ _ _ _ p1 p2 k2 k4
    have hv : max v' 0 = v' := by omega
    exact ⟨rfl, w0, by simpa [hdF, fB, isA, val, k1, hv] using n1, k3, by simpa [hdF, fB, isA, val, k1, hv] using n2⟩
theorem readI_is {bs : List UInt8} {a b : Nat} {y : Ins} (h : readI bs a = .ok y b) : chkI y = 0 ∧ Whole y.a ∧ b = a + (bytesI y).length ∧ b ≤ bs.length ∧ bs.drop a = bytesI y ++ bs.drop b := by
  unfold readI at h
  split at h
  · cases h
  · rename_i u hu
    obtain ⟨hlt, he⟩ := List.getElem?_eq_some_iff.1 hu
    unfold fin at h
    obtain ⟨x, c, h1, h2⟩ := Rs.bind_is h
    split at h2
    · rename_i h0
      injection h2 with h3 h4
      subst h3 h4
      obtain ⟨k1, k2, k3, k4, k5⟩ := opsR_is (by omega) h1
      have hc : clI x.op = clN u.toNat := by
        unfold clI
        rw [k1, if_neg (by omega)]
        rfl
      have hb : bytesI x = u :: opsB (clN u.toNat) x := by
        unfold bytesI
        rw [hc, k1]
        simp
      rw [hb, List.length_cons]
      refine ⟨h0, k2, by omega, k4, ?_⟩
      rw [List.cons_append, ← k5, ← he]
      exact List.drop_eq_getElem_cons hlt
    · cases h2
theorem chkC_or (c : Kl) (x : Ins) : chkC c x = 0 ∨ chkC c x = 2 ∨ chkC c x = 11 := by
  cases c
  case no => exact .inr (.inr rfl)
  all_goals simp only [chkC]; split <;> simp
theorem bind_flt_is {α β : Type} {r : Rs α} {f : α → Nat → Rs β} {P : Int → Prop} (h1 : ∀ c y b, r = .flt c y b → P c) (h2 : ∀ v a c y b, f v a = .flt c y b → P c) {c : Int} {y b : Nat} (h : r.bind f = .flt c y b) : P c := by
  cases r with
  | ok v a => exact h2 v a c y b h
  | flt c' y' b' =>
    injection h with h2 h3 h4
    subst h2
    exact h1 _ _ _ rfl
theorem uR_flt {bs : List UInt8} {a : Nat} (c : Int) (y b : Nat) (h : uR bs a = .flt c y b) : c ≠ 0 := by
  unfold uR at h
  split at h
  · injection h with h; omega
  · split at h
    · injection h with h; omega
    · cases h
theorem smR_flt {bs : List UInt8} {a : Nat} {most : Int} (c : Int) (y b : Nat) (h : smR bs a most = .flt c y b) : c ≠ 0 :=
  bind_flt_is (P := (· ≠ 0)) uR_flt (fun v a c y b h => by
    split at h
    · cases h
    · injection h with h; show c ≠ 0; omega) h
theorem sR_flt {bs : List UInt8} {a : Nat} (c : Int) (y b : Nat) (h : sR bs a = .flt c y b) : c ≠ 0 :=
  bind_flt_is (P := (· ≠ 0)) uR_flt (fun v a c y b h => by cases h) h
theorem rdE_flt {most : Int} {bs : List UInt8} : ∀ (n a : Nat) (c : Int) (y b : Nat), rdE most bs n a = .flt c y b → c ≠ 0 := by
  intro n
  induction n with
  | zero => intro a c y b h; cases h
  | succ n ih =>
    intro a c y b h
    exact bind_flt_is (P := (· ≠ 0)) smR_flt (fun v a c y b h => bind_flt_is (P := (· ≠ 0)) (ih _) (fun v a c y b h => by cases h) h) h
theorem run_flt {f : Fm} {bs : List UInt8} : ∀ (td : List Fld) (n : Nat) (s : Ins) (a : Nat) (c : Int) (y b : Nat), run f bs td n s a = .flt c y b → c ≠ 0 := by
  intro td
  induction td with
  | nil => intro n s a c y b h; exact bind_flt_is (P := (· ≠ 0)) (rdE_flt _ _) (fun v a c y b h => by cases h) h
  | cons k r ih =>
    intro n s a c y b h
    cases k with
    | A => exact bind_flt_is (P := (· ≠ 0)) sR_flt (fun v a c y b h => ih _ _ _ _ _ _ h) h
    | B => exact bind_flt_is (P := (· ≠ 0)) smR_flt (fun v a c y b h => ih _ _ _ _ _ _ h) h
    | C => exact bind_flt_is (P := (· ≠ 0)) smR_flt (fun v a c y b h => ih _ _ _ _ _ _ h) h
    | D => exact bind_flt_is (P := (· ≠ 0)) smR_flt (fun v a c y b h => ih _ _ _ _ _ _ h) h
    | N => exact bind_flt_is (P := (· ≠ 0)) smR_flt (fun v a c y b h => ih _ _ _ _ _ _ h) h
    | E i => exact ih _ _ _ _ _ _ h
theorem readI_flt {bs : List UInt8} {a : Nat} {c : Int} {y b : Nat} (h : readI bs a = .flt c y b) : c ≠ 0 := by
  unfold readI at h
  split at h
  · injection h with h; omega
  · unfold fin at h
    exact bind_flt_is (P := (· ≠ 0)) (run_flt _ _ _ _) (fun v a c y b h => by
      split at h
      · cases h
      · rename_i hn; injection h with h; rw [← h]; exact hn) h
end Go.Proofs.YtmbdaenjeeklfaaDoor

/- insn: formOf: the form of each op. -/
namespace Go.Proofs.YtmbdaenjeeklfaaDoor
open Go.RowKit

def kdC (k : Kd) : List Value := [.int .i64 k.most, .bool k.reg]
/-- A form, in cells. -/
def fmC (f : Fm) : Array Value := #[.bool f.hasA, .int .i64 f.b.most, .bool f.b.reg, .int .i64 f.c.most, .bool f.c.reg, .int .i64 f.d.most, .bool f.d.reg, .int .i64 (f.least : Int), .int .i64 (f.most : Int), .int .i64 f.each.most, .bool f.each.reg]
def isOp (c : Kl) : Bool := match c with
  | .no => false
  | _ => true
def FormIs (c : Kl) (w : World) (e : Ending) (w' : World) : Prop := e = .returned (.tuple #[.agg (fmC (fmOf c)), .bool (isOp c)]) ∧ w.grownBy w' none

theorem form_res {tmps : Array Value} {W : World} {b : Nat} {f : Fm} {q : Bool} (h2 : tmps.getD 2 undef = .pointer (some ⟨b, 0, none⟩)) (h3 : tmps.getD 3 undef = .bool q) (hb : Blk W b 82 (fmC f)) :
    (results Tryd.f40 tmps).run Tryd.prog W = .ok (.tuple #[.agg (fmC f), .bool q]) W := by
  have h2' : tmps[2]?.getD undef = .pointer (some ⟨b, 0, none⟩) := by simpa using h2
  have h3' : tmps[3]?.getD undef = .bool q := by simpa using h3
  have c0 := hb.cell 0
  have c1 := hb.cell 1
  have c2 := hb.cell 2
  have c3 := hb.cell 3
  have c4 := hb.cell 4
  have c5 := hb.cell 5
  have c6 := hb.cell 6
  have c7 := hb.cell 7
  have c8 := hb.cell 8
  have c9 := hb.cell 9
  have c10 := hb.cell 10
  clear hb
  simp only [fmC, List.getElem?_toArray] at c0 c1 c2 c3 c4 c5 c6 c7 c8 c9 c10
  simp [results, Tryd.results40, h2', h3', go_sem, c0, c1, c2, c3, c4, c5, c6, c7, c8, c9, c10, fmC]

end Go.Proofs.YtmbdaenjeeklfaaDoor

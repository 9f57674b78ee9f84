/- Texts joined for the claim's sake: MDoc, Sec, Rng, LebM, LebU, Box. -/
import Derived.Test.YtohhojbeclbedaaGreatDoorZMKnwRow5
import Derived.Test.YtohhojbeclbedaaGreatDoorZMKnwRow0
import Derived.RangeFuncNested
import Derived.RangeFuncWrites
import Derived.RangeFuncBound
import Derived.RangeFuncCalls
import Derived.RangeFuncLeaves
import Derived.Test.YtohhojbeclbedaaGreatDoorZMKnwRow10
import Derived.Test.YtohhojbeclbedaaGreatDoorZMKnwRow3
namespace Go.Proofs.YtohhojbeclbedaaGreatDoor

/-- What is laid, or that it can't be. -/
abbrev Lay := Option (List UInt8)
def cat : Lay → Lay → Lay
  | some a, some b => some (a ++ b)
  | some _, none => none
  | none, _ => none
def numO (n most : Int) : Lay := if 0 ≤ n ∧ n ≤ most then some (sev n.toNat) else none
def okO (b : Bool) : Lay := if b then some [] else none
def allO {α : Type} (f : α → Lay) : List α → Lay
  | [] => some []
  | x :: l => cat (f x) (allO f l)
def listO {α : Type} (f : α → Lay) (least most : Int) (l : List α) : Lay := cat (okO (decide (least ≤ (l.length : Int)))) (cat (numO l.length most) (allO f l))
def markO (b : Bool) : Lay := some [if b then 1 else 0]

structure Edg where
  to : Int
  sh : Int
structure Nod where
  kind : Int
  prio : Int
  ch : Bool
  pay : Edg
  next : List Edg
/-- Types, too, are two numbers. -/
structure Par where
  ch : Bool
  ty : Edg
/-- A template; at_: where its instructions stand. -/
structure Tpl where
  params : List Par
  code : List Ins
  at_ : List Int
structure Arg where
  ch : Bool
  word : Int
  end_ : Int
structure Sta where
  tpl : Int
  args : List Arg
structure Mo where
  nodes : List Nod
  tpls : List Tpl
  chans : List Edg
  starts : List Sta
  at0 : List Int
  at1 : List Int
  at2 : List Int
  at3 : List Int

def edgO (e : Edg) : Lay := cat (numO e.to 63) (numO e.sh 1000)
def onlyO : List Edg → Lay
  | [e] => edgO e
  | _ => none
/-- A node has something that is not laid of it. -/
def moreB (n : Nod) : Bool :=
  let hands := n.kind == 1 || n.kind == 2
  let acts := hands || (n.kind == 3 || n.kind == 4)
  let on := acts || n.kind == 5
  (!acts && !(n.prio == 0)) || (!hands && n.ch) || (!n.ch && !(n.pay.to == 0 && n.pay.sh == 0)) || (!on && decide (0 < n.next.length))
def nodB (n : Nod) : Lay :=
  if n.kind = 5 then onlyO n.next
  else if n.kind = 1 ∨ n.kind = 2 then cat (numO n.prio 1000) (cat (markO n.ch) (cat (if n.ch then edgO n.pay else some []) (onlyO n.next)))
  else if n.kind = 3 ∨ n.kind = 4 then cat (numO n.prio 1000) (listO edgO 1 8 n.next)
  else some []
def nodO (n : Nod) : Lay := cat (okO (!moreB n)) (cat (numO n.kind 5) (nodB n))
def parO (p : Par) : Lay := cat (markO p.ch) (if p.ch then edgO p.ty else okO (p.ty.to == 0 && p.ty.sh == 0))
def insO (x : Ins) : Lay := if chkI x = 0 then some (bytesI x) else none
def tplO (t : Tpl) : Lay := cat (listO parO 0 8 t.params) (listO insO 1 128 t.code)
def argO (a : Arg) : Lay := cat (markO a.ch) (if a.ch then cat (okO (a.word == 0)) (numO a.end_ 31) else cat (okO (a.end_ == 0)) (some (sev (foldN a.word))))
def staO (s : Sta) : Lay := cat (numO s.tpl 15) (listO argO 0 8 s.args)
def typesO (m : Mo) : Lay := listO nodO 0 64 m.nodes
def tplsO (m : Mo) : Lay := listO tplO 0 16 m.tpls
def bootO (m : Mo) : Lay := cat (listO edgO 0 16 m.chans) (listO staO 0 8 m.starts)

theorem cat_none (a : Lay) : cat a none = none := by cases a <;> rfl
theorem cat_nil (a : Lay) : cat a (some []) = a := by cases a <;> simp [cat]
theorem nil_cat (a : Lay) : cat (some []) a = a := by cases a <;> simp [cat]
theorem cat_assoc (a b c : Lay) : cat (cat a b) c = cat a (cat b c) := by cases a <;> cases b <;> cases c <;> simp [cat]
theorem cat_some {a b : Lay} {t : List UInt8} (h : cat a b = some t) : ∃ t1 t2, a = some t1 ∧ b = some t2 ∧ t = t1 ++ t2 := by
  cases a <;> cases b <;> simp [cat] at h
  exact ⟨_, _, rfl, rfl, h.symm⟩
theorem allO_append {α : Type} (f : α → Lay) (k l : List α) : allO f (k ++ l) = cat (allO f k) (allO f l) := by
  induction k with
  | nil => exact (nil_cat _).symm
  | cons x k ih => rw [List.cons_append, allO, ih, allO, cat_assoc]
theorem allO_at {α : Type} (f : α → Lay) {l : List α} {i : Nat} {x : α} (h : l[i]? = some x) : allO f l = cat (allO f (l.take i)) (cat (f x) (allO f (l.drop (i + 1)))) := by
  obtain ⟨hi, rfl⟩ := List.getElem?_eq_some_iff.1 h
  rw [← allO, ← List.drop_eq_getElem_cons hi, ← allO_append, List.take_append_drop]
theorem allO_succ {α : Type} (f : α → Lay) {l : List α} {i : Nat} {x : α} (h : l[i]? = some x) : allO f (l.take (i + 1)) = cat (allO f (l.take i)) (f x) := by
  obtain ⟨hi, rfl⟩ := List.getElem?_eq_some_iff.1 h
  rw [List.take_succ_eq_append_getElem hi, allO_append]
  show cat _ (cat _ (some [])) = _
  rw [cat_nil]

/-! ### How long what is laid is -/
def AtMost (K : Nat) (o : Lay) : Prop := ∀ t, o = some t → t.length ≤ K
theorem AtMost.cat {K L : Nat} {a b : Lay} (ha : AtMost K a) (hb : AtMost L b) : AtMost (K + L) (cat a b) := fun t h => by
  obtain ⟨t1, t2, h1, h2, rfl⟩ := cat_some h
  have := ha t1 h1
  have := hb t2 h2
  rw [List.length_append]
  omega
theorem AtMost.le {K L : Nat} {a : Lay} (ha : AtMost K a) (h : K ≤ L) : AtMost L a := fun t e => Nat.le_trans (ha t e) h
theorem AtMost.ok (b : Bool) : AtMost 0 (okO b) := fun t h => by
  unfold okO at h
  split at h
  · injection h with h; subst h; exact Nat.le_refl _
  · cases h
theorem AtMost.num {n most : Int} (hm : most ≤ 1000) : AtMost 10 (numO n most) := fun t h => by
  unfold numO at h
  split at h
  · rename_i hh
    injection h with h
    subst h
    exact sev_len10 (by omega)
  · cases h
theorem AtMost.mark (b : Bool) : AtMost 1 (markO b) := fun t h => by injection h with h; subst h; exact Nat.le_refl _
theorem AtMost.all {α : Type} {K : Nat} {f : α → Lay} (hf : ∀ x, AtMost K (f x)) : ∀ l : List α, AtMost (l.length * K) (allO f l)
  | [] => fun t h => by injection h with h; subst h; simp
  | x :: l => by
    have := (hf x).cat (AtMost.all hf l)
    refine this.le ?_
    rw [List.length_cons, Nat.succ_mul]
    omega
theorem AtMost.allM {α : Type} {K : Nat} {f : α → Lay} (l : List α) (hf : ∀ x ∈ l, AtMost K (f x)) : AtMost (l.length * K) (allO f l) := by
  induction l with
  | nil => exact fun t h => by injection h with h; subst h; simp
  | cons x l ih =>
    have := (hf x (List.mem_cons_self)).cat (ih fun y hy => hf y (List.mem_cons_of_mem _ hy))
    refine this.le ?_
    rw [List.length_cons, Nat.succ_mul]
    omega
theorem AtMost.list {α : Type} {K M : Nat} {f : α → Lay} {least most : Int} (l : List α) (hf : ∀ x ∈ l, AtMost K (f x)) (h0 : most = (M : Int)) (hm : M ≤ 1000) : AtMost (10 + M * K) (listO f least most l) := fun t h => by
  unfold listO at h
  obtain ⟨t1, t2, e1, e2, rfl⟩ := cat_some h
  obtain ⟨t3, t4, e3, e4, rfl⟩ := cat_some e2
  have k1 := AtMost.ok _ t1 e1
  have k2 := AtMost.num (n := (l.length : Int)) (by omega) t3 e3
  have k3 := AtMost.allM l hf t4 e4
  have hl : l.length ≤ M := by
    unfold numO at e3
    split at e3
    · rename_i hh; omega
    · cases e3
  have := Nat.mul_le_mul_right K hl
  rw [List.length_append, List.length_append]
  omega
theorem AtMost.edg (e : Edg) : AtMost 20 (edgO e) := (AtMost.num (by omega)).cat (AtMost.num (by omega))
theorem AtMost.only (l : List Edg) : AtMost 20 (onlyO l) := fun t h => by
  unfold onlyO at h
  split at h
  · exact AtMost.edg _ t h
  · cases h
theorem AtMost.nil_ : AtMost 0 (some []) := fun t h => by injection h with h; subst h; exact Nat.le_refl _
theorem AtMost.nod (n : Nod) : AtMost 300 (nodO n) := by
  unfold nodO
  have hB : AtMost 200 (nodB n) := by
    unfold nodB
    split
    · exact (AtMost.only _).le (by omega)
    · split
      · have h3 : AtMost 20 (if n.ch = true then edgO n.pay else some []) := by
          split
          · exact AtMost.edg _
          · exact AtMost.nil_.le (by omega)
        exact ((AtMost.num (by omega)).cat ((AtMost.mark _).cat (h3.cat (AtMost.only _)))).le (by omega)
      · split
        · exact ((AtMost.num (by omega)).cat (AtMost.list (K := 20) (M := 8) _ (fun x _ => AtMost.edg x) rfl (by omega))).le (by omega)
        · exact AtMost.nil_.le (by omega)
  exact ((AtMost.ok _).cat ((AtMost.num (by omega)).cat hB)).le (by omega)
theorem AtMost.par (p : Par) : AtMost 21 (parO p) := by
  unfold parO
  refine (AtMost.cat (K := 1) (L := 20) (AtMost.mark _) ?_)
  split
  · exact AtMost.edg _
  · exact (AtMost.ok _).le (by omega)
theorem AtMost.arg (a : Arg) (ha : Whole a.word) : AtMost 11 (argO a) := by
  unfold argO
  refine (AtMost.cat (K := 1) (L := 10) (AtMost.mark _) ?_)
  split
  · exact (AtMost.cat (AtMost.ok _) (AtMost.num (by omega))).le (by omega)
  · refine (AtMost.cat (AtMost.ok _) (L := 10) fun t h => ?_).le (by omega)
    injection h with h
    subst h
    have := foldN_lt ha
    exact sev_len10 (by omega)
end Go.Proofs.YtohhojbeclbedaaGreatDoor

namespace Go.Proofs.YtohhojbeclbedaaGreatDoor

/-- The head's bytes. -/
def hd5 : List UInt8 := [67, 76, 81, 89, 1]
/-- A section's bytes; a module's. -/
def sec (k : Nat) (t : List UInt8) : List UInt8 := UInt8.ofNat k :: (sev t.length ++ t)
def joined (t1 t2 t3 : List UInt8) : List UInt8 := hd5 ++ (sec 1 t1 ++ (sec 2 t2 ++ sec 3 t3))
/-- n bytes from p on. -/
def cut (b : List UInt8) (p n : Nat) : List UInt8 := (b.drop p).take n

/-- Section k stands at a: j bytes tell that its text has n bytes, from p on. -/
structure SecOk (b : List UInt8) (k a j p n : Nat) : Prop where
  id : b[a]? = some (UInt8.ofNat k)
  taken : Taken (b.drop (a + 1)) j
  good : ¬ Bad ((b.drop (a + 1)).take j)
  is : num ((b.drop (a + 1)).take j) = n
  at_ : p = a + 1 + j
  small : n ≤ 65536
  fits : p + n ≤ b.length
inductive SecFault (b : List UInt8) (k a : Nat) : Int → Int → Prop
  | lacks : a = b.length → SecFault b k a 3 (a : Int)
  | other (u : UInt8) : b[a]? = some u → u ≠ UInt8.ofNat k → SecFault b k a 7 (a : Int)
  | ends : b[a]? = some (UInt8.ofNat k) → Short (b.drop (a + 1)) → SecFault b k a 3 (b.length : Int)
  | wrong (j : Nat) : b[a]? = some (UInt8.ofNat k) → Taken (b.drop (a + 1)) j → Bad ((b.drop (a + 1)).take j) → SecFault b k a 5 ((a + 1 : Nat) : Int)
  | long (j n : Nat) : b[a]? = some (UInt8.ofNat k) → Taken (b.drop (a + 1)) j → ¬ Bad ((b.drop (a + 1)).take j) → num ((b.drop (a + 1)).take j) = n → 65536 < n → SecFault b k a 4 ((a + 1 : Nat) : Int)
  | short (j n : Nat) : b[a]? = some (UInt8.ofNat k) → Taken (b.drop (a + 1)) j → ¬ Bad ((b.drop (a + 1)).take j) → num ((b.drop (a + 1)).take j) = n → n ≤ 65536 → b.length < a + 1 + j + n → SecFault b k a 3 ((a + 1 + j : Nat) : Int)
theorem sec_or (b : List UInt8) (k a : Nat) (ha : a ≤ b.length) : (∃ c p, SecFault b k a c p) ∨ (∃ j p n, SecOk b k a j p n) := by
  by_cases h0 : a = b.length
  · exact .inl ⟨_, _, .lacks h0⟩
  have hlt : a < b.length := by omega
  have hu : b[a]? = some b[a] := List.getElem?_eq_getElem hlt
  by_cases h1 : b[a] = UInt8.ofNat k
  · rw [h1] at hu
    rcases taken_or (b.drop (a + 1)) with hs | ⟨j, hj⟩
    · exact .inl ⟨_, _, .ends hu hs⟩
    · by_cases hb : Bad ((b.drop (a + 1)).take j)
      · exact .inl ⟨_, _, .wrong j hu hj hb⟩
      · by_cases hn : 65536 < num ((b.drop (a + 1)).take j)
        · exact .inl ⟨_, _, .long j _ hu hj hb rfl hn⟩
        · by_cases hl : b.length < a + 1 + j + num ((b.drop (a + 1)).take j)
          · exact .inl ⟨_, _, .short j _ hu hj hb rfl (by omega) hl⟩
          · exact .inr ⟨j, _, _, hu, hj, hb, rfl, rfl, by omega, by omega⟩
  · exact .inl ⟨_, _, .other _ hu h1⟩

/-- Up to i the head stands there; at i it does not. -/
structure HeadFault (b : List UInt8) (i : Nat) : Prop where
  lt : i < 5
  ahead : ∀ j, j < i → b[j]? = hd5[j]?
  here : b[i]? ≠ hd5[i]?
def HeadOk (b : List UInt8) : Prop := ∀ j, j < 5 → b[j]? = hd5[j]?
theorem head_or (b : List UInt8) : (∃ i, HeadFault b i) ∨ HeadOk b := by
  have H : ∀ i, i ≤ 5 → (∃ i, HeadFault b i) ∨ (∀ j, j < i → b[j]? = hd5[j]?) := by
    intro i
    induction i with
    | zero => intro _; exact .inr (fun j hj => by omega)
    | succ i ih =>
      intro hi
      rcases ih (by omega) with h | h
      · exact .inl h
      · by_cases he : b[i]? = hd5[i]?
        · exact .inr (fun j hj => by
            by_cases hji : j = i
            · rw [hji]; exact he
            · exact h j (by omega))
        · exact .inl ⟨i, by omega, h, he⟩
  exact H 5 (Nat.le_refl _)
theorem head_len {b : List UInt8} (h : HeadOk b) : 5 ≤ b.length := by
  have h4 := h 4 (by omega)
  have : b[4]? = some 1 := h4
  have := (List.getElem?_eq_some_iff.1 this).1
  omega

/-- Where the three texts stand. -/
structure Parts where
  j1 : Nat
  p1 : Nat
  n1 : Nat
  j2 : Nat
  p2 : Nat
  n2 : Nat
  j3 : Nat
  p3 : Nat
  n3 : Nat
structure SplitOk (b : List UInt8) (x : Parts) : Prop where
  head : HeadOk b
  s1 : SecOk b 1 5 x.j1 x.p1 x.n1
  s2 : SecOk b 2 (x.p1 + x.n1) x.j2 x.p2 x.n2
  s3 : SecOk b 3 (x.p2 + x.n2) x.j3 x.p3 x.n3
  end_ : x.p3 + x.n3 = b.length
inductive SplitFault (b : List UInt8) : Int → Int → Prop
  | head (i : Nat) : HeadFault b i → SplitFault b 6 (i : Int)
  | sec1 (c p : Int) : HeadOk b → SecFault b 1 5 c p → SplitFault b c p
  | sec2 (j1 p1 n1 : Nat) (c p : Int) : HeadOk b → SecOk b 1 5 j1 p1 n1 → SecFault b 2 (p1 + n1) c p → SplitFault b c p
  | sec3 (j1 p1 n1 j2 p2 n2 : Nat) (c p : Int) : HeadOk b → SecOk b 1 5 j1 p1 n1 → SecOk b 2 (p1 + n1) j2 p2 n2 → SecFault b 3 (p2 + n2) c p → SplitFault b c p
  | more (x : Parts) : HeadOk b → SecOk b 1 5 x.j1 x.p1 x.n1 → SecOk b 2 (x.p1 + x.n1) x.j2 x.p2 x.n2 → SecOk b 3 (x.p2 + x.n2) x.j3 x.p3 x.n3 → x.p3 + x.n3 < b.length → SplitFault b 4 ((x.p3 + x.n3 : Nat) : Int)
/-- From section k + 1 on, which stands at a, what is wrong first. -/
inductive From (b : List UInt8) : Nat → Nat → Int → Int → Prop
  | here (k a : Nat) (c p : Int) : k < 3 → SecFault b (k + 1) a c p → From b k a c p
  | next (k a j p n : Nat) (c x : Int) : k < 3 → SecOk b (k + 1) a j p n → From b (k + 1) (p + n) c x → From b k a c x
  | more (a : Nat) : a < b.length → From b 3 a 4 (a : Int)
/-! ### What is split is joined so -/
/-! ### What is joined is split so -/
theorem sec_len (k : Nat) (t : List UInt8) : (sec k t).length = 1 + (sev t.length).length + t.length := by unfold sec; simp; omega
theorem sec_at (pre t rest : List UInt8) (k : Nat) (ht : t.length ≤ 65536) :
    SecOk (pre ++ (sec k t ++ rest)) k pre.length (sev t.length).length (pre.length + 1 + (sev t.length).length) t.length ∧
    cut (pre ++ (sec k t ++ rest)) (pre.length + 1 + (sev t.length).length) t.length = t := by
  have hd : (pre ++ (sec k t ++ rest)).drop (pre.length + 1) = sev t.length ++ (t ++ rest) := by
    rw [← List.drop_drop, List.drop_left]
    unfold sec
    simp
  have hn : t.length < 18446744073709551616 := by omega
  refine ⟨⟨?_, ?_, ?_, ?_, rfl, ht, ?_⟩, ?_⟩
  · rw [List.getElem?_append_right (Nat.le_refl _), Nat.sub_self]; rfl
  · rw [hd]; exact taken_sev hn _
  · rw [hd, List.take_left]; exact good_sev hn
  · rw [hd, List.take_left]; exact num_sev _
  · rw [List.length_append, List.length_append, sec_len]; omega
  · unfold cut
    rw [← List.drop_drop, hd, List.drop_left, List.take_left]
/-- Where the texts stand of what is joined. -/
def partsOf (t1 t2 t3 : List UInt8) : Parts :=
  let p1 := 6 + (sev t1.length).length
  let p2 := p1 + t1.length + 1 + (sev t2.length).length
  let p3 := p2 + t2.length + 1 + (sev t3.length).length
  ⟨(sev t1.length).length, p1, t1.length, (sev t2.length).length, p2, t2.length, (sev t3.length).length, p3, t3.length⟩
theorem joined_more (t1 t2 t3 more : List UInt8) (h1 : t1.length ≤ 65536) (h2 : t2.length ≤ 65536) (h3 : t3.length ≤ 65536) :
    HeadOk (joined t1 t2 t3 ++ more) ∧
    (SecOk (joined t1 t2 t3 ++ more) 1 5 (partsOf t1 t2 t3).j1 (partsOf t1 t2 t3).p1 (partsOf t1 t2 t3).n1 ∧ cut (joined t1 t2 t3 ++ more) (partsOf t1 t2 t3).p1 (partsOf t1 t2 t3).n1 = t1) ∧
    (SecOk (joined t1 t2 t3 ++ more) 2 ((partsOf t1 t2 t3).p1 + (partsOf t1 t2 t3).n1) (partsOf t1 t2 t3).j2 (partsOf t1 t2 t3).p2 (partsOf t1 t2 t3).n2 ∧ cut (joined t1 t2 t3 ++ more) (partsOf t1 t2 t3).p2 (partsOf t1 t2 t3).n2 = t2) ∧
    (SecOk (joined t1 t2 t3 ++ more) 3 ((partsOf t1 t2 t3).p2 + (partsOf t1 t2 t3).n2) (partsOf t1 t2 t3).j3 (partsOf t1 t2 t3).p3 (partsOf t1 t2 t3).n3 ∧ cut (joined t1 t2 t3 ++ more) (partsOf t1 t2 t3).p3 (partsOf t1 t2 t3).n3 = t3) ∧
    (partsOf t1 t2 t3).p3 + (partsOf t1 t2 t3).n3 = (joined t1 t2 t3).length := by
  have e1 : joined t1 t2 t3 ++ more = hd5 ++ (sec 1 t1 ++ (sec 2 t2 ++ (sec 3 t3 ++ more))) := by simp [joined]
  have e2 : joined t1 t2 t3 ++ more = (hd5 ++ sec 1 t1) ++ (sec 2 t2 ++ (sec 3 t3 ++ more)) := by simp [joined]
  have e3 : joined t1 t2 t3 ++ more = (hd5 ++ (sec 1 t1 ++ sec 2 t2)) ++ (sec 3 t3 ++ more) := by simp [joined]
  have l1 : (hd5 ++ sec 1 t1).length = 6 + (sev t1.length).length + t1.length := by rw [List.length_append, sec_len]; simp [hd5]; omega
  have l2 : (hd5 ++ (sec 1 t1 ++ sec 2 t2)).length = 6 + (sev t1.length).length + t1.length + 1 + (sev t2.length).length + t2.length := by
    rw [List.length_append, List.length_append, sec_len, sec_len]; simp [hd5]; omega
  have s1 := sec_at hd5 t1 (sec 2 t2 ++ (sec 3 t3 ++ more)) 1 h1
  have s2 := sec_at (hd5 ++ sec 1 t1) t2 (sec 3 t3 ++ more) 2 h2
  have s3 := sec_at (hd5 ++ (sec 1 t1 ++ sec 2 t2)) t3 more 3 h3
  rw [← e1] at s1
  rw [← e2, l1] at s2
  rw [← e3, l2] at s3
  refine ⟨fun j hj => ?_, s1, s2, s3, ?_⟩
  · rw [e1, List.getElem?_append_left (by simpa [hd5] using hj)]
  · simp only [partsOf, joined, List.length_append, sec_len]
    simp [hd5]; omega
theorem joined_ok (t1 t2 t3 : List UInt8) (h1 : t1.length ≤ 65536) (h2 : t2.length ≤ 65536) (h3 : t3.length ≤ 65536) :
    SplitOk (joined t1 t2 t3) (partsOf t1 t2 t3) ∧ cut (joined t1 t2 t3) (partsOf t1 t2 t3).p1 (partsOf t1 t2 t3).n1 = t1 ∧ cut (joined t1 t2 t3) (partsOf t1 t2 t3).p2 (partsOf t1 t2 t3).n2 = t2 ∧ cut (joined t1 t2 t3) (partsOf t1 t2 t3).p3 (partsOf t1 t2 t3).n3 = t3 := by
  have h := joined_more t1 t2 t3 [] h1 h2 h3
  rw [List.append_nil] at h
  obtain ⟨a, ⟨b1, c1⟩, ⟨b2, c2⟩, ⟨b3, c3⟩, e⟩ := h
  exact ⟨⟨a, b1, b2, b3, e⟩, c1, c2, c3⟩
/-! ### A beginning is no module's bytes -/
theorem taken_pre {l m : List UInt8} {j i : Nat} (h : Taken (l.take m.length) j) (hm : l.take m.length = m) (hi : Taken l i) : i = j := by
  rw [hm] at h
  have hl : ∀ q, q < m.length → l[q]? = m[q]? := fun q hq => by
    have h1 := List.getElem?_take_of_lt (l := l) hq
    rw [hm] at h1
    exact h1.symm
  have hj := h.len
  rcases Nat.lt_trichotomy i j with hlt | he | hgt
  · -- l's byte at i - 1 is the last one of i, and not of j
    have hp := hi.pos
    obtain ⟨u, hu⟩ : ∃ u, m[i - 1]? = some u := ⟨m[i - 1]'(by omega), List.getElem?_eq_getElem (by omega)⟩
    have h1 := h.high (i - 1) u (by omega) hu
    have h2 := hi.last u (by rw [hl (i - 1) (by omega)]; exact hu)
    have := h.le
    omega
  · exact he
  · have hp := h.pos
    obtain ⟨u, hu⟩ : ∃ u, m[j - 1]? = some u := ⟨m[j - 1]'(by omega), List.getElem?_eq_getElem (by omega)⟩
    have h1 := hi.high (j - 1) u (by omega) (by rw [hl (j - 1) (by omega)]; exact hu)
    have h2 := h.last u hu
    have := hi.le
    omega
theorem sec_pre {b : List UInt8} {c k a j p n j' p' n' : Nat} (hc : c ≤ b.length) (h : SecOk (b.take c) k a j p n) (h' : SecOk b k a j' p' n') : j = j' ∧ p = p' ∧ n = n' := by
  have hd : (b.take c).drop (a + 1) = (b.drop (a + 1)).take (c - (a + 1)) := List.drop_take ..
  have hlen : (b.take c).length = c := by rw [List.length_take]; omega
  have hfit := h.fits
  have hat := h.at_
  rw [hlen] at hfit
  have hj : j' = j := by
    refine taken_pre (l := b.drop (a + 1)) (m := (b.take c).drop (a + 1)) ?_ ?_ h'.taken
    · have : (b.drop (a + 1)).take ((b.take c).drop (a + 1)).length = (b.take c).drop (a + 1) := by rw [hd, List.length_take]; rw [List.length_drop]; rw [Nat.min_eq_left (by omega)]
      rw [this]; exact h.taken
    · rw [hd, List.length_take, List.length_drop, Nat.min_eq_left (by omega)]
  subst hj
  have ht : ((b.take c).drop (a + 1)).take j' = (b.drop (a + 1)).take j' := by
    rw [hd, List.take_take, Nat.min_eq_left (by have := h.taken.len; rw [hd, List.length_take, List.length_drop] at this; omega)]
  have hn : n = n' := by rw [← h.is, ← h'.is, ht]
  exact ⟨rfl, by rw [h.at_, h'.at_], hn⟩
end Go.Proofs.YtohhojbeclbedaaGreatDoor

namespace Go.Proofs.YtohhojbeclbedaaGreatDoor
open Go.RowKit

variable {F : Fence} {n : Nat} {P : Program}

/-- What the function owes: Sp, its own steps; T, what it keeps between two rounds; Tm, what holds as it hands x over; S, what has come when it ends by itself. -/
def Hands {α : Type} (F : Fence) (n : Nat) (P : Program) (gf : Nat) (lb : Array Value) (encs : α → Array Value) (Sp : World → World → Prop) (T : List α → World → Prop) (Tm : List α → α → World → Prop) (S : List α → Prop) : Prop :=
  ∀ (l : Nat) (J Jx : List α → World → Prop) (W : World), (∀ s X Y, J s X → Sp X Y → J s Y) →
    (∀ pre x X, J pre X → Tm pre x X → YieldAt F (n - 1) P l (encs x) X fun e Y => (e = .returned (.bool true) ∧ J (pre ++ [x]) Y ∧ T (pre ++ [x]) Y) ∨ (e = .returned (.bool false) ∧ Jx (pre ++ [x]) Y)) →
    J [] W → T [] W →
    CallsIn F n P gf (#[.func (.yield l) #[] #[]] ++ lb) W fun e Y => (∃ v, e = .returned v) ∧ ((∃ xs, S xs ∧ J xs Y ∧ T xs Y) ∨ (∃ xs, Jx xs Y))

/-- What the law itself has laid: the loop's record at D + 1, the rounds' deferred calls at D. -/
def Laid2 (rec : LoopState → Option Code → Loop) (D : Nat) (s : LoopState) (p : Option Code) (W : World) : Prop :=
  W.heap[D + 1]? = some (.loop (rec s p)) ∧ W.heap[D]? = some (.deferred (some []))
theorem Laid2.keep {rec : LoopState → Option Code → Loop} {D B : Nat} {s : LoopState} {p : Option Code} {X Y : World} (h : Laid2 rec D s p X) (hD : B ≤ D) (hk : KeepsFrom B X Y) : Laid2 rec D s p Y :=
  ⟨hk.same _ _ (by omega) h.1 rfl, hk.same _ _ hD h.2 rfl⟩
theorem Laid2.put {rec : LoopState → Option Code → Loop} {D : Nat} {s s' : LoopState} {p p' : Option Code} {W : World} (h : Laid2 rec D s p W) : Laid2 rec D s' p' (W.putObj (D + 1) (.loop (rec s' p'))) :=
  ⟨World.putObj_heap_same (Array.getElem?_eq_some_iff.1 h.1).1, (World.putObj_heap_other (by omega)).trans h.2⟩
theorem own_put2 {β : Type} {B : Nat} {I : β → World → Prop} (hI : OwnFrom B I) {rec : LoopState → Option Code → Loop} {D : Nat} {st : LoopState} {p : Option Code} {W : World} (hD : B ≤ D) (h : Laid2 rec D st p W) {s : β} (hs : I s W) (o : Obj) : I s (W.putObj (D + 1) o) :=
  hI.putObj o hs (by omega) h.1 rfl

/-- What the caller owes. -/
theorem wpIn_rangeFunc_hands {α : Type} {g : Operand} {ps : Array Tmp} {assign body : Code} {Q : Exit → Act → World → Prop} {a : Act} {w : World}
    (hro : F.round = none) (h1 : 1 ≤ n) {gf : Nat} {lb : Array Value} (hg : a.eval g = .func (.func gf) #[] lb) (hFg : F.fn gf) (eg : ∀ args w, (callFunc gf args).run P w = .ok (.enter gf args) w)
    {encs : α → Array Value} {Sp : World → World → Prop} {T : List α → World → Prop} {Tm : List α → α → World → Prop} {S : List α → Prop} (hseq : Hands F (n - 1) P gf lb encs Sp T Tm S)
    (hSp : ∀ X Y, Sp X Y → KeepsFrom w.heap.size X Y) (hps : ∀ x, (encs x).size = ps.size)
    (hT : OwnFrom w.heap.size T) (hTm : ∀ x, OwnFrom w.heap.size (fun pre W => Tm pre x W))
    (I : List α → World → Prop) (Ix : Code → List α → World → Prop) (hI : OwnFrom w.heap.size I) (hIx : ∀ c, OwnFrom w.heap.size (Ix c)) (hIs : ∀ s X Y, I s X → Sp X Y → I s Y)
    (h0 : I [] w) (t0 : T [] w) (a₁ : α → Act)
    (hassign : ∀ (l : Nat) (x : α) (W : World) (K : Act → World → Prop), K (a₁ x) W →
      assign.wpIn (F.inRound l) (n - 1 - 1) P (Exit.then K (fun _ _ _ => False)) { tmps := (ps.zip (encs x)).foldl (fun t (p, v) => t.setIfInBounds p v) a.tmps, defers := [] } W)
    (hbody : ∀ (l : Nat) (pre : List α) (x : α) (W : World), I pre W → Tm pre x W → body.wpIn (F.inRound l) (n - 1 - 1) P (ownPostG w.heap.size (fun _ _ => True) (fun xs W => I xs W ∧ T xs W) Ix (pre ++ [x]) W) (a₁ x) W)
    (hdone : ∀ (D : Nat) (xs : List α) (W : World), w.heap.size ≤ D → S xs → I xs W → T xs W → W.heap[D]? = some (.deferred (some [])) → Q .normal { a with defers := { target := .collected D, args := #[] } :: a.defers } W)
    (hstop : ∀ (D : Nat) (c : Code) (xs : List α) (W : World), w.heap.size ≤ D → Ix c xs W → W.heap[D]? = some (.deferred (some [])) → c.wpIn F n P Q { a with defers := { target := .collected D, args := #[] } :: a.defers } W) :
    (Code.rangeFunc g ps assign body).wpIn F n P Q a w := by
  refine wpIn_rangeFunc fun fn hfn => ?_
  rw [hro]
  obtain ⟨rec, hrec⟩ : ∃ rec : LoopState → Option Code → Loop, rec = fun st pe => { state := st, pending := pe, fn, tmps := a.tmps, params := ps, assign, body, defers := w.heap.size } := ⟨_, rfl⟩
  obtain ⟨W1, hW1⟩ : ∃ W1, (w.alloc (.deferred (some []))).alloc (.loop (rec .ready none)) = W1 := ⟨_, rfl⟩
  have L0 : Laid2 rec w.heap.size .ready none W1 := by
    rw [← hW1]
    refine ⟨?_, (Below.heap_alloc _ _ _ (by simp)).trans (World.alloc_heap_new w _)⟩
    have := World.alloc_heap_new (w.alloc (.deferred (some []))) (.loop (rec .ready none))
    rwa [World.size_alloc] at this
  have I0 : I [] W1 := hW1 ▸ hI.alloc (.loop (rec .ready none)) (hI.alloc (.deferred (some [])) h0)
  have T0 : T [] W1 := hW1 ▸ hT.alloc (.loop (rec .ready none)) (hT.alloc (.deferred (some [])) t0)
  refine ⟨w.heap.size + 1, [{ target := .collected w.heap.size, args := #[] }], W1, { target := .fn (.func gf) lb, args := #[.func (.yield (w.heap.size + 1)) #[] #[]] }, W1, gf,
    #[.func (.yield (w.heap.size + 1)) #[] #[]] ++ lb, W1, ?_, ?_, ?_, ?_, fun _ => h1, ?_⟩
  · rw [← hW1, hrec]
    exact run_enterLoop_outer _ _ _ _ _
  · simp only [resolve, hg]
    simp [go_sem]
  · intro f' hf'
    simp [Target.leads] at hf'
    exact hf' ▸ hFg
  · simp [invoke, go_sem, eg]
  clear hW1
  refine (hseq (w.heap.size + 1) (fun pre W => I pre W ∧ Laid2 rec w.heap.size .ready none W) (fun pre W => ∃ c, Ix c pre W ∧ Laid2 rec w.heap.size .done (some c) W) W1
    (fun s X Y ⟨hi, hl⟩ hs => ⟨hIs s X Y hi hs, hl.keep (Nat.le_refl _) (hSp X Y hs)⟩) ?_ ⟨I0, L0⟩ T0).mono ?_
  · rintro pre x X ⟨hi, hl⟩ hm
    have hy := run_yield (P := P) (args := encs x) hl.1 (by rw [hrec]; exact hps x)
    have hb := run_beginRound (P := P) hl.1 (by rw [hrec])
    have hbusy : ({ rec .ready none with state := .busy } : Loop) = rec .busy none := by rw [hrec]
    rw [hbusy] at hb
    have hl2 : Laid2 rec w.heap.size .busy none (X.putObj (w.heap.size + 1) (.loop (rec .busy none))) := hl.put
    have hi2 := own_put2 hI (Nat.le_refl _) hl hi (.loop (rec .busy none))
    have hm2 : Tm pre x (X.putObj (w.heap.size + 1) (.loop (rec .busy none))) := own_put2 (hTm x) (Nat.le_refl _) hl hm (.loop (rec .busy none))
    rw [hrec] at hy
    refine ⟨fn, _, assign, body, hy, roundIn_of_wpIn hfn (hassign _ x X _ ⟨_, hb, wpIn_mono (hbody _ pre x _ hi2 hm2) ?_⟩)⟩
    have fin : ∀ (j : Option Code) (Y : World), KeepsFrom w.heap.size (X.putObj (w.heap.size + 1) (.loop (rec .busy none))) Y →
        Laid2 rec w.heap.size .busy none Y ∧ (Instr.endRound (w.heap.size + 1) j).run P Y = .ok (.bool j.isNone) (Y.putObj (w.heap.size + 1) (.loop (rec (if j.isNone then .ready else .done) j))) := fun j Y hk => by
      have h2 := hl2.keep (Nat.le_refl _) hk
      refine ⟨h2, ?_⟩
      have := run_endRound (P := P) j h2.1
      rw [hrec] at this ⊢
      exact this
    have out : ∀ (c : Code) (Y : World), KeepsFrom w.heap.size (X.putObj (w.heap.size + 1) (.loop (rec .busy none))) Y → Ix c (pre ++ [x]) Y →
        ∃ v Y', (Instr.endRound (w.heap.size + 1) (some c)).run P Y = .ok v Y' ∧ ((Ending.returned v = .returned (.bool true) ∧ (I (pre ++ [x]) Y' ∧ Laid2 rec w.heap.size .ready none Y') ∧ T (pre ++ [x]) Y') ∨ (Ending.returned v = .returned (.bool false) ∧ ∃ c, Ix c (pre ++ [x]) Y' ∧ Laid2 rec w.heap.size .done (some c) Y')) := fun c Y hk hx => by
      obtain ⟨h2, hr⟩ := fin (some c) Y hk
      exact ⟨_, _, hr, .inr ⟨rfl, c, own_put2 (hIx c) (Nat.le_refl _) h2 hx _, h2.put⟩⟩
    intro e a3 Y hp
    cases e with
    | normal =>
      obtain ⟨hk, _, hi3, ht3⟩ := hp
      obtain ⟨h2, hr⟩ := fin none Y hk
      exact ⟨_, _, hr, .inl ⟨rfl, ⟨own_put2 hI (Nat.le_refl _) h2 hi3 _, h2.put⟩, own_put2 hT (Nat.le_refl _) h2 ht3 _⟩⟩
    | ret => exact out _ Y hp.1 hp.2
    | exit id => exact out _ Y hp.1 hp.2
    | goto t => exact out _ Y hp.1 hp.2
    | panic ch => exact hp.elim
    | outgrown => exact hp.elim
  · rintro e Y ⟨⟨v, rfl⟩, ⟨xs, hS, ⟨hi, hl⟩, ht⟩ | ⟨xs, c, hx, hl⟩⟩
    · have hr := run_endLoop (P := P) hl.1 (by rw [hrec]; simp)
      rw [hrec] at hr
      exact ⟨none, _, hr, hdone _ xs _ (Nat.le_refl _) hS (own_put2 hI (Nat.le_refl _) hl hi _) (own_put2 hT (Nat.le_refl _) hl ht _) ((World.putObj_heap_other (by omega)).trans hl.2)⟩
    · have hr := run_endLoop (P := P) hl.1 (by rw [hrec]; simp)
      rw [hrec] at hr
      exact ⟨some c, _, hr, hstop _ c xs _ (Nat.le_refl _) (own_put2 (hIx c) (Nat.le_refl _) hl hx _) ((World.putObj_heap_other (by omega)).trans hl.2)⟩
end Go.Proofs.YtohhojbeclbedaaGreatDoor

namespace Go.Proofs.YtohhojbeclbedaaGreatDoor
open Go.RowKit

/-- The last byte. -/
theorem bad_iff {l : List UInt8} {m : Nat} (hm : l.length = m + 1) : Bad l ↔ (128 ≤ tb l m ∨ (((m : Int) + 1) = 10 ∧ 1 < tb l m) ∨ (1 < ((m : Int) + 1) ∧ tb l m = 0)) := by
  have hlt : m < l.length := by omega
  have he : l[l.length - 1]? = some l[m] := by rw [hm, Nat.add_sub_cancel]; exact List.getElem?_eq_getElem hlt
  have ht : tb l m = (l[m].toNat : Int) := by unfold tb; rw [List.getElem?_eq_getElem hlt]; rfl
  rw [ht]
  unfold Bad
  constructor
  · rintro ⟨u, hu, h⟩
    rw [he] at hu
    injection hu with hu
    subst hu
    omega
  · intro h
    exact ⟨_, he, by omega⟩

set_option maxRecDepth 100000 in
set_option maxHeartbeats 2000000 in
theorem isWrong_any (l : List UInt8) (m : Nat) (hm : l.length = m + 1) (hm10 : m < 10) (r : Bool) (hr : r = true ↔ Bad l) (w : World) :
    Calls Tryz.prog 207 #[tval l] w fun e w' => e = .returned (.bool r) ∧ w.grownBy w' none := by
  have hmf : ∀ (fn : Fn) (first cap : Array Value) (w : World), (Instr.makeFunc fn first cap).run Tryz.prog w = .ok (.func fn first cap) w := fun _ _ _ _ => rfl
  have hB := Blk.new w 298 (tcells l)
  have c10 : (w.alloc (.cells (tcells l) 298)).cell? ⟨w.heap.size, 10, none⟩ = some (.int .i64 ((m : Int) + 1)) := by
    have := hB.cell 10
    rw [this]
    simp [tcells, hm]
  have cm : (w.alloc (.cells (tcells l) 298)).cell? ⟨w.heap.size, m, none⟩ = some (.int .u8 (tb l m)) := by rw [hB.cell m]; exact tcells_at l hm10
  have hrr : r = decide (128 ≤ tb l m ∨ (((m : Int) + 1) = 10 ∧ 1 < tb l m) ∨ (1 < ((m : Int) + 1) ∧ tb l m = 0)) := by
    rw [Bool.eq_iff_iff, hr, bad_iff hm]; simp
  rw [hrr]
  clear hr hrr
  generalize tb l m = x at *
  have hsz : (tcells l).size = 11 := tcells_size l
  unfold tval
  generalize tcells l = cs at *
  have hm10' : (m : Int) < 10 := by omega
  go_enter Tryz.func207, Tryz.ntmps207
  go_wp2_with fail
  have B2 := Blk.new (w.alloc (.cells cs 298)) 5 #[.int .u8 x]
  rw [show (w.alloc (.cells cs 298)).heap.size = w.heap.size + 1 by simp] at B2
  have hg : w.grownBy ((w.alloc (.cells cs 298)).alloc (.cells #[.int .u8 x] 5)) none := only_alloc (only_alloc (only_refl _ _) _) _
  have B1 := hB.alloc (.cells #[.int .u8 x] 5)
  have k10 : ((w.alloc (.cells cs 298)).alloc (.cells #[.int .u8 x] 5)).cell? ⟨w.heap.size, 10, none⟩ = some (.int .i64 ((m : Int) + 1)) := (B1.cell 10).trans ((hB.cell 10).symm.trans c10)
  have hz : ((w.alloc (.cells cs 298)).alloc (.cells #[.int .u8 x] 5)).heap.size = w.heap.size + 1 + 1 := by simp
  generalize (w.alloc (.cells cs 298)).alloc (.cells #[.int .u8 x] 5) = W at *
  have F := Blk.new W 33 #[.func (.func 210) #[] #[.pointer (some ⟨w.heap.size + 1, 0, none⟩)], .func (.func 211) #[] #[.pointer (some ⟨w.heap.size, 0, none⟩), .pointer (some ⟨w.heap.size + 1, 0, none⟩)], .func (.func 212) #[] #[.pointer (some ⟨w.heap.size, 0, none⟩), .pointer (some ⟨w.heap.size + 1, 0, none⟩)]]
  rw [hz] at F
  have hg3 := only_alloc hg (.cells #[.func (.func 210) #[] #[.pointer (some ⟨w.heap.size + 1, 0, none⟩)], .func (.func 211) #[] #[.pointer (some ⟨w.heap.size, 0, none⟩), .pointer (some ⟨w.heap.size + 1, 0, none⟩)], .func (.func 212) #[] #[.pointer (some ⟨w.heap.size, 0, none⟩), .pointer (some ⟨w.heap.size + 1, 0, none⟩)]] 33)
  have k103 := (World.cell?_of_block ((only_alloc (only_refl W none) (.cells #[.func (.func 210) #[] #[.pointer (some ⟨w.heap.size + 1, 0, none⟩)], .func (.func 211) #[] #[.pointer (some ⟨w.heap.size, 0, none⟩), .pointer (some ⟨w.heap.size + 1, 0, none⟩)], .func (.func 212) #[] #[.pointer (some ⟨w.heap.size, 0, none⟩), .pointer (some ⟨w.heap.size + 1, 0, none⟩)]] 33)).block w.heap.size B1.lt (fun e => by cases e))).trans k10
  refine (any_of (x := x) (q := w.heap.size + 1) (b := w.heap.size) (w.heap.size + 1 + 1) ((m : Int) + 1) ((B2.alloc _).cell 0) k103 (F.cell 0) (F.cell 1) (F.cell 2)).mono ?_
  rintro e w' ⟨rfl, rfl⟩
  go_wp2_with fail
  go_ret
  exact ⟨by simp, hg3⟩

theorem num_drop (l : List UInt8) (j : Nat) (h : j < l.length) : num (l.drop j) = num (l.drop (j + 1)) * 128 + l[j].toNat % 128 := by
  rw [List.drop_eq_getElem_cons h, num_cons]
theorem num_drop_le (l : List UInt8) (j : Nat) : num (l.drop j) ≤ num l := by
  induction j with
  | zero => rw [List.drop_zero]; exact Nat.le_refl _
  | succ j ih =>
    rcases Nat.lt_or_ge j l.length with h | h
    · have := num_drop l j h
      omega
    · rw [List.drop_eq_nil_of_le (by omega), num_nil]; omega

set_option maxRecDepth 100000 in
set_option maxHeartbeats 2000000 in
/-- The number that good bytes are. -/
theorem number_any (l : List UInt8) (m : Nat) (hm : l.length = m + 1) (hm10 : m < 10) (hn : num l < 18446744073709551616) (w : World) :
    Calls Tryz.prog 208 #[tval l] w fun e w' => e = .returned (.int .u64 (num l : Int)) ∧ w.grownBy w' none := by
  have hB := Blk.new w 298 (tcells l)
  have hg : w.grownBy (w.alloc (.cells (tcells l) 298)) none := only_alloc (only_refl _ _) _
  have c10 : (w.alloc (.cells (tcells l) 298)).cell? ⟨w.heap.size, 10, none⟩ = some (.int .i64 ((m : Int) + 1)) := by
    have := hB.cell 10
    rw [this]
    simp [tcells, hm]
  have cj : Hid (∀ j, j < l.length → ∃ x : Nat, x < 256 ∧ (w.alloc (.cells (tcells l) 298)).cell? ⟨w.heap.size, j, none⟩ = some (.int .u8 (x : Int)) ∧ num (l.drop j) = num (l.drop (j + 1)) * 128 + x % 128) := by
    intro j hj
    refine ⟨l[j].toNat, l[j].toNat_lt, ?_, num_drop l j hj⟩
    rw [hB.cell j, tcells_at l (by omega)]
    unfold tb
    rw [List.getElem?_eq_getElem hj]; rfl
  have hle := Lib.hid (num_drop_le l)
  have hn' := Lib.hid hn
  have hm' := Lib.hid hm
  clear hn hm hB
  unfold tval
  have hsz : (tcells l).size = 11 := tcells_size l
  generalize tcells l = cs at *
  have hm10' : (m : Int) < 10 := by omega
  go_enter Tryz.func208, Tryz.ntmps208
  go_wp2_with fail
  generalize hW : w.alloc (.cells cs 298) = W at *
  go_loopw [3, 4] (fun vn vi wr => ∃ j : Nat, j ≤ l.length ∧ vi = .int .i64 ((j : Int) - 1) ∧ vn = .int .u64 (num (l.drop j) : Int) ∧ W = wr) (fun _ vi _ => (intOf vi + 1).toNat)
  case atStart => exact ⟨m + 1, by rw [hm'.out]; omega, by go_num, by rw [List.drop_eq_nil_of_le (by rw [hm'.out]; omega), num_nil]; rfl, rfl⟩
  case round =>
    obtain ⟨j, hj, rfl, rfl, rfl⟩ := hrel
    have hjm : (j : Int) ≤ 10 := by have := hm'.out; omega
    cases j with
    | zero =>
      rw [List.drop_zero]
      go_wp2_with fail
      go_ret
      exact ⟨rfl, hg⟩
    | succ j =>
      obtain ⟨x, hx, hc, hnum⟩ := cj.out j (by omega)
      have h1 := hle.out (j + 1)
      have h2 := hle.out j
      have h3 := hn'.out
      have e1 : ((j + 1 : Nat) : Int) - 1 = (j : Int) := by omega
      have hj10 : (j : Int) < 10 := by omega
      have HN := Lib.hid hnum
      have HJ := Lib.hid hj
      have hb : (num (l.drop (j + 1)) : Int) * 128 + (x : Int) % 128 < 18446744073709551616 := by omega
      have hb0 : (0 : Int) ≤ (num (l.drop (j + 1)) : Int) := by omega
      have hx0 : (0 : Int) ≤ (x : Int) := by omega
      have hx1 : (x : Int) < 256 := by omega
      have HE : Hid ((num (l.drop j) : Int) = (num (l.drop (j + 1)) : Int) * 128 + (x : Int) % 128) := by show _ = _; rw [hnum]; omega
      clear hnum h1 h2 h3 hj
      rw [e1]
      clear e1
      generalize (num (l.drop (j + 1)) : Int) = y at *
      generalize (x : Int) = z at *
      go_wp2_with fail
      go_roundw
      case rel => exact ⟨j, by have := HJ.out; omega, rfl, by rw [HE.out], trivial⟩
      case measure => simp [intOf]
end Go.Proofs.YtohhojbeclbedaaGreatDoor

namespace Go.Proofs.YtohhojbeclbedaaGreatDoor
open Go.RowKit

theorem u_mid {w w1 : World} {g A bg : Nat} {bs : List UInt8} (l : List UInt8) (hg : w.grownBy w1 (some g)) (hR : Rdr w1 g bs A bg) :
    Blk (w1.alloc (.cells (tcells []) 298)) w1.heap.size 298 (tcells []) ∧
    Blk ((w1.alloc (.cells (tcells []) 298)).setRow w1.heap.size (tcells l)) w1.heap.size 298 (tcells l) ∧
    w.grownBy ((w1.alloc (.cells (tcells []) 298)).setRow w1.heap.size (tcells l)) (some g) ∧
    Rdr ((w1.alloc (.cells (tcells []) 298)).setRow w1.heap.size (tcells l)) g bs A bg ∧
    (∀ fb c x, fb < w1.heap.size → Flt w1 fb c x → Flt ((w1.alloc (.cells (tcells []) 298)).setRow w1.heap.size (tcells l)) fb c x) := by
  have hB := Blk.new w1 298 (tcells [])
  have h1 : w1.grownBy (w1.alloc (.cells (tcells []) 298)) none := only_alloc (only_refl _ _) _
  have hs : (w1.alloc (.cells (tcells []) 298)).grownBy ((w1.alloc (.cells (tcells []) 298)).setRow w1.heap.size (tcells l)) (some w1.heap.size) := row_only _ _ _
  refine ⟨hB, blk_row hB _, only_new' (only_trans hg (only_weak h1 (some g))) hs hg.size, (hR.kept h1).grown hs (fun e => by have := hR.lt; injection e with e; omega) (fun j e => ?_), fun fb c x hlt hf => ?_⟩
  · injection e with e
    subst e
    exact ⟨_, _, hB, by decide⟩
  · exact Blk.grown (Blk.kept hf h1) hs (fun e => by injection e with e; omega)

set_option maxRecDepth 100000 in
set_option maxHeartbeats 4000000 in
theorem u_ok {w : World} {g : Nat} {bs : List UInt8} {a bg : Nat} (h : Rdr w g bs a bg) (k : Nat) (hk : Taken (bs.drop a) k) (hb : ¬ Bad ((bs.drop a).take k)) :
    Calls Tryz.prog 203 #[.pointer (some ⟨g, 0, none⟩)] w fun e w' => e = .returned (.tuple #[.int .u64 (num ((bs.drop a).take k) : Int), .nilIface]) ∧ w.grownBy w' (some g) ∧ Rdr w' g bs (a + k) bg := by
  have HT := fun (w1 : World) (h : Rdr w1 g bs a bg) => take_taken h k hk
  obtain ⟨m, hm⟩ : ∃ m, k = m + 1 := ⟨k - 1, by have := hk.pos; omega⟩
  have hml : ((bs.drop a).take k).length = m + 1 := by rw [List.length_take]; have := hk.len; omega
  have hm10 : m < 10 := by have := hk.le; omega
  have HW := isWrong_any ((bs.drop a).take k) m hml hm10 false (by simp [hb])
  have HN := number_any ((bs.drop a).take k) m hml hm10 (sev_of_taken hk hb).2
  clear hk hb hml hm10 hm
  generalize (bs.drop a).take k = l at *
  have HP := place_step h
  go_enter Tryz.func203, Tryz.ntmps203
  go_wp2_with fail
  refine HP.mono ?_
  clear HP
  rintro e w0 ⟨rfl, hg0⟩
  have h0 := h.kept hg0
  have hgl := h.lt
  go_wp2_with fail
  refine (HT _ h0).mono ?_
  rintro e w1 ⟨rfl, hg1, hR1⟩
  obtain ⟨b0, b1, hg2, hR2, _⟩ := u_mid l (only_trans (only_weak hg0 _) hg1) hR1
  clear HT h h0
  go_wp2_with (first | (refine wpList_store_blk (l := l) rfl (.tmp 5) (.tmp 12) rfl rfl rfl b0 ?_) | (refine wpList_load_blk rfl (.tmp 5) rfl rfl b1 ?_))
  refine (HW _).mono ?_
  rintro e w3 ⟨rfl, hg3⟩
  have b3 := b1.kept hg3
  have hg4 := only_trans hg2 (only_weak hg3 (some g))
  have hR3 := hR2.kept hg3
  clear hg2 hR2 b1 hg3
  go_wp2_with (refine wpList_load_blk rfl (.tmp 5) rfl rfl b3 ?_)
  refine (HN _).mono ?_
  rintro e w4 ⟨rfl, hg5⟩
  go_wp2_with fail
  go_ret2
  exact ⟨rfl, only_trans hg4 (only_weak hg5 _), hR3.kept hg5⟩

set_option maxRecDepth 100000 in
set_option maxHeartbeats 4000000 in
theorem u_bad {w : World} {g : Nat} {bs : List UInt8} {a bg : Nat} (h : Rdr w g bs a bg) (k : Nat) (hk : Taken (bs.drop a) k) (hb : Bad ((bs.drop a).take k)) :
    Calls Tryz.prog 203 #[.pointer (some ⟨g, 0, none⟩)] w fun e w' => ∃ fb, e = .returned (.tuple #[.int .u64 0, .iface 94 (.pointer (some ⟨fb, 0, none⟩))]) ∧ Flt w' fb 5 ((bg : Int) + (a : Int)) ∧ w.heap.size ≤ fb ∧ w.grownBy w' (some g) ∧ Rdr w' g bs (a + k) bg := by
  have HT := fun (w1 : World) (h : Rdr w1 g bs a bg) => take_taken h k hk
  obtain ⟨m, hm⟩ : ∃ m, k = m + 1 := ⟨k - 1, by have := hk.pos; omega⟩
  have hml : ((bs.drop a).take k).length = m + 1 := by rw [List.length_take]; have := hk.len; omega
  have hm10 : m < 10 := by have := hk.le; omega
  have HW := isWrong_any ((bs.drop a).take k) m hml hm10 true (by simp [hb])
  clear hk hb hml hm10 hm
  generalize (bs.drop a).take k = l at *
  have HP := place_step h
  generalize hpl : (bg : Int) + (a : Int) = pl at *
  go_enter Tryz.func203, Tryz.ntmps203
  go_wp2_with fail
  refine HP.mono ?_
  clear HP
  rintro e w0 ⟨rfl, hg0⟩
  have h0 := h.kept hg0
  have hgl := h.lt
  go_wp2_with fail
  refine (HT _ h0).mono ?_
  rintro e w1 ⟨rfl, hg1, hR1⟩
  obtain ⟨b0, b1, hg2, hR2, _⟩ := u_mid l (only_trans (only_weak hg0 _) hg1) hR1
  clear HT h h0
  go_wp2_with (first | (refine wpList_store_blk (l := l) rfl (.tmp 5) (.tmp 12) rfl rfl rfl b0 ?_) | (refine wpList_load_blk rfl (.tmp 5) rfl rfl b1 ?_))
  refine (HW _).mono ?_
  rintro e w3 ⟨rfl, hg3⟩
  have hg4 := only_trans hg2 (only_weak hg3 (some g))
  have hR3 := hR2.kept hg3
  clear hg2 hR2 b1 hg3
  go_wp2_with fail
  go_ret2
  exact ⟨w3.heap.size, rfl, Blk.new w3 _ _, hg4.size, only_alloc hg4 _, hR3.kept (only_alloc (only_refl _ _) _)⟩

set_option maxRecDepth 100000 in
set_option maxHeartbeats 4000000 in
theorem u_ends {w : World} {g : Nat} {bs : List UInt8} {a bg : Nat} (h : Rdr w g bs a bg) (hs : Short (bs.drop a)) :
    Calls Tryz.prog 203 #[.pointer (some ⟨g, 0, none⟩)] w fun e w' => ∃ fb, e = .returned (.tuple #[.int .u64 0, .iface 94 (.pointer (some ⟨fb, 0, none⟩))]) ∧ Flt w' fb 3 ((bg : Int) + (bs.length : Int)) ∧ w.heap.size ≤ fb ∧ w.grownBy w' (some g) ∧ Rdr w' g bs bs.length bg := by
  have HT := fun (w1 : World) (h : Rdr w1 g bs a bg) => take_ends h hs
  clear hs
  have HP := place_step h
  go_enter Tryz.func203, Tryz.ntmps203
  go_wp2_with fail
  refine HP.mono ?_
  clear HP
  rintro e w0 ⟨rfl, hg0⟩
  have h0 := h.kept hg0
  have hgl := h.lt
  go_wp2_with fail
  refine (HT _ h0).mono ?_
  rintro e w1 ⟨fb, rfl, hf, hfb, hg1, hR1⟩
  obtain ⟨b0, _, hg2, hR2, hfl⟩ := u_mid [] (only_trans (only_weak hg0 _) hg1) hR1
  have hf2 := hfl _ _ _ hf.lt hf
  have hsz := hg0.size
  have HF := Lib.hid hf2
  clear HT h h0 hf hf2 hfl
  go_wp2_with (refine wpList_store_blk (l := []) rfl (.tmp 5) (.tmp 12) rfl rfl rfl b0 ?_)
  go_ret2
  exact ⟨fb, rfl, HF.out, by omega, hg2, hR2⟩

end Go.Proofs.YtohhojbeclbedaaGreatDoor

namespace Go.Proofs.YtohhojbeclbedaaGreatDoor
open Go.RowKit

/-- A box: its slot, its type, its zero cells, what it is to hold, the slot of that, the operations that make and fill it. -/
structure Bx where
  slot : Tmp
  ty : TypeId
  zs : Array Value
  cs : Array Value
  src : Tmp
  al : Nat
  st : Nat
/-- An operation that answers c, whatever has come ahead of it: by itself, or by a call. -/
def OpVal (P : Program) (o : Oper) (vals : List (Tmp × Value)) (w : World) (c : Value) : Prop :=
  ∀ (b : Act) (W : World), w.grownBy W none → (∀ t v, Operand.tmp t ∈ o.op.operands → vals.lookup t = some v → b.eval (.tmp t) = v) →
    ((execOp b.eval o).run P W = .ok (.value c) W ∨ ∃ f args, (execOp b.eval o).run P W = .ok (.enter f args) W ∧ Calls P f args W fun e w'' => e = .returned c ∧ W.grownBy w'' none)
/-- A box as it is: zero, or filled. -/
def Boxed (P : Program) (x : Bx) : Prop := (∀ W : World, (Instr.alloc x.ty true (.tuple #[])).run P W = .ok (.pointer (some ⟨W.heap.size, 0, none⟩)) (W.alloc (.cells x.zs x.ty))) ∧ (P.info? x.ty).map (·.size) = some x.cs.size ∧ x.zs.size = x.cs.size ∧ x.cs.all (·.oneCell') = true

/-- As regOk; of what does not bind nothing is asked. -/
def regOkB (ops : Array Oper) : Bool := ops.toList.zipIdx.all fun (o, i) => o.guard.isNone && (o.after.toList.all fun e => !Region.binds .any e || decide (e.on < i)) && depsOk ops o
theorem regOkB_at {ops : Array Oper} (h : regOkB ops = true) {i : Nat} {o : Oper} (hi : ops[i]? = some o) : o.guard = none ∧ (∀ e ∈ o.after, Region.binds .any e = true → e.on < i) ∧ depsOk ops o = true := by
  unfold regOkB at h
  rw [List.all_eq_true] at h
  have h1 := h (o, i) (List.mem_iff_getElem?.2 ⟨i, by rw [List.getElem?_zipIdx, Array.getElem?_toList, hi]; simp⟩)
  simp only [Bool.and_eq_true, List.all_eq_true, Bool.or_eq_true, Bool.not_eq_true', decide_eq_true_eq, Option.isNone_iff_eq_none] at h1
  refine ⟨h1.1.1, fun e he hb => ?_, h1.2⟩
  rcases h1.1.2 e (Array.mem_toList_iff.2 he) with h2 | h2
  · rw [hb] at h2; cases h2
  · exact h2
theorem all_listedB {ops : Array Oper} (hok : regOkB ops = true) {listed : Array Bool} (hs : listed.size = ops.size) (hr : Region.ready .any ops listed = []) : ∀ i, i < ops.size → listed.getD i false = true := by
  intro i
  induction i using Nat.strongRecOn with
  | _ i ih =>
    intro hi
    cases hl : listed.getD i false with
    | true => rfl
    | false =>
      have ho : ops[i]? = some ops[i] := Array.getElem?_eq_getElem hi
      have hm : i ∈ Region.ready .any ops listed := mem_ready.2 ⟨by simpa [hs, hi] using hl, ops[i], ho, fun e he hb => by
        have := (regOkB_at hok ho).2.1 e he hb
        exact ih e.on this (by omega)⟩
      rw [hr] at hm
      cases hm
theorem getD_set_at {l : Array Bool} {i : Nat} (h : i < l.size) : (l.setIfInBounds i true).getD i false = true := by simp [h]

theorem region_boxes {P : Program} {ops : Array Oper} {Q : Exit → Act → World → Prop} {id : Nat} {a : Act} {w : World} (hm : P.follows .mixedOrders = true) (hok : regOkB ops = true) (hlt : ((dstsOf ops).all fun t => decide (t < a.tmps.size)) = true)
    (hu : ∀ (i j : Nat) (oi oj : Oper) (t : Tmp), ops[i]? = some oi → ops[j]? = some oj → oi.dst = some t → oj.dst = some t → i = j)
    (vals : List (Tmp × Value)) (boxes : List Bx)
    (h0 : ∀ t v, vals.lookup t = some v → t ∉ dstsOf ops → a.tmps.getD t undef = v)
    (hcls : ∀ (i : Nat) (o : Oper), ops[i]? = some o → (∃ t c, o.dst = some t ∧ vals.lookup t = some c ∧ (∀ x ∈ boxes, x.slot ≠ t ∧ x.al ≠ i ∧ x.st ≠ i) ∧ OpVal P o vals w c) ∨ (∃ x ∈ boxes, x.al = i ∧ o.op = .alloc x.ty ∧ o.dst = some x.slot) ∨
      (∃ x ∈ boxes, x.st = i ∧ o.op = .store x.ty (.tmp x.slot) (.tmp x.src) ∧ o.dst = none ∧ ∃ oa, ops[x.al]? = some oa ∧ oa.dst = some x.slot))
    (hbx : ∀ x ∈ boxes, Boxed P x ∧ vals.lookup x.src = some (.agg x.cs))
    (hbnv : ∀ x ∈ boxes, ∀ t c, x.slot = t → vals.lookup t = some c → False)
    (hbu : ∀ x ∈ boxes, ∀ y ∈ boxes, (x.al = y.al → x = y) ∧ (x.st = y.st → x = y) ∧ (x.slot = y.slot → x = y) ∧ x.al ≠ y.st)
    (hQ : ∀ (vs : Tmp → Value) (W : World), w.grownBy W none → (∀ t v, vals.lookup t = some v → t ∈ dstsOf ops → vs t = v) → (∀ x ∈ boxes, (∃ o, ops[x.al]? = some o) → (∃ o, ops[x.st]? = some o) → ∃ B, vs x.slot = .pointer (some ⟨B, 0, none⟩) ∧ w.heap.size ≤ B ∧ Blk W B x.ty x.cs) →
      (∀ x ∈ boxes, ∀ y ∈ boxes, x.al ≠ y.al → (∃ o, ops[x.al]? = some o) → (∃ o, ops[y.al]? = some o) → ∀ B, vs x.slot = .pointer (some ⟨B, 0, none⟩) → vs y.slot ≠ .pointer (some ⟨B, 0, none⟩)) →
      Q .normal { a with tmps := (dstsOf ops).foldl (fun (ts : Array Value) t => ts.setIfInBounds t (vs t)) a.tmps } W) :
    (Code.region id ops true).wp P Q a w := by
  have hdl : ∀ t ∈ dstsOf ops, t < a.tmps.size := fun t ht => by simpa using List.all_eq_true.1 hlt t ht
  refine wp_region_any hm (wpAny_inv (fun listed b W => w.grownBy W none ∧ b.defers = a.defers ∧ b.tmps.size = a.tmps.size ∧ (∀ t, t ∉ dstsOf ops → b.tmps[t]? = a.tmps[t]?) ∧
    (∀ (i : Nat) (o : Oper) (t : Tmp) (c : Value), listed.getD i false = true → ops[i]? = some o → o.dst = some t → vals.lookup t = some c → b.tmps.getD t undef = c) ∧
    (∀ x ∈ boxes, listed.getD x.st false = true → listed.getD x.al false = true) ∧
    (∀ x ∈ boxes, listed.getD x.al false = true → ∃ B, b.tmps.getD x.slot undef = .pointer (some ⟨B, 0, none⟩) ∧ w.heap.size ≤ B ∧ Blk W B x.ty (if listed.getD x.st false = true then x.cs else x.zs)) ∧
    (∀ x ∈ boxes, ∀ y ∈ boxes, x.al ≠ y.al → listed.getD x.al false = true → listed.getD y.al false = true → ∀ B, b.tmps.getD x.slot undef = .pointer (some ⟨B, 0, none⟩) → b.tmps.getD y.slot undef ≠ .pointer (some ⟨B, 0, none⟩))) ?_ ?_ ops.size _ _ _ (by simp) (by
      have := List.countP_le_length (p := (! ·)) (l := (Array.replicate ops.size false).toList)
      simpa using this) ?_)
  · rintro listed b W hs ⟨i1, i2, i3, i4, i5, i6, i7, i8⟩ i hi
    obtain ⟨hni, o, ho, hall⟩ := mem_ready.1 hi
    have hil : i < ops.size := (Array.getElem?_eq_some_iff.1 ho).1
    have hni' : listed.getD i false = false := by
      have hl : i < listed.size := by omega
      simpa [hl] using hni
    obtain ⟨g1, g2, g3⟩ := regOkB_at hok ho
    have henv : ∀ t v, Operand.tmp t ∈ o.op.operands → vals.lookup t = some v → b.eval (.tmp t) = v := fun t v ht hv => by
      unfold depsOk at g3
      rw [List.all_eq_true] at g3
      have h1 := g3 (.tmp t) (Array.mem_toList_iff.2 ht)
      simp only [Bool.or_eq_true, List.all_eq_true, List.any_eq_true, Bool.and_eq_true, bne_iff_ne, ne_eq, beq_iff_eq] at h1
      rcases h1 with h1 | ⟨e, he, hb, hx⟩
      · have h4 : t ∉ dstsOf ops := fun hm => by
          obtain ⟨i, oi, hi, e⟩ := mem_dsts.1 hm
          exact h1 oi (List.mem_iff_getElem?.2 ⟨i, by rw [Array.getElem?_toList]; exact hi⟩) e
        have h5 := i4 t h4
        show b.tmps.getD t undef = v
        rw [Array.getD_eq_getD_getElem?, h5, ← Array.getD_eq_getD_getElem?]
        exact h0 t v hv h4
      · obtain ⟨oj, hoj, e1⟩ := Option.bind_eq_some_iff.1 hx
        exact i5 e.on oj t v (hall e (Array.mem_toList_iff.1 he) hb) hoj e1 hv
    unfold wpOp
    simp only [ho]
    rw [if_pos (by simp [Region.wanted, g1])]
    refine .inl ?_
    have hset : ∀ j, i ≠ j → (listed.setIfInBounds i true).getD j false = listed.getD j false := fun j hij => getD_set_ne false hij
    rcases hcls i o ho with ⟨t, c, b1, b2, b3, b4⟩ | ⟨x, hx, hxi, b1, b2⟩ | ⟨x, hx, hxi, b1, b2, oa, hoa, hoad⟩
    · have key : ∀ W', W.grownBy W' none → w.grownBy W' none ∧ (b.put o.dst c).defers = a.defers ∧ (b.put o.dst c).tmps.size = a.tmps.size ∧ (∀ t, t ∉ dstsOf ops → (b.put o.dst c).tmps[t]? = a.tmps[t]?) ∧
          (∀ (j : Nat) (oj : Oper) (t' : Tmp) (c' : Value), (listed.setIfInBounds i true).getD j false = true → ops[j]? = some oj → oj.dst = some t' → vals.lookup t' = some c' → (b.put o.dst c).tmps.getD t' undef = c') ∧
          (∀ x ∈ boxes, (listed.setIfInBounds i true).getD x.st false = true → (listed.setIfInBounds i true).getD x.al false = true) ∧
          (∀ x ∈ boxes, (listed.setIfInBounds i true).getD x.al false = true → ∃ B, (b.put o.dst c).tmps.getD x.slot undef = .pointer (some ⟨B, 0, none⟩) ∧ w.heap.size ≤ B ∧ Blk W' B x.ty (if (listed.setIfInBounds i true).getD x.st false = true then x.cs else x.zs)) ∧
          (∀ x ∈ boxes, ∀ y ∈ boxes, x.al ≠ y.al → (listed.setIfInBounds i true).getD x.al false = true → (listed.setIfInBounds i true).getD y.al false = true → ∀ B, (b.put o.dst c).tmps.getD x.slot undef = .pointer (some ⟨B, 0, none⟩) → (b.put o.dst c).tmps.getD y.slot undef ≠ .pointer (some ⟨B, 0, none⟩)) := fun W' hg => by
        have hsl : ∀ t', t ≠ t' → (b.put o.dst c).tmps.getD t' undef = b.tmps.getD t' undef := fun t' hne => by
          rw [b1]
          simp [Act.put, Array.getElem?_setIfInBounds_ne hne]
        refine ⟨only_trans i1 hg, by rw [b1]; exact i2, by simp [Act.put, b1, i3], fun t' ht' => ?_, fun j oj t' c' hl hoj e1 e2 => ?_, fun x hx hl => ?_, fun x hx hl => ?_, fun x hx y hy hne hlx hly B hB => ?_⟩
        · have hne : t ≠ t' := fun e => ht' (mem_dsts.2 ⟨i, o, ho, by rw [b1, e]⟩)
          rw [b1]
          simp only [Act.put]
          rw [Array.getElem?_setIfInBounds_ne hne]
          exact i4 t' ht'
        · by_cases hij : i = j
          · subst hij
            rw [ho] at hoj
            obtain rfl := Option.some.inj hoj
            rw [b1] at e1
            obtain rfl := Option.some.inj e1
            rw [b2] at e2
            obtain rfl := Option.some.inj e2
            have : t < b.tmps.size := by rw [i3]; exact hdl t (mem_dsts.2 ⟨i, o, ho, b1⟩)
            rw [b1]
            simp [Act.put, this]
          · have hne : t ≠ t' := fun e => hij (hu i j o oj t ho hoj b1 (by rw [e]; exact e1))
            rw [hset j hij] at hl
            rw [hsl t' hne]
            exact i5 j oj t' c' hl hoj e1 e2
        · obtain ⟨n1, n2, n3⟩ := b3 x hx
          rw [hset _ (fun e => n3 e.symm)] at hl
          rw [hset _ (fun e => n2 e.symm)]
          exact i6 x hx hl
        · obtain ⟨n1, n2, n3⟩ := b3 x hx
          rw [hset _ (fun e => n2 e.symm)] at hl
          rw [hset _ (fun e => n3 e.symm), hsl _ (fun e => n1 e.symm)]
          obtain ⟨B, hB, hw, hblk⟩ := i7 x hx hl
          exact ⟨B, hB, hw, hblk.kept hg⟩
        · obtain ⟨n1, n2, n3⟩ := b3 x hx
          obtain ⟨m1, m2, m3⟩ := b3 y hy
          rw [hset _ (fun e => n2 e.symm)] at hlx
          rw [hset _ (fun e => m2 e.symm)] at hly
          rw [hsl _ (fun e => n1 e.symm)] at hB
          rw [hsl _ (fun e => m1 e.symm)]
          exact i8 x hx y hy hne hlx hly B hB
      unfold Oper.wp
      rcases b4 b W i1 henv with hv | ⟨f, args, hv, hcall⟩
      · rw [hv, Oper.upon_value]
        exact key W (only_refl W none)
      · rw [hv, Oper.upon_enter]
        refine hcall.mono fun e w'' hh => ?_
        obtain ⟨rfl, hg⟩ := hh
        exact key w'' hg
    · subst hxi
      obtain ⟨⟨r1, r2, r3, r4⟩, _⟩ := hbx x hx
      have hv : (execOp b.eval o).run P W = .ok (.value (.pointer (some ⟨W.heap.size, 0, none⟩))) (W.alloc (.cells x.zs x.ty)) := by
        unfold execOp
        simp only [b1, Sem.run_bind, r1, Result.andThen_ok, Sem.run_pure]
      have hnst : listed.getD x.st false = false := by
        cases h : listed.getD x.st false with
        | false => rfl
        | true => rw [i6 x hx h] at hni'; cases hni'
      have hslot : x.slot < b.tmps.size := by rw [i3]; exact hdl _ (mem_dsts.2 ⟨_, o, ho, b2⟩)
      have hsl : ∀ t', x.slot ≠ t' → (b.put o.dst (.pointer (some ⟨W.heap.size, 0, none⟩))).tmps.getD t' undef = b.tmps.getD t' undef := fun t' hne => by
        rw [b2]
        simp [Act.put, Array.getElem?_setIfInBounds_ne hne]
      have hself : (b.put o.dst (.pointer (some ⟨W.heap.size, 0, none⟩))).tmps.getD x.slot undef = .pointer (some ⟨W.heap.size, 0, none⟩) := by
        rw [b2]
        simp [Act.put, hslot]
      have hself1 : (listed.setIfInBounds x.al true).getD x.al false = true := getD_set_at (by omega)
      have hst : ∀ y ∈ boxes, (listed.setIfInBounds x.al true).getD y.st false = listed.getD y.st false := fun y hy => hset _ ((hbu x hx y hy).2.2.2)
      unfold Oper.wp
      rw [hv, Oper.upon_value]
      refine ⟨only_alloc i1 _, by rw [b2]; exact i2, by simp [Act.put, b2, i3], fun t' ht' => ?_, fun j oj t' c' hl hoj e1 e2 => ?_, fun y hy hl => ?_, fun y hy hl => ?_, fun y hy z hz hne hly hlz B hB => ?_⟩
      · have hne : x.slot ≠ t' := fun e => ht' (mem_dsts.2 ⟨_, o, ho, by rw [b2, e]⟩)
        rw [b2]
        simp only [Act.put]
        rw [Array.getElem?_setIfInBounds_ne hne]
        exact i4 t' ht'
      · by_cases hij : x.al = j
        · subst hij
          rw [ho] at hoj
          obtain rfl := Option.some.inj hoj
          exfalso
          rcases hcls _ o ho with ⟨t, c, c1, c2, c3, _⟩ | ⟨y, hy, hyi, c1, c2⟩ | ⟨y, hy, hyi, c1, _⟩
          · exact (c3 x hx).2.1 rfl
          · exact hbnv x hx t' c' (by rw [b2] at e1; exact (Option.some.inj e1)) e2
          · rw [b1] at c1; cases c1
        · have hne : x.slot ≠ t' := fun e => hij (hu _ j o oj t' ho hoj (by rw [b2, e]) e1)
          rw [hset j hij] at hl
          rw [hsl t' hne]
          exact i5 j oj t' c' hl hoj e1 e2
      · rw [hst y hy] at hl
        by_cases hxy : x.al = y.al
        · rw [← hxy]; exact hself1
        · rw [hset _ hxy]; exact i6 y hy hl
      · by_cases hxy : x.al = y.al
        · obtain rfl := (hbu x hx y hy).1 hxy
          rw [hst x hx, hnst]
          exact ⟨_, hself, i1.size, Blk.new W _ _⟩
        · rw [hset _ hxy] at hl
          rw [hst y hy, hsl _ (fun e => hxy (by rw [(hbu x hx y hy).2.2.1 e]))]
          obtain ⟨B, hB, hw, hblk⟩ := i7 y hy hl
          exact ⟨B, hB, hw, hblk.alloc _⟩
      · by_cases hxy : x.al = y.al
        · obtain rfl := (hbu x hx y hy).1 hxy
          have hxz : x.al ≠ z.al := hne
          rw [hself] at hB
          rw [hset _ hxz] at hlz
          rw [hsl _ (fun e => hxz (by rw [(hbu x hx z hz).2.2.1 e]))]
          obtain ⟨B', hB', _, hblk⟩ := i7 z hz hlz
          have := hblk.lt
          intro hh
          rw [hB'] at hh
          rw [← hB] at hh
          simp only [Value.pointer.injEq, Option.some.injEq, Addr.mk.injEq, and_true] at hh
          omega
        · rw [hset _ hxy] at hly
          rw [hsl _ (fun e => hxy (by rw [(hbu x hx y hy).2.2.1 e]))] at hB
          by_cases hxz : x.al = z.al
          · obtain rfl := (hbu x hx z hz).1 hxz
            rw [hself]
            obtain ⟨B', hB', _, hblk⟩ := i7 y hy hly
            have := hblk.lt
            intro hh
            rw [hB'] at hB
            rw [← hB] at hh
            simp only [Value.pointer.injEq, Option.some.injEq, Addr.mk.injEq, and_true] at hh
            omega
          · rw [hset _ hxz] at hlz
            rw [hsl _ (fun e => hxz (by rw [(hbu x hx z hz).2.2.1 e]))]
            exact i8 y hy z hz hne hly hlz B hB
    · subst hxi
      obtain ⟨⟨r1, r2, r3, r4⟩, rv⟩ := hbx x hx
      have hops : o.op.operands = #[.tmp x.slot, .tmp x.src] := by rw [b1]; rfl
      have hsrc : b.eval (.tmp x.src) = .agg x.cs := henv _ _ (by rw [hops]; simp) rv
      have hal : listed.getD x.al false = true := by
        unfold depsOk at g3
        rw [List.all_eq_true] at g3
        have h1 := g3 (.tmp x.slot) (Array.mem_toList_iff.2 (by rw [hops]; simp))
        simp only [Bool.or_eq_true, List.all_eq_true, List.any_eq_true, Bool.and_eq_true, bne_iff_ne, ne_eq, beq_iff_eq] at h1
        rcases h1 with h1 | ⟨e, he, hb, hx'⟩
        · exact absurd hoad (h1 oa (List.mem_iff_getElem?.2 ⟨_, by rw [Array.getElem?_toList]; exact hoa⟩))
        · obtain ⟨oj, hoj, e1⟩ := Option.bind_eq_some_iff.1 hx'
          have := hall e (Array.mem_toList_iff.1 he) hb
          rw [hu _ _ oj oa x.slot hoj hoa e1 hoad] at this
          exact this
      obtain ⟨B, hB, hwB, hblk⟩ := i7 x hx hal
      rw [if_neg (by rw [hni']; simp)] at hblk
      have hg : W.grownBy (W.setRow B x.cs) (some B) := ⟨rfl, rfl, rfl, by simp, fun k _ hk => setRow_other W B k x.cs (fun e => hk (by rw [e]))⟩
      refine wp_store_row x.ty (.tmp x.slot) (.tmp x.src) b1 B x.cs hB hsrc x.ty x.zs hblk r2 r3 r4 ?_
      have hput : b.put o.dst undef = b := by rw [b2]; rfl
      rw [hput]
      have hst' : (listed.setIfInBounds x.st true).getD x.st false = true := getD_set_at (by omega)
      have hal' : ∀ y ∈ boxes, (listed.setIfInBounds x.st true).getD y.al false = listed.getD y.al false := fun y hy => hset _ (fun e => (hbu y hy x hx).2.2.2 e.symm)
      refine ⟨only_new i1 hg hwB, i2, i3, i4, fun j oj t' c' hl hoj e1 e2 => ?_, fun y hy hl => ?_, fun y hy hl => ?_, fun y hy z hz hne hly hlz B' hB' => ?_⟩
      · by_cases hij : x.st = j
        · subst hij
          rw [ho] at hoj
          obtain rfl := Option.some.inj hoj
          rw [b2] at e1
          cases e1
        · rw [hset j hij] at hl
          exact i5 j oj t' c' hl hoj e1 e2
      · rw [hal' y hy]
        by_cases hxy : x.st = y.st
        · obtain rfl := (hbu x hx y hy).2.1 hxy
          exact hal
        · rw [hset _ hxy] at hl
          exact i6 y hy hl
      · rw [hal' y hy] at hl
        by_cases hxy : x.st = y.st
        · obtain rfl := (hbu x hx y hy).2.1 hxy
          rw [if_pos hst']
          exact ⟨B, hB, hwB, setRow_heap W B x.zs x.cs x.ty _ hblk⟩
        · rw [hset _ hxy]
          obtain ⟨B', hB', hw', hblk'⟩ := i7 y hy hl
          refine ⟨B', hB', hw', hblk'.grown hg (fun e => ?_)⟩
          have hne : x.al ≠ y.al := fun e => hxy (by rw [(hbu x hx y hy).1 e])
          simp only [Option.some.injEq] at e
          subst e
          exact i8 x hx y hy hne hal hl _ hB hB'
      · rw [hal' y hy] at hly
        rw [hal' z hz] at hlz
        exact i8 y hy z hz hne hly hlz B' hB'
  · rintro listed b W hs ⟨i1, i2, i3, i4, i5, i6, i7, i8⟩ hr
    have hl := all_listedB hok hs hr
    have hlo : ∀ {i o}, ops[i]? = some o → listed.getD i false = true := fun h => hl _ (Array.getElem?_eq_some_iff.1 h).1
    have hb : b = { a with tmps := (dstsOf ops).foldl (fun (ts : Array Value) t => ts.setIfInBounds t (b.tmps.getD t undef)) a.tmps } := by
      obtain ⟨bt, bd⟩ := b
      obtain ⟨at_, ad⟩ := a
      simp only [Act.mk.injEq]
      refine ⟨?_, i2⟩
      apply Array.ext_getElem?
      intro t
      dsimp only at i3 i4
      rw [foldSet]
      by_cases h1 : t ∈ dstsOf ops
      · by_cases h2 : t < at_.size
        · have : t < bt.size := by omega
          simp [h1, h2, this]
        · simp [h2, i3]
      · simp only [h1, false_and, if_false]
        exact i4 t h1
    rw [hb]
    refine hQ _ W i1 (fun t v hv ht => ?_) (fun x hx ⟨oa, ha⟩ ⟨os, hs'⟩ => ?_) (fun x hx y hy hne ⟨oa, ha⟩ ⟨ob, hb'⟩ B hB => ?_)
    · obtain ⟨i, o, ho, e⟩ := mem_dsts.1 ht
      exact i5 i o t v (hlo ho) ho e hv
    · obtain ⟨B, hB, hw, hblk⟩ := i7 x hx (hlo ha)
      rw [if_pos (hlo hs')] at hblk
      exact ⟨B, hB, hw, hblk⟩
    · exact i8 x hx y hy hne (hlo ha) (hlo hb') B hB
  · have hno : ∀ j, (Array.replicate ops.size false).getD j false = false := fun j => by
      simp only [Array.getD_eq_getD_getElem?, Array.getElem?_replicate]
      split <;> rfl
    refine ⟨only_drew (only_refl w none), rfl, rfl, fun _ _ => rfl, fun i o t d hl => ?_, fun x _ hl => ?_, fun x _ hl => ?_, fun x _ y _ _ hl => ?_⟩
    all_goals (rw [hno] at hl; cases hl)
end Go.Proofs.YtohhojbeclbedaaGreatDoor

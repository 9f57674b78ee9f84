/- Texts joined for the claim's sake: St, Turn. -/
import Derived.Test.YtmbdaenjeeklfaaDoorZIbA
import Derived.Test.YtmbdaenjeeklfaaDoorTold
/- What a call holds at a point of its way: readers, each in a block of its own, and faults; and that nothing that was there ahead of the call has turned. -/
namespace Go.Proofs.YtmbdaenjeeklfaaDoor
open Go.RowKit

/-- A reader: its block, its bytes, its place, where its bytes begin. -/
structure RD where
  g : Nat
  bs : List UInt8
  at_ : Nat
  bg : Nat
/-- A fault: its block, its number, its place. -/
structure FD where
  fb : Nat
  c : Int
  a : Int
def RD.in_ (r : RD) (w : World) : Prop := Rdr w r.g r.bs r.at_ r.bg
def FD.in_ (f : FD) (w : World) : Prop := Flt w f.fb f.c f.a
structure St (w0 w : World) (rs : List RD) (fs : List FD) : Prop where
  err : ErrType w
  err0 : 0 < w0.heap.size
  step : w0.grownBy w none
  rdr : ∀ r ∈ rs, w0.heap.size ≤ r.g ∧ r.in_ w
  apart : (rs.map RD.g).Nodup
  flt : ∀ f ∈ fs, f.in_ w

section
variable {w0 w w' : World} {rs : List RD} {fs : List FD} {g at_ bg : Nat} {bs : List UInt8}
theorem St.start (h : ErrType w) : St w w [] [] := ⟨h, h.lt, only_refl _ _, by simp, by simp, by simp⟩
theorem St.none_ (h : St w0 w rs fs) (hg : w.grownBy w' none) : St w0 w' rs fs :=
  ⟨h.err.kept hg (fun _ e => by cases e), h.err0, only_trans h.step hg, fun r hr => ⟨(h.rdr r hr).1, (h.rdr r hr).2.kept hg⟩, h.apart, fun f hf => (h.flt f hf).kept hg⟩
theorem St.drewN (h : St w0 w rs fs) (n : Nat) : St w0 (w.drewN n) rs fs := h.none_ (only_drewN (only_refl _ _) n)
theorem St.head {r : RD} (h : St w0 w (r :: rs) fs) : Rdr w r.g r.bs r.at_ r.bg := (h.rdr r (List.mem_cons_self)).2
theorem St.lt {r : RD} (h : St w0 w rs fs) (hr : r ∈ rs) : r.g < w.heap.size := (h.rdr r hr).2.lt
theorem St.new (h : St w0 w rs fs) (hs : w.heap.size ≤ g) (hg : w.grownBy w' none) (hr : Rdr w' g bs at_ bg) : St w0 w' (⟨g, bs, at_, bg⟩ :: rs) fs := by
  have h' := h.none_ hg
  refine ⟨h'.err, h'.err0, h'.step, fun r hm => ?_, ?_, h'.flt⟩
  · rcases List.mem_cons.1 hm with rfl | hm
    · exact ⟨Nat.le_trans h.step.size hs, hr⟩
    · exact h'.rdr r hm
  · rw [List.map_cons, List.nodup_cons]
    refine ⟨fun hm => ?_, h.apart⟩
    obtain ⟨r, hr', he⟩ := List.mem_map.1 hm
    have h1 := h.lt hr'
    have h2 : r.g = g := he
    omega
theorem St.fault {fb : Nat} {c a : Int} (h : St w0 w rs fs) (hg : w.grownBy w' none) (hf : Flt w' fb c a) : St w0 w' rs (⟨fb, c, a⟩ :: fs) := by
  have h' := h.none_ hg
  refine ⟨h'.err, h'.err0, h'.step, h'.rdr, h'.apart, fun f hm => ?_⟩
  rcases List.mem_cons.1 hm with rfl | hm
  · exact hf
  · exact h'.flt f hm
theorem St.move {at' : Nat} (h : St w0 w (⟨g, bs, at_, bg⟩ :: rs) fs) (hg : w.grownBy w' (some g)) (hr : Rdr w' g bs at' bg) : St w0 w' (⟨g, bs, at', bg⟩ :: rs) fs := by
  have hh := h.rdr _ (List.mem_cons_self)
  obtain ⟨cs, hb⟩ := h.head.blk
  have hap := h.apart
  rw [List.map_cons, List.nodup_cons] at hap
  refine ⟨h.err.kept hg (fun k e => by injection e with e; subst e; have := h.err0; have h1 : w0.heap.size ≤ g := hh.1; omega), h.err0, only_new h.step hg hh.1, fun r hm => ?_, h.apart, fun f hf => ?_⟩
  · rcases List.mem_cons.1 hm with rfl | hm
    · exact ⟨hh.1, hr⟩
    · have hr' := h.rdr r (List.mem_cons_of_mem _ hm)
      exact ⟨hr'.1, hr'.2.other hg hb (fun e => hap.1 (List.mem_map.2 ⟨r, hm, e⟩))⟩
  · exact Blk.grown (h.flt f hf) hg (fun e => Blk.ne_ (h.flt f hf) hb (by decide) (by injection e))
theorem St.part {n p : Nat} (h : St w0 w (⟨g, bs, at_, bg⟩ :: rs) fs) (hs : w.heap.size ≤ p) (hg : w.grownBy w' (some g)) (hr : Rdr w' g bs (at_ + n) bg) (hp : Rdr w' p ((bs.drop at_).take n) 0 (bg + at_)) :
    St w0 w' (⟨p, (bs.drop at_).take n, 0, bg + at_⟩ :: ⟨g, bs, at_ + n, bg⟩ :: rs) fs := by
  have h' := h.move hg hr
  refine ⟨h'.err, h'.err0, h'.step, fun r hm => ?_, ?_, h'.flt⟩
  · rcases List.mem_cons.1 hm with rfl | hm
    · exact ⟨Nat.le_trans h.step.size hs, hp⟩
    · exact h'.rdr r hm
  · rw [List.map_cons, List.nodup_cons]
    refine ⟨fun hm => ?_, h'.apart⟩
    obtain ⟨r, hr', he⟩ := List.mem_map.1 hm
    have h2 : r.g = p := he
    rcases List.mem_cons.1 hr' with rfl | hr''
    · have h3 : g = p := h2
      have h1 := h.head.lt
      have h4 : g < w.heap.size := h1
      omega
    · have h1 := h.lt (List.mem_cons_of_mem _ hr'')
      omega
theorem St.swap {a b : RD} (h : St w0 w (a :: b :: rs) fs) : St w0 w (b :: a :: rs) fs :=
  ⟨h.err, h.err0, h.step, fun r hm => h.rdr r (by simp only [List.mem_cons] at hm ⊢; rcases hm with h | h | h <;> simp [h]), (List.Perm.nodup_iff ((List.Perm.swap a b rs).map RD.g)).2 h.apart, h.flt⟩
theorem St.tail {a : RD} (h : St w0 w (a :: rs) fs) : St w0 w rs fs :=
  ⟨h.err, h.err0, h.step, fun r hm => h.rdr r (List.mem_cons_of_mem _ hm), (List.nodup_cons.1 h.apart).2, h.flt⟩
theorem St.third {a b c : RD} (h : St w0 w (a :: b :: c :: rs) fs) : St w0 w (c :: a :: b :: rs) fs := by
  refine ⟨h.err, h.err0, h.step, fun r hm => h.rdr r (by simp only [List.mem_cons] at hm ⊢; rcases hm with h | h | h | h <;> simp [h]), ?_, h.flt⟩
  have hp : (a :: b :: c :: rs).Perm (c :: a :: b :: rs) := (List.Perm.cons a (List.Perm.swap c b rs)).trans (List.Perm.swap c a (b :: rs))
  exact (List.Perm.nodup_iff (hp.map RD.g)).1 h.apart
end
theorem place_step {w : World} {g : Nat} {bs : List UInt8} {at_ bg : Nat} (h : Rdr w g bs at_ bg) :
    Calls Tryd.prog 25 #[.pointer (some ⟨g, 0, none⟩)] w fun e w' => e = .returned (.int .i64 ((bg : Int) + (at_ : Int))) ∧ w.grownBy w' none :=
  (place_rdr h).mono fun _ _ ⟨h1, n, h2⟩ => ⟨h1, h2 ▸ only_drewN (only_refl _ _) n⟩
theorem left_step {w : World} {g : Nat} {bs : List UInt8} {at_ bg : Nat} (h : Rdr w g bs at_ bg) :
    Calls Tryd.prog 30 #[.pointer (some ⟨g, 0, none⟩)] w fun e w' => e = .returned (.int .i64 ((bs.length : Int) - (at_ : Int))) ∧ w.grownBy w' none :=
  (left_rdr h).mono fun _ _ ⟨h1, n, h2⟩ => ⟨h1, h2 ▸ only_drewN (only_refl _ _) n⟩
end Go.Proofs.YtmbdaenjeeklfaaDoor

/- What stays of rows and of a writer behind a step; a writer's and a reader's calls, their answers by name. -/
namespace Go.Proofs.YtmbdaenjeeklfaaDoor
open Go.RowKit

section
variable {w w' : World} {B n size : Nat} {e t : TypeId} {v : Value} {xs : List Value}
theorem own_ne {g : Nat} {cs : Array Value} (h : w.ownsRow B e size v n xs) (hg : Blk w g t cs) (hne : e ≠ t) : v.ownBlock ≠ some g := by
  rcases h.2 with ⟨rfl, _⟩ | ⟨g', cap, cur, rfl, _, hh, _⟩
  · simp [Value.ownBlock]
  · intro he
    have : g' = g := by simpa [Value.ownBlock] using he
    subst this
    exact Blk.ne_ (t := e) hh hg hne rfl
theorem own_own_ne {B' n' size' : Nat} {v' : Value} {xs' : List Value} (h : w.ownsRow B e size v n xs) (h' : w.ownsRow B' t size' v' n' xs') (hne : e ≠ t) : v.ownBlock = none ∨ v.ownBlock ≠ v'.ownBlock := by
  rcases h'.2 with ⟨rfl, _⟩ | ⟨g', cap, cur, rfl, _, hh, _⟩
  · by_cases hv : v.ownBlock = none
    · exact .inl hv
    · exact .inr (by simpa [Value.ownBlock] using hv)
  · exact .inr (own_ne h (t := t) (cs := cur) hh hne)
theorem own_turn {S : Nat → Prop} (h : w.ownsRow B e size v n xs) (ht : Turn S w w') (hS : ∀ k, v.ownBlock = some k → ¬ S k) : w'.ownsRow B e size v n xs := by
  refine ⟨h.1, ?_⟩
  rcases h.2 with h0 | ⟨g, cap, cur, rfl, hb, hh, r⟩
  · exact .inl h0
  · have hlt : g < w.heap.size := by
      rcases Nat.lt_or_ge g w.heap.size with h' | h'
      · exact h'
      · rw [Array.getElem?_eq_none h'] at hh; cases hh
    exact .inr ⟨g, cap, cur, rfl, hb, (ht.block g hlt (hS g rfl)).trans hh, r⟩
theorem own_not_u8 (h : w.ownsRow B e size v n xs) (he : e ≠ 5) {k : Nat} (hk : v.ownBlock = some k) : ¬ IsU8 w k := by
  rcases h.2 with ⟨rfl, _⟩ | ⟨g, cap, cur, rfl, hb, hh, r⟩
  · simp [Value.ownBlock] at hk
  · have : g = k := by simpa [Value.ownBlock] using hk
    subst this
    exact Blk.not_u8 (t := e) hh he
theorem Wtr.grown {g : Nat} {bs : List UInt8} {row : Option Nat} (h : Wtr B w g bs) (hg : w.grownBy w' row) (h1 : some g ≠ row) (h2 : ∀ k, row = some k → ¬ IsU8 w k) : Wtr B w' g bs := by
  obtain ⟨hB, v, hb, ho⟩ := h
  refine ⟨hB, v, hb.grown hg h1, ho.kept hg ?_⟩
  by_cases hv : v.ownBlock = none
  · exact .inl hv
  · exact .inr (fun e => by
      obtain ⟨k, hk⟩ := Option.ne_none_iff_exists'.1 hv
      exact h2 k (e.symm.trans hk) (own_u8 ho hk).2)
end

theorem one_byte (s : ByteArray) (h : s.size = 1) (h0 : 0 < s.size) : [s[0]] = s.data.toList := by
  have hl : s.data.toList.length = 1 := by rw [bytes_len]; exact h
  obtain ⟨x, hx⟩ := List.length_eq_one_iff.1 hl
  rw [hx]
  have h1 : s.data.toList[0]? = some s[0] := by
    have hz : 0 < s.data.toList.length := by omega
    rw [List.getElem?_eq_getElem hz]
    rfl
  rw [hx] at h1
  simpa using h1.symm
theorem byte_here {p : ByteArray} {bs : List UInt8} {a : Nat} (h : p.size = 1) (h0 : 0 < p.size) (hs : p.data.toList = (bs.drop a).take p.size) : bs[a]? = some p[0] := by
  have h1 := one_byte p h h0
  rw [hs, h] at h1
  have h2 : ((bs.drop a).take 1)[0]? = some p[0] := by rw [← h1]; rfl
  simpa using h2
theorem bytes_of_list {s : ByteArray} {l : List UInt8} (h : s.data.toList = l) : (⟨l.toArray⟩ : ByteArray) = s := by
  subst h
  apply ByteArray.ext
  simp
theorem wlen_eq {B g : Nat} {w : World} {bs : List UInt8} (h : Wtr B w g bs) (m : Nat) (hm : bs.length = m) :
    Calls Tryd.prog 27 #[.pointer (some ⟨g, 0, none⟩)] w fun e w' => e = .returned (.int .i64 (m : Int)) ∧ w = w' := by subst hm; exact wlen_any h
theorem wtext_eq {B g : Nat} {w : World} {bs : List UInt8} (h : Wtr B w g bs) (t : ByteArray) (ht : t.data.toList = bs) :
    Calls Tryd.prog 14 #[.pointer (some ⟨g, 0, none⟩)] w fun e w' => e = .returned (.string t) ∧ w = w' := by
  have := wtext_any h
  rw [bytes_of_list ht] at this
  exact this
theorem place_eq {w : World} {g a : Nat} {bs : List UInt8} (h : Rdr w g bs a 0) :
    Calls Tryd.prog 25 #[.pointer (some ⟨g, 0, none⟩)] w fun e w' => e = .returned (.int .i64 (a : Int)) ∧ w.grownBy w' none :=
  (place_step h).mono fun _ _ ⟨h1, h2⟩ => ⟨by rw [h1]; congr 2; omega, h2⟩
theorem left_eq {w : World} {g a : Nat} {bs : List UInt8} (h : Rdr w g bs a 0) (l : Int) (hl : (bs.length : Int) - (a : Int) = l) :
    Calls Tryd.prog 30 #[.pointer (some ⟨g, 0, none⟩)] w fun e w' => e = .returned (.int .i64 l) ∧ w.grownBy w' none := by subst hl; exact left_step h
theorem Turn.trans {B g : Nat} {w w1 w2 : World} (h : Turn (WS B w g) w w1) (k : Turn (WS B w1 g) w1 w2) : Turn (WS B w g) w w2 :=
  ⟨k.os.trans h.os, k.tape.trans h.tape, k.output.trans h.output, Nat.le_trans h.size k.size, fun i hi hn => by
    have h1 := h.block i hi hn
    refine (k.block i (Nat.lt_of_lt_of_le hi h.size) (fun hs => hn ?_)).trans h1
    rcases hs with rfl | ⟨h2, cs, fr, h3⟩
    · exact .inl rfl
    · exact .inr ⟨h2, cs, fr, h1.symm.trans h3⟩⟩
theorem Turn.none_ {S : Nat → Prop} {w w' : World} (h : w.grownBy w' none) : Turn S w w' := Turn.of_only h (fun _ e => by cases e)
theorem Turn.refl (S : Nat → Prop) (w : World) : Turn S w w := Turn.none_ (only_refl _ _)
theorem Turn.grown {S : Nat → Prop} {w w1 w2 : World} {row : Option Nat} (h : Turn S w w1) (k : w1.grownBy w2 row) (hr : ∀ r, row = some r → w.heap.size ≤ r) : Turn S w w2 :=
  ⟨k.os.trans h.os, k.tape.trans h.tape, k.output.trans h.output, Nat.le_trans h.size k.size, fun i hi hn => (k.block i (Nat.lt_of_lt_of_le hi h.size) (fun e => by have := hr i e.symm; omega)).trans (h.block i hi hn)⟩
/-- A writer made since w0 turns nothing of w0. -/
theorem Turn.only {S : Nat → Prop} {w0 w w' : World} (h0 : w0.grownBy w none) (h : Turn S w w') (hS : ∀ i, S i → w0.heap.size ≤ i) : w0.grownBy w' none :=
  only_of_below ((below_of_only h0).trans (h.below (B := w0.heap.size) h0.size hS)) none
theorem WS.le {B g i : Nat} {w : World} (hg : B ≤ g) (h : WS B w g i) : B ≤ i := by
  rcases h with rfl | ⟨h, _⟩
  · exact hg
  · exact h
theorem wbyte_eq {B g : Nat} {w : World} {bs : List UInt8} (h : Wtr B w g bs) (hB : B ≤ w.heap.size) (u : UInt8) (v : Int) (hv : v = (u.toNat : Int)) (hl : bs.length + 1 ≤ 1099511627776) :
    Calls Tryd.prog 34 #[.pointer (some ⟨g, 0, none⟩), .int .u8 v] w fun e w' => e = .returned (.tuple #[]) ∧ Wtr B w' g (bs ++ [u]) ∧ Turn (WS B w g) w w' := by subst hv; exact wbyte_any h hB u hl
end Go.Proofs.YtmbdaenjeeklfaaDoor

/- Texts joined for the claim's sake: Told, St, Turn. -/
import Derived.Test.YtohhojbeclbedaaGreatDoorZMKnwRow0
import Derived.Test.YtohhojbeclbedaaGreatDoorZMKnwRow1
import Derived.Test.YtohhojbeclbedaaGreatDoorZMKnwRow2
import Derived.RegionTactic
import Derived.ChangeAlike
import Derived.Deep.RegionWith
import Derived.Deep.QuietTactic
import Derived.BigQuiet
import Derived.Laws.StructEq
import Derived.Test.YtohhojbeclbedaaGreatDoorZMKnwRow3
namespace Go.Proofs.YtohhojbeclbedaaGreatDoor
open Go.RowKit

def ErrType (w : World) : Prop := w.cell? ⟨0, 0, none⟩ = some (.iface 270 (.agg #[.pointer (some ⟨1, 43, none⟩)]))
theorem ErrType.lt {w : World} (h : ErrType w) : 0 < w.heap.size := by
  rcases Nat.lt_or_ge 0 w.heap.size with h' | h'
  · exact h'
  · simp [ErrType, World.cell?, Array.getElem?_eq_none h'] at h
theorem ErrType.kept {w w' : World} {row : Option Nat} (h : ErrType w) (hg : w.grownBy w' row) (hr : ∀ g, row = some g → 0 ≠ g) : ErrType w' := by
  have : w'.cell? ⟨0, 0, none⟩ = w.cell? ⟨0, 0, none⟩ := World.cell?_of_block (hg.block 0 h.lt (fun e => hr _ e.symm rfl))
  exact this.trans h

theorem as_rel (e t : Nat) (old : Value) (w : World) (hg : ErrType w) (ht : Blk w t 94 #[old]) :
    Calls Tryz.prog 102 #[.iface 94 (.pointer (some ⟨e, 0, none⟩)), .iface 161 (.pointer (some ⟨t, 0, none⟩))] w fun ev w' => ev = .returned (.bool true) ∧ w.grownBy w' (some t) ∧ Blk w' t 94 #[.pointer (some ⟨e, 0, none⟩)] := by
  refine (as_hit ⟨e, 0, none⟩ ⟨t, 0, none⟩ old w hg (ht.cell 0) (ht.frozen 0)).mono ?_
  rintro ev w' ⟨rfl, rfl⟩
  exact ⟨rfl, only_setCell (only_alloc (only_alloc (only_alloc (only_alloc (only_refl _ _) _) _) _) _) rfl _, ((((ht.alloc _).alloc _).alloc _).alloc _).set_ 0 _⟩

theorem told_facts {W w1 : World} {fb g f : Nat} {c a : Int} (hs : W.drew.grownBy w1 (some g)) (hg : Blk w1 g 94 #[.pointer (some ⟨fb, 0, none⟩)]) (hF : Blk W fb 89 #[.int .i64 c, .int .i64 a]) (hB : Blk W f 89 #[.int .i64 c, .int .i64 a]) (h1 : fb ≠ g) (h2 : f ≠ g) :
    w1.cell? ⟨g, 0, none⟩ = some (.pointer (some ⟨fb, 0, none⟩)) ∧ w1.cell? ⟨fb, 0, none⟩ = some (.int .i64 c) ∧ w1.cell? ⟨fb, 1, none⟩ = some (.int .i64 a) ∧ w1.cell? ⟨f, 0, none⟩ = some (.int .i64 c) ∧ w1.cell? ⟨f, 1, none⟩ = some (.int .i64 a) := by
  have e1 : some fb ≠ some g := fun e => h1 (by injection e)
  have e2 : some f ≠ some g := fun e => h2 (by injection e)
  exact ⟨hg.cell 0, (hF.drew.grown hs e1).cell 0, (hF.drew.grown hs e1).cell 1, (hB.drew.grown hs e2).cell 0, (hB.drew.grown hs e2).cell 1⟩

set_option maxHeartbeats 1000000 in
theorem told_hit (fb : Nat) (c a : Int) (w : World) (hg : ErrType w) (hb : Blk w fb 89 #[.int .i64 c, .int .i64 a]) (hc : (c == 0) = false) :
    Calls Tryz.prog 38 #[.iface 94 (.pointer (some ⟨fb, 0, none⟩)), .agg #[.int .i64 c, .int .i64 a]] w fun e w' => e = .returned (.bool true) ∧ w.grownBy w' none := by
  have hE : ∀ u, ErrType (((w.alloc (.cells #[.int .i64 c, .int .i64 a] 89)).alloc (.cells #[u] 94))) := fun u => hg.kept (only_alloc (only_alloc (only_refl w none) _) _) (fun g e => by cases e)
  have hF : ∀ u, Blk (((w.alloc (.cells #[.int .i64 c, .int .i64 a] 89)).alloc (.cells #[u] 94))) fb 89 #[.int .i64 c, .int .i64 a] := fun u => (hb.alloc _).alloc _
  have hB : ∀ u, Blk (((w.alloc (.cells #[.int .i64 c, .int .i64 a] 89)).alloc (.cells #[u] 94))) w.heap.size 89 #[.int .i64 c, .int .i64 a] := fun u => (Blk.new w _ _).alloc _
  have hG : ∀ u, Blk (((w.alloc (.cells #[.int .i64 c, .int .i64 a] 89)).alloc (.cells #[u] 94))) (w.heap.size + 1) 94 #[u] := fun u => by
    have := Blk.new (w.alloc (.cells #[.int .i64 c, .int .i64 a] 89)) 94 #[u]
    rwa [show (w.alloc (.cells #[.int .i64 c, .int .i64 a] 89)).heap.size = w.heap.size + 1 from by simp] at this
  have hS : ∀ u, w.grownBy (((w.alloc (.cells #[.int .i64 c, .int .i64 a] 89)).alloc (.cells #[u] 94))) none := fun u => only_alloc (only_alloc (only_refl w none) _) _
  go_enter Tryz.func38, Tryz.ntmps38
  go_wp2
  generalize hW : (w.alloc (Obj.cells #[Value.int IntKind.i64 c, Value.int IntKind.i64 a] 89)).alloc (Obj.cells #[Value.pointer none] 94) = W
  have hE' := hE (.pointer none)
  have hF' := hF (.pointer none)
  have hB' := hB (.pointer none)
  have hG' := hG (.pointer none)
  have hS' := hS (.pointer none)
  rw [hW] at hE' hF' hB' hG' hS'
  clear hW hE hF hB hG hS
  have hne : fb ≠ w.heap.size + 1 := by have := hb.lt; omega
  go_region_with (first
    | (go_at_call 102; refine (as_rel fb (w.heap.size + 1) (.pointer none) _ ?_ ?_).mono ?_; exact hE'; exact hG'; rintro e w1 ⟨rfl, hs1, hg1⟩; obtain ⟨k0, k1, k2, k3, k4⟩ := told_facts hs1 hg1 hF' hB' hne (by omega))
    | (go_at_call 103; refine (is_hit fb c _ ?_).mono ?_; exact k1; rintro e w' ⟨rfl, rfl⟩))
  all_goals (try go_wp2)
  all_goals (go_ret; exact ⟨rfl, only_new (only_drew hS') hs1 (by omega)⟩)
end Go.Proofs.YtohhojbeclbedaaGreatDoor

namespace Go.Proofs.YtohhojbeclbedaaGreatDoor
open Go.RowKit

/-- A reader: its block, its bytes, its place, where its bytes begin. -/
structure RD where
  g : Nat
  bs : List UInt8
  at_ : Nat
  bg : Nat
/-- A fault: its block, its number, its place. -/
structure FD where
  fb : Nat
  c : Int
  a : Int
def RD.in_ (r : RD) (w : World) : Prop := Rdr w r.g r.bs r.at_ r.bg
def FD.in_ (f : FD) (w : World) : Prop := Flt w f.fb f.c f.a
structure St (w0 w : World) (rs : List RD) (fs : List FD) : Prop where
  err : ErrType w
  err0 : 0 < w0.heap.size
  step : w0.grownBy w none
  rdr : ∀ r ∈ rs, w0.heap.size ≤ r.g ∧ r.in_ w
  apart : (rs.map RD.g).Nodup
  flt : ∀ f ∈ fs, f.in_ w

section
variable {w0 w w' : World} {rs : List RD} {fs : List FD} {g at_ bg : Nat} {bs : List UInt8}
theorem St.start (h : ErrType w) : St w w [] [] := ⟨h, h.lt, only_refl _ _, by simp, by simp, by simp⟩
theorem St.none_ (h : St w0 w rs fs) (hg : w.grownBy w' none) : St w0 w' rs fs :=
  ⟨h.err.kept hg (fun _ e => by cases e), h.err0, only_trans h.step hg, fun r hr => ⟨(h.rdr r hr).1, (h.rdr r hr).2.kept hg⟩, h.apart, fun f hf => (h.flt f hf).kept hg⟩
theorem St.drewN (h : St w0 w rs fs) (n : Nat) : St w0 (w.drewN n) rs fs := h.none_ (only_drewN (only_refl _ _) n)
theorem St.head {r : RD} (h : St w0 w (r :: rs) fs) : Rdr w r.g r.bs r.at_ r.bg := (h.rdr r (List.mem_cons_self)).2
theorem St.lt {r : RD} (h : St w0 w rs fs) (hr : r ∈ rs) : r.g < w.heap.size := (h.rdr r hr).2.lt
theorem St.new (h : St w0 w rs fs) (hs : w.heap.size ≤ g) (hg : w.grownBy w' none) (hr : Rdr w' g bs at_ bg) : St w0 w' (⟨g, bs, at_, bg⟩ :: rs) fs := by
  have h' := h.none_ hg
  refine ⟨h'.err, h'.err0, h'.step, fun r hm => ?_, ?_, h'.flt⟩
  · rcases List.mem_cons.1 hm with rfl | hm
    · exact ⟨Nat.le_trans h.step.size hs, hr⟩
    · exact h'.rdr r hm
  · rw [List.map_cons, List.nodup_cons]
    refine ⟨fun hm => ?_, h.apart⟩
    obtain ⟨r, hr', he⟩ := List.mem_map.1 hm
    have h1 := h.lt hr'
    have h2 : r.g = g := he
    omega
theorem St.fault {fb : Nat} {c a : Int} (h : St w0 w rs fs) (hg : w.grownBy w' none) (hf : Flt w' fb c a) : St w0 w' rs (⟨fb, c, a⟩ :: fs) := by
  have h' := h.none_ hg
  refine ⟨h'.err, h'.err0, h'.step, h'.rdr, h'.apart, fun f hm => ?_⟩
  rcases List.mem_cons.1 hm with rfl | hm
  · exact hf
  · exact h'.flt f hm
theorem St.move {at' : Nat} (h : St w0 w (⟨g, bs, at_, bg⟩ :: rs) fs) (hg : w.grownBy w' (some g)) (hr : Rdr w' g bs at' bg) : St w0 w' (⟨g, bs, at', bg⟩ :: rs) fs := by
  have hh := h.rdr _ (List.mem_cons_self)
  obtain ⟨cs, hb⟩ := h.head.blk
  have hap := h.apart
  rw [List.map_cons, List.nodup_cons] at hap
  refine ⟨h.err.kept hg (fun k e => by injection e with e; subst e; have := h.err0; have h1 : w0.heap.size ≤ g := hh.1; omega), h.err0, only_new h.step hg hh.1, fun r hm => ?_, h.apart, fun f hf => ?_⟩
  · rcases List.mem_cons.1 hm with rfl | hm
    · exact ⟨hh.1, hr⟩
    · have hr' := h.rdr r (List.mem_cons_of_mem _ hm)
      exact ⟨hr'.1, hr'.2.other hg hb (fun e => hap.1 (List.mem_map.2 ⟨r, hm, e⟩))⟩
  · exact Blk.grown (h.flt f hf) hg (fun e => Blk.ne_ (h.flt f hf) hb (by decide) (by injection e))
theorem St.part {n p : Nat} (h : St w0 w (⟨g, bs, at_, bg⟩ :: rs) fs) (hs : w.heap.size ≤ p) (hg : w.grownBy w' (some g)) (hr : Rdr w' g bs (at_ + n) bg) (hp : Rdr w' p ((bs.drop at_).take n) 0 (bg + at_)) :
    St w0 w' (⟨p, (bs.drop at_).take n, 0, bg + at_⟩ :: ⟨g, bs, at_ + n, bg⟩ :: rs) fs := by
  have h' := h.move hg hr
  refine ⟨h'.err, h'.err0, h'.step, fun r hm => ?_, ?_, h'.flt⟩
  · rcases List.mem_cons.1 hm with rfl | hm
    · exact ⟨Nat.le_trans h.step.size hs, hp⟩
    · exact h'.rdr r hm
  · rw [List.map_cons, List.nodup_cons]
    refine ⟨fun hm => ?_, h'.apart⟩
    obtain ⟨r, hr', he⟩ := List.mem_map.1 hm
    have h2 : r.g = p := he
    rcases List.mem_cons.1 hr' with rfl | hr''
    · have h3 : g = p := h2
      have h1 := h.head.lt
      have h4 : g < w.heap.size := h1
      omega
    · have h1 := h.lt (List.mem_cons_of_mem _ hr'')
      omega
theorem St.swap {a b : RD} (h : St w0 w (a :: b :: rs) fs) : St w0 w (b :: a :: rs) fs :=
  ⟨h.err, h.err0, h.step, fun r hm => h.rdr r (by simp only [List.mem_cons] at hm ⊢; rcases hm with h | h | h <;> simp [h]), (List.Perm.nodup_iff ((List.Perm.swap a b rs).map RD.g)).2 h.apart, h.flt⟩
theorem St.tail {a : RD} (h : St w0 w (a :: rs) fs) : St w0 w rs fs :=
  ⟨h.err, h.err0, h.step, fun r hm => h.rdr r (List.mem_cons_of_mem _ hm), (List.nodup_cons.1 h.apart).2, h.flt⟩
theorem St.third {a b c : RD} (h : St w0 w (a :: b :: c :: rs) fs) : St w0 w (c :: a :: b :: rs) fs := by
  refine ⟨h.err, h.err0, h.step, fun r hm => h.rdr r (by simp only [List.mem_cons] at hm ⊢; rcases hm with h | h | h | h <;> simp [h]), ?_, h.flt⟩
  have hp : (a :: b :: c :: rs).Perm (c :: a :: b :: rs) := (List.Perm.cons a (List.Perm.swap c b rs)).trans (List.Perm.swap c a (b :: rs))
  exact (List.Perm.nodup_iff (hp.map RD.g)).1 h.apart
end
theorem place_step {w : World} {g : Nat} {bs : List UInt8} {at_ bg : Nat} (h : Rdr w g bs at_ bg) :
    Calls Tryz.prog 110 #[.pointer (some ⟨g, 0, none⟩)] w fun e w' => e = .returned (.int .i64 ((bg : Int) + (at_ : Int))) ∧ w.grownBy w' none :=
  (place_rdr h).mono fun _ _ ⟨h1, n, h2⟩ => ⟨h1, h2 ▸ only_drewN (only_refl _ _) n⟩
end Go.Proofs.YtohhojbeclbedaaGreatDoor

namespace Go.Proofs.YtohhojbeclbedaaGreatDoor
open Go.RowKit

section
variable {w w' : World} {B n size : Nat} {e t : TypeId} {v : Value} {xs : List Value}
theorem own_ne {g : Nat} {cs : Array Value} (h : w.ownsRow B e size v n xs) (hg : Blk w g t cs) (hne : e ≠ t) : v.ownBlock ≠ some g := by
  rcases h.2 with ⟨rfl, _⟩ | ⟨g', cap, cur, rfl, _, hh, _⟩
  · simp [Value.ownBlock]
  · intro he
    have : g' = g := by simpa [Value.ownBlock] using he
    subst this
    exact Blk.ne_ (t := e) hh hg hne rfl
theorem own_turn {S : Nat → Prop} (h : w.ownsRow B e size v n xs) (ht : Turn S w w') (hS : ∀ k, v.ownBlock = some k → ¬ S k) : w'.ownsRow B e size v n xs := by
  refine ⟨h.1, ?_⟩
  rcases h.2 with h0 | ⟨g, cap, cur, rfl, hb, hh, r⟩
  · exact .inl h0
  · have hlt : g < w.heap.size := by
      rcases Nat.lt_or_ge g w.heap.size with h' | h'
      · exact h'
      · rw [Array.getElem?_eq_none h'] at hh; cases hh
    exact .inr ⟨g, cap, cur, rfl, hb, (ht.block g hlt (hS g rfl)).trans hh, r⟩
theorem Wtr.grown {g : Nat} {bs : List UInt8} {row : Option Nat} (h : Wtr B w g bs) (hg : w.grownBy w' row) (h1 : some g ≠ row) (h2 : ∀ k, row = some k → ¬ IsU8 w k) : Wtr B w' g bs := by
  obtain ⟨hB, v, hb, ho⟩ := h
  refine ⟨hB, v, hb.grown hg h1, ho.kept hg ?_⟩
  by_cases hv : v.ownBlock = none
  · exact .inl hv
  · exact .inr (fun e => by
      obtain ⟨k, hk⟩ := Option.ne_none_iff_exists'.1 hv
      exact h2 k (e.symm.trans hk) (own_u8 ho hk).2)
end

theorem bytes_of_list {s : ByteArray} {l : List UInt8} (h : s.data.toList = l) : (⟨l.toArray⟩ : ByteArray) = s := by
  subst h
  apply ByteArray.ext
  simp
theorem wtext_eq {B g : Nat} {w : World} {bs : List UInt8} (h : Wtr B w g bs) (t : ByteArray) (ht : t.data.toList = bs) :
    Calls Tryz.prog 63 #[.pointer (some ⟨g, 0, none⟩)] w fun e w' => e = .returned (.string t) ∧ w = w' := by
  have := wtext_any h
  rw [bytes_of_list ht] at this
  exact this
theorem Turn.trans {B g : Nat} {w w1 w2 : World} (h : Turn (WS B w g) w w1) (k : Turn (WS B w1 g) w1 w2) : Turn (WS B w g) w w2 :=
  ⟨k.os.trans h.os, k.tape.trans h.tape, k.output.trans h.output, Nat.le_trans h.size k.size, fun i hi hn => by
    have h1 := h.block i hi hn
    refine (k.block i (Nat.lt_of_lt_of_le hi h.size) (fun hs => hn ?_)).trans h1
    rcases hs with rfl | ⟨h2, cs, fr, h3⟩
    · exact .inl rfl
    · exact .inr ⟨h2, cs, fr, h1.symm.trans h3⟩⟩
theorem Turn.none_ {S : Nat → Prop} {w w' : World} (h : w.grownBy w' none) : Turn S w w' := Turn.of_only h (fun _ e => by cases e)
theorem Turn.refl (S : Nat → Prop) (w : World) : Turn S w w := Turn.none_ (only_refl _ _)
theorem Turn.grown {S : Nat → Prop} {w w1 w2 : World} {row : Option Nat} (h : Turn S w w1) (k : w1.grownBy w2 row) (hr : ∀ r, row = some r → w.heap.size ≤ r) : Turn S w w2 :=
  ⟨k.os.trans h.os, k.tape.trans h.tape, k.output.trans h.output, Nat.le_trans h.size k.size, fun i hi hn => (k.block i (Nat.lt_of_lt_of_le hi h.size) (fun e => by have := hr i e.symm; omega)).trans (h.block i hi hn)⟩
/-- A writer made since w0 turns nothing of w0. -/
theorem Turn.only {S : Nat → Prop} {w0 w w' : World} (h0 : w0.grownBy w none) (h : Turn S w w') (hS : ∀ i, S i → w0.heap.size ≤ i) : w0.grownBy w' none :=
  only_of_below ((below_of_only h0).trans (h.below (B := w0.heap.size) h0.size hS)) none
theorem WS.le {B g i : Nat} {w : World} (hg : B ≤ g) (h : WS B w g i) : B ≤ i := by
  rcases h with rfl | ⟨h, _⟩
  · exact hg
  · exact h
theorem wbyte_eq {B g : Nat} {w : World} {bs : List UInt8} (h : Wtr B w g bs) (hB : B ≤ w.heap.size) (u : UInt8) (v : Int) (hv : v = (u.toNat : Int)) (hl : bs.length + 1 ≤ 1099511627776) :
    Calls Tryz.prog 61 #[.pointer (some ⟨g, 0, none⟩), .int .u8 v] w fun e w' => e = .returned (.tuple #[]) ∧ Wtr B w' g (bs ++ [u]) ∧ Turn (WS B w g) w w' := by subst hv; exact wbyte_any h hB u hl
end Go.Proofs.YtohhojbeclbedaaGreatDoor

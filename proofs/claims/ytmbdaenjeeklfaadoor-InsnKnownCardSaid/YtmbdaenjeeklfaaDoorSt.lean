/- What a call holds at a point of its way: readers, each in a block of its own, and faults; and that nothing that was there ahead of the call has turned. -/
import Derived.Test.YtmbdaenjeeklfaaDoorOctE
import Derived.Test.YtmbdaenjeeklfaaDoorOctW
import Derived.Test.YtmbdaenjeeklfaaDoorTold
namespace Go.Proofs.YtmbdaenjeeklfaaDoor
open Go.RowKit

/-- A reader: its block, its bytes, its place, where its bytes begin. -/
structure RD where
  g : Nat
  bs : List UInt8
  at_ : Nat
  bg : Nat
/-- A fault: its block, its number, its place. -/
structure FD where
  fb : Nat
  c : Int
  a : Int
def RD.in_ (r : RD) (w : World) : Prop := Rdr w r.g r.bs r.at_ r.bg
def FD.in_ (f : FD) (w : World) : Prop := Flt w f.fb f.c f.a
structure St (w0 w : World) (rs : List RD) (fs : List FD) : Prop where
  err : ErrType w
  err0 : 0 < w0.heap.size
  step : w0.grownBy w none
  rdr : ∀ r ∈ rs, w0.heap.size ≤ r.g ∧ r.in_ w
  apart : (rs.map RD.g).Nodup
  flt : ∀ f ∈ fs, f.in_ w

section
variable {w0 w w' : World} {rs : List RD} {fs : List FD} {g at_ bg : Nat} {bs : List UInt8}
theorem St.start (h : ErrType w) : St w w [] [] := ⟨h, h.lt, only_refl _ _, by simp, by simp, by simp⟩
theorem St.none_ (h : St w0 w rs fs) (hg : w.grownBy w' none) : St w0 w' rs fs :=
  ⟨h.err.kept hg (fun _ e => by cases e), h.err0, only_trans h.step hg, fun r hr => ⟨(h.rdr r hr).1, (h.rdr r hr).2.kept hg⟩, h.apart, fun f hf => (h.flt f hf).kept hg⟩
theorem St.drewN (h : St w0 w rs fs) (n : Nat) : St w0 (w.drewN n) rs fs := h.none_ (only_drewN (only_refl _ _) n)
theorem St.head {r : RD} (h : St w0 w (r :: rs) fs) : Rdr w r.g r.bs r.at_ r.bg := (h.rdr r (List.mem_cons_self)).2
theorem St.lt {r : RD} (h : St w0 w rs fs) (hr : r ∈ rs) : r.g < w.heap.size := (h.rdr r hr).2.lt
theorem St.new (h : St w0 w rs fs) (hs : w.heap.size ≤ g) (hg : w.grownBy w' none) (hr : Rdr w' g bs at_ bg) : St w0 w' (⟨g, bs, at_, bg⟩ :: rs) fs := by
  have h' := h.none_ hg
  refine ⟨h'.err, h'.err0, h'.step, fun r hm => ?_, ?_, h'.flt⟩
  · rcases List.mem_cons.1 hm with rfl | hm
    · exact ⟨Nat.le_trans h.step.size hs, hr⟩
    · exact h'.rdr r hm
  · rw [List.map_cons, List.nodup_cons]
    refine ⟨fun hm => ?_, h.apart⟩
    obtain ⟨r, hr', he⟩ := List.mem_map.1 hm
    have h1 := h.lt hr'
    have h2 : r.g = g := he
    omega
theorem St.fault {fb : Nat} {c a : Int} (h : St w0 w rs fs) (hg : w.grownBy w' none) (hf : Flt w' fb c a) : St w0 w' rs (⟨fb, c, a⟩ :: fs) := by
  have h' := h.none_ hg
  refine ⟨h'.err, h'.err0, h'.step, h'.rdr, h'.apart, fun f hm => ?_⟩
  rcases List.mem_cons.1 hm with rfl | hm
  · exact hf
  · exact h'.flt f hm
theorem St.move {at' : Nat} (h : St w0 w (⟨g, bs, at_, bg⟩ :: rs) fs) (hg : w.grownBy w' (some g)) (hr : Rdr w' g bs at' bg) : St w0 w' (⟨g, bs, at', bg⟩ :: rs) fs := by
  have hh := h.rdr _ (List.mem_cons_self)
  obtain ⟨cs, hb⟩ := h.head.blk
  have hap := h.apart
  rw [List.map_cons, List.nodup_cons] at hap
  refine ⟨h.err.kept hg (fun k e => by injection e with e; subst e; have := h.err0; have h1 : w0.heap.size ≤ g := hh.1; omega), h.err0, only_new h.step hg hh.1, fun r hm => ?_, h.apart, fun f hf => ?_⟩
  · rcases List.mem_cons.1 hm with rfl | hm
    · exact ⟨hh.1, hr⟩
    · have hr' := h.rdr r (List.mem_cons_of_mem _ hm)
      exact ⟨hr'.1, hr'.2.other hg hb (fun e => hap.1 (List.mem_map.2 ⟨r, hm, e⟩))⟩
  · exact Blk.grown (h.flt f hf) hg (fun e => Blk.ne_ (h.flt f hf) hb (by decide) (by injection e))
theorem St.part {n p : Nat} (h : St w0 w (⟨g, bs, at_, bg⟩ :: rs) fs) (hs : w.heap.size ≤ p) (hg : w.grownBy w' (some g)) (hr : Rdr w' g bs (at_ + n) bg) (hp : Rdr w' p ((bs.drop at_).take n) 0 (bg + at_)) :
    St w0 w' (⟨p, (bs.drop at_).take n, 0, bg + at_⟩ :: ⟨g, bs, at_ + n, bg⟩ :: rs) fs := by
  have h' := h.move hg hr
  refine ⟨h'.err, h'.err0, h'.step, fun r hm => ?_, ?_, h'.flt⟩
  · rcases List.mem_cons.1 hm with rfl | hm
    · exact ⟨Nat.le_trans h.step.size hs, hp⟩
    · exact h'.rdr r hm
  · rw [List.map_cons, List.nodup_cons]
    refine ⟨fun hm => ?_, h'.apart⟩
    obtain ⟨r, hr', he⟩ := List.mem_map.1 hm
    have h2 : r.g = p := he
    rcases List.mem_cons.1 hr' with rfl | hr''
    · have h3 : g = p := h2
      have h1 := h.head.lt
      have h4 : g < w.heap.size := h1
      omega
    · have h1 := h.lt (List.mem_cons_of_mem _ hr'')
      omega
theorem St.swap {a b : RD} (h : St w0 w (a :: b :: rs) fs) : St w0 w (b :: a :: rs) fs :=
  ⟨h.err, h.err0, h.step, fun r hm => h.rdr r (by simp only [List.mem_cons] at hm ⊢; rcases hm with h | h | h <;> simp [h]), (List.Perm.nodup_iff ((List.Perm.swap a b rs).map RD.g)).2 h.apart, h.flt⟩
theorem St.tail {a : RD} (h : St w0 w (a :: rs) fs) : St w0 w rs fs :=
  ⟨h.err, h.err0, h.step, fun r hm => h.rdr r (List.mem_cons_of_mem _ hm), (List.nodup_cons.1 h.apart).2, h.flt⟩
theorem St.third {a b c : RD} (h : St w0 w (a :: b :: c :: rs) fs) : St w0 w (c :: a :: b :: rs) fs := by
  refine ⟨h.err, h.err0, h.step, fun r hm => h.rdr r (by simp only [List.mem_cons] at hm ⊢; rcases hm with h | h | h | h <;> simp [h]), ?_, h.flt⟩
  have hp : (a :: b :: c :: rs).Perm (c :: a :: b :: rs) := (List.Perm.cons a (List.Perm.swap c b rs)).trans (List.Perm.swap c a (b :: rs))
  exact (List.Perm.nodup_iff (hp.map RD.g)).1 h.apart
end
theorem place_step {w : World} {g : Nat} {bs : List UInt8} {at_ bg : Nat} (h : Rdr w g bs at_ bg) :
    Calls Tryd.prog 25 #[.pointer (some ⟨g, 0, none⟩)] w fun e w' => e = .returned (.int .i64 ((bg : Int) + (at_ : Int))) ∧ w.grownBy w' none :=
  (place_rdr h).mono fun _ _ ⟨h1, n, h2⟩ => ⟨h1, h2 ▸ only_drewN (only_refl _ _) n⟩
theorem left_step {w : World} {g : Nat} {bs : List UInt8} {at_ bg : Nat} (h : Rdr w g bs at_ bg) :
    Calls Tryd.prog 30 #[.pointer (some ⟨g, 0, none⟩)] w fun e w' => e = .returned (.int .i64 ((bs.length : Int) - (at_ : Int))) ∧ w.grownBy w' none :=
  (left_rdr h).mono fun _ _ ⟨h1, n, h2⟩ => ⟨h1, h2 ▸ only_drewN (only_refl _ _) n⟩
end Go.Proofs.YtmbdaenjeeklfaaDoor

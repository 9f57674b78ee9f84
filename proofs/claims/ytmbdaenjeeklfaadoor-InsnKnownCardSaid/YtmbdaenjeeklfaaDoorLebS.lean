/- leb: S and Small of a reader; and U, S and Small at a state: what each answers, and the state behind it. -/
import Derived.Test.YtmbdaenjeeklfaaDoorLebU
import Derived.Test.YtmbdaenjeeklfaaDoorLebF
namespace Go.Proofs.YtmbdaenjeeklfaaDoor
open Go.RowKit

/-- A fault beside the number 0 of the kind k. -/
def FaultBeside (k : IntKind) (R : Nat → World → Prop) (e : Ending) (w' : World) : Prop :=
  ∃ fb, e = .returned (.tuple #[.int k 0, .iface 91 (.pointer (some ⟨fb, 0, none⟩))]) ∧ R fb w'

set_option maxHeartbeats 400000 in
/-- S hands on what U could not take. -/
theorem s_fault {p : Value} {w : World} {R : Nat → World → Prop} (HU : Calls Tryd.prog 76 #[p] w (FaultBeside .u64 R)) :
    Calls Tryd.prog 61 #[p] w (FaultBeside .i64 R) := by
  go_enter Tryd.func61, Tryd.ntmps61
  go_wp2_with fail
  refine HU.mono ?_
  rintro e w1 ⟨fb, rfl, hr⟩
  go_wp2_with fail
  go_ret2
  exact ⟨fb, rfl, hr⟩

set_option maxHeartbeats 400000 in
theorem s_ok {w : World} {g : Nat} {bs : List UInt8} {a bg : Nat} (h : Rdr w g bs a bg) (k : Nat) (hk : Taken (bs.drop a) k) (hb : ¬ Bad ((bs.drop a).take k)) :
    Calls Tryd.prog 61 #[.pointer (some ⟨g, 0, none⟩)] w fun e w' => e = .returned (.tuple #[.int .i64 (unfoldZ (num ((bs.drop a).take k))), .nilIface]) ∧ w.grownBy w' (some g) ∧ Rdr w' g bs (a + k) bg := by
  have HU := u_ok h k hk hb
  have HF := unfold_any (num ((bs.drop a).take k)) (sev_of_taken hk hb).2
  clear hk hb
  generalize num ((bs.drop a).take k) = n at *
  go_enter Tryd.func61, Tryd.ntmps61
  go_wp2_with fail
  refine HU.mono ?_
  rintro e w1 ⟨rfl, hg, hr⟩
  go_wp2_with fail
  refine (HF _).mono ?_
  rintro e w2 ⟨rfl, hg2⟩
  go_wp2_with fail
  go_ret2
  exact ⟨rfl, only_trans hg (only_weak hg2 _), hr.kept hg2⟩

set_option maxHeartbeats 400000 in
/-- Small hands on what U could not take. -/
theorem small_fault {p : Value} {most pl : Int} {w : World} {R : Nat → World → Prop} (HP : Calls Tryd.prog 25 #[p] w fun e w' => e = .returned (.int .i64 pl) ∧ w.grownBy w' none)
    (HU : ∀ w1, w.grownBy w1 none → Calls Tryd.prog 76 #[p] w1 (FaultBeside .u64 R)) :
    Calls Tryd.prog 62 #[p, .int .i64 most] w (FaultBeside .i64 R) := by
  go_enter Tryd.func62, Tryd.ntmps62
  go_wp2_with fail
  refine HP.mono ?_
  rintro e w0 ⟨rfl, hg0⟩
  go_wp2_with fail
  refine (HU _ hg0).mono ?_
  rintro e w1 ⟨fb, rfl, hr⟩
  go_wp2_with fail
  go_ret2
  exact ⟨fb, rfl, hr⟩

set_option maxHeartbeats 1000000 in
theorem small_ok {w : World} {g : Nat} {bs : List UInt8} {a bg : Nat} (h : Rdr w g bs a bg) (k : Nat) (hk : Taken (bs.drop a) k) (hb : ¬ Bad ((bs.drop a).take k)) (most : Int) (hw : Whole most) (hm : (num ((bs.drop a).take k) : Int) ≤ most) :
    Calls Tryd.prog 62 #[.pointer (some ⟨g, 0, none⟩), .int .i64 most] w fun e w' => e = .returned (.tuple #[.int .i64 (num ((bs.drop a).take k) : Int), .nilIface]) ∧ w.grownBy w' (some g) ∧ Rdr w' g bs (a + k) bg := by
  have HU := fun (w1 : World) (h : Rdr w1 g bs a bg) => u_ok h k hk hb
  have HP := place_step h
  clear hk hb
  have h0 : (0 : Int) ≤ (num ((bs.drop a).take k) : Int) := by omega
  obtain ⟨hw1, hw2⟩ := hw
  generalize (num ((bs.drop a).take k) : Int) = n at *
  go_enter Tryd.func62, Tryd.ntmps62
  go_wp2_with fail
  refine HP.mono ?_
  rintro e w0 ⟨rfl, hg0⟩
  go_wp2_with fail
  refine (HU _ (h.kept hg0)).mono ?_
  rintro e w1 ⟨rfl, hg, hr⟩
  go_wp2_with fail
  go_ret2
  exact ⟨rfl, only_trans (only_weak hg0 _) hg, hr⟩

set_option maxHeartbeats 1000000 in
theorem small_long {w : World} {g : Nat} {bs : List UInt8} {a bg : Nat} (h : Rdr w g bs a bg) (k : Nat) (hk : Taken (bs.drop a) k) (hb : ¬ Bad ((bs.drop a).take k)) (most : Int) (hw : Whole most) (hm : most < (num ((bs.drop a).take k) : Int)) :
    Calls Tryd.prog 62 #[.pointer (some ⟨g, 0, none⟩), .int .i64 most] w (FaultBeside .i64 fun fb w' => Flt w' fb 4 ((bg : Int) + (a : Int)) ∧ w.heap.size ≤ fb ∧ w.grownBy w' (some g) ∧ Rdr w' g bs (a + k) bg) := by
  have HU := fun (w1 : World) (h : Rdr w1 g bs a bg) => u_ok h k hk hb
  have HP := place_step h
  have hn := (sev_of_taken hk hb).2
  clear hk hb
  have h0 : (0 : Int) ≤ (num ((bs.drop a).take k) : Int) := by omega
  have h1 : (num ((bs.drop a).take k) : Int) < 18446744073709551616 := by omega
  clear hn
  obtain ⟨hw1, hw2⟩ := hw
  generalize (num ((bs.drop a).take k) : Int) = n at *
  generalize hpl : (bg : Int) + (a : Int) = pl at *
  by_cases hm0 : most < 0
  · go_enter Tryd.func62, Tryd.ntmps62
    go_wp2_with fail
    refine HP.mono ?_
    rintro e w0 ⟨rfl, hg0⟩
    go_wp2_with fail
    refine (HU _ (h.kept hg0)).mono ?_
    rintro e w1 ⟨rfl, hg, hr⟩
    have hg4 := only_trans (only_weak hg0 (some g)) hg
    go_wp2_with fail
    go_ret2
    exact ⟨w1.heap.size, rfl, Blk.new w1 _ _, hg4.size, only_alloc hg4 _, hr.kept (only_alloc (only_refl _ _) _)⟩
  · have hm1 : 0 ≤ most := by omega
    go_enter Tryd.func62, Tryd.ntmps62
    go_wp2_with fail
    refine HP.mono ?_
    rintro e w0 ⟨rfl, hg0⟩
    go_wp2_with fail
    refine (HU _ (h.kept hg0)).mono ?_
    rintro e w1 ⟨rfl, hg, hr⟩
    have hg4 := only_trans (only_weak hg0 (some g)) hg
    go_wp2_with fail
    go_ret2
    exact ⟨w1.heap.size, rfl, Blk.new w1 _ _, hg4.size, only_alloc hg4 _, hr.kept (only_alloc (only_refl _ _) _)⟩

/-! ### AT A STATE -/
theorem St.moveFault {w0 w w' : World} {rs : List RD} {fs : List FD} {g at_ at' bg fb : Nat} {bs : List UInt8} {c x : Int} (h : St w0 w (⟨g, bs, at_, bg⟩ :: rs) fs) (hg : w.grownBy w' (some g)) (hr : Rdr w' g bs at' bg) (hf : Flt w' fb c x) :
    St w0 w' (⟨g, bs, at', bg⟩ :: rs) (⟨fb, c, x⟩ :: fs) := by
  have h' := h.move hg hr
  exact h'.fault (only_refl _ _) hf

section
variable {w0 w : World} {rs : List RD} {fs : List FD} {g a bg : Nat} {bs : List UInt8}
theorem u_st_ok (s : St w0 w (⟨g, bs, a, bg⟩ :: rs) fs) (k n : Nat) (hk : Taken (bs.drop a) k) (hb : ¬ Bad ((bs.drop a).take k)) (hn : num ((bs.drop a).take k) = n) :
    Calls Tryd.prog 76 #[.pointer (some ⟨g, 0, none⟩)] w fun e w' => e = .returned (.tuple #[.int .u64 (n : Int), .nilIface]) ∧ St w0 w' (⟨g, bs, a + k, bg⟩ :: rs) fs := by
  subst hn
  exact (u_ok s.head k hk hb).mono fun _ _ ⟨h1, h2, h3⟩ => ⟨h1, s.move h2 h3⟩
theorem u_st_bad (s : St w0 w (⟨g, bs, a, bg⟩ :: rs) fs) (k : Nat) (p : Int) (hk : Taken (bs.drop a) k) (hb : Bad ((bs.drop a).take k)) (hp : (bg : Int) + (a : Int) = p) :
    Calls Tryd.prog 76 #[.pointer (some ⟨g, 0, none⟩)] w (FaultBeside .u64 fun fb w' => St w0 w' (⟨g, bs, a + k, bg⟩ :: rs) (⟨fb, 5, p⟩ :: fs)) := by
  subst hp
  exact (u_bad s.head k hk hb).mono fun _ _ ⟨fb, h1, h2, _, h4, h5⟩ => ⟨fb, h1, s.moveFault h4 h5 h2⟩
theorem u_st_ends (s : St w0 w (⟨g, bs, a, bg⟩ :: rs) fs) (p : Int) (hs : Short (bs.drop a)) (hp : (bg : Int) + (bs.length : Int) = p) :
    Calls Tryd.prog 76 #[.pointer (some ⟨g, 0, none⟩)] w (FaultBeside .u64 fun fb w' => St w0 w' (⟨g, bs, bs.length, bg⟩ :: rs) (⟨fb, 3, p⟩ :: fs)) := by
  subst hp
  exact (u_ends s.head hs).mono fun _ _ ⟨fb, h1, h2, _, h4, h5⟩ => ⟨fb, h1, s.moveFault h4 h5 h2⟩
theorem s_st_ok (s : St w0 w (⟨g, bs, a, bg⟩ :: rs) fs) (k : Nat) (z : Int) (hk : Taken (bs.drop a) k) (hb : ¬ Bad ((bs.drop a).take k)) (hn : unfoldZ (num ((bs.drop a).take k)) = z) :
    Calls Tryd.prog 61 #[.pointer (some ⟨g, 0, none⟩)] w fun e w' => e = .returned (.tuple #[.int .i64 z, .nilIface]) ∧ St w0 w' (⟨g, bs, a + k, bg⟩ :: rs) fs := by
  subst hn
  exact (s_ok s.head k hk hb).mono fun _ _ ⟨h1, h2, h3⟩ => ⟨h1, s.move h2 h3⟩
theorem s_st_bad (s : St w0 w (⟨g, bs, a, bg⟩ :: rs) fs) (k : Nat) (p : Int) (hk : Taken (bs.drop a) k) (hb : Bad ((bs.drop a).take k)) (hp : (bg : Int) + (a : Int) = p) :
    Calls Tryd.prog 61 #[.pointer (some ⟨g, 0, none⟩)] w (FaultBeside .i64 fun fb w' => St w0 w' (⟨g, bs, a + k, bg⟩ :: rs) (⟨fb, 5, p⟩ :: fs)) :=
  s_fault (u_st_bad s k p hk hb hp)
theorem s_st_ends (s : St w0 w (⟨g, bs, a, bg⟩ :: rs) fs) (p : Int) (hs : Short (bs.drop a)) (hp : (bg : Int) + (bs.length : Int) = p) :
    Calls Tryd.prog 61 #[.pointer (some ⟨g, 0, none⟩)] w (FaultBeside .i64 fun fb w' => St w0 w' (⟨g, bs, bs.length, bg⟩ :: rs) (⟨fb, 3, p⟩ :: fs)) :=
  s_fault (u_st_ends s p hs hp)
theorem small_st_ok (s : St w0 w (⟨g, bs, a, bg⟩ :: rs) fs) (k n : Nat) (most : Int) (hw : Whole most) (hk : Taken (bs.drop a) k) (hb : ¬ Bad ((bs.drop a).take k)) (hn : num ((bs.drop a).take k) = n) (hm : (n : Int) ≤ most) :
    Calls Tryd.prog 62 #[.pointer (some ⟨g, 0, none⟩), .int .i64 most] w fun e w' => e = .returned (.tuple #[.int .i64 (n : Int), .nilIface]) ∧ St w0 w' (⟨g, bs, a + k, bg⟩ :: rs) fs := by
  subst hn
  exact (small_ok s.head k hk hb most hw hm).mono fun _ _ ⟨h1, h2, h3⟩ => ⟨h1, s.move h2 h3⟩
theorem small_st_long (s : St w0 w (⟨g, bs, a, bg⟩ :: rs) fs) (k n : Nat) (most p : Int) (hw : Whole most) (hk : Taken (bs.drop a) k) (hb : ¬ Bad ((bs.drop a).take k)) (hn : num ((bs.drop a).take k) = n) (hm : most < (n : Int)) (hp : (bg : Int) + (a : Int) = p) :
    Calls Tryd.prog 62 #[.pointer (some ⟨g, 0, none⟩), .int .i64 most] w (FaultBeside .i64 fun fb w' => St w0 w' (⟨g, bs, a + k, bg⟩ :: rs) (⟨fb, 4, p⟩ :: fs)) := by
  subst hn hp
  exact (small_long s.head k hk hb most hw hm).mono fun _ _ ⟨fb, h1, h2, _, h4, h5⟩ => ⟨fb, h1, s.moveFault h4 h5 h2⟩
theorem small_st_bad (s : St w0 w (⟨g, bs, a, bg⟩ :: rs) fs) (k : Nat) (most p : Int) (hk : Taken (bs.drop a) k) (hb : Bad ((bs.drop a).take k)) (hp : (bg : Int) + (a : Int) = p) :
    Calls Tryd.prog 62 #[.pointer (some ⟨g, 0, none⟩), .int .i64 most] w (FaultBeside .i64 fun fb w' => St w0 w' (⟨g, bs, a + k, bg⟩ :: rs) (⟨fb, 5, p⟩ :: fs)) :=
  small_fault (place_step s.head) fun _ hg => u_st_bad (s.none_ hg) k p hk hb hp
theorem small_st_ends (s : St w0 w (⟨g, bs, a, bg⟩ :: rs) fs) (most p : Int) (hs : Short (bs.drop a)) (hp : (bg : Int) + (bs.length : Int) = p) :
    Calls Tryd.prog 62 #[.pointer (some ⟨g, 0, none⟩), .int .i64 most] w (FaultBeside .i64 fun fb w' => St w0 w' (⟨g, bs, bs.length, bg⟩ :: rs) (⟨fb, 3, p⟩ :: fs)) :=
  small_fault (place_step s.head) fun _ hg => u_st_ends (s.none_ hg) p hs hp
theorem s_st_none (s : St w0 w rs fs) :
    Calls Tryd.prog 61 #[.pointer none] w (FaultBeside .i64 fun fb w' => St w0 w' rs (⟨fb, 1, 0⟩ :: fs)) :=
  s_fault ((u_none w).mono fun _ _ ⟨fb, h1, h2, _, h4⟩ => ⟨fb, h1, s.fault h4 h2⟩)
end
end Go.Proofs.YtmbdaenjeeklfaaDoor

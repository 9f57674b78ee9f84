/- Each call of octets, and of told, at a state: what it answers, and the state behind it. -/
import Derived.Test.YtndkjlnajoblaaaDoorWorks
namespace Go.Proofs.YtndkjlnajoblaaaDoor
open Go.RowKit

section
variable {w0 w : World} {rs : List RD} {fs : List FD} {g a bg : Nat} {bs : List UInt8}

theorem take_st_ok (s : St w0 w (⟨g, bs, a, bg⟩ :: rs) fs) (n : Nat) (hn : a + n ≤ bs.length) :
    Calls Tryd.prog 11 #[.pointer (some ⟨g, 0, none⟩), .int .i64 (n : Int)] w fun e w' => e = .returned (.tuple #[.string ⟨((bs.drop a).take n).toArray⟩, .nilIface]) ∧ St w0 w' (⟨g, bs, a + n, bg⟩ :: rs) fs :=
  (take_ok s.head n hn).mono fun _ _ ⟨h1, h2, h3⟩ => ⟨h1, s.move h2 h3⟩
theorem take_st_short (s : St w0 w (⟨g, bs, a, bg⟩ :: rs) fs) (n : Int) (p : Nat) (hn : (bs.length : Int) - (a : Int) < n) (hp : bg + a = p) :
    Calls Tryd.prog 11 #[.pointer (some ⟨g, 0, none⟩), .int .i64 n] w fun e w' => ∃ fb, e = .returned (.tuple #[.string ⟨#[]⟩, .iface 66 (.pointer (some ⟨fb, 0, none⟩))]) ∧ St w0 w' (⟨g, bs, a, bg⟩ :: rs) (⟨fb, 3, (p : Int)⟩ :: fs) :=
  (take_short s.head n hn).mono fun _ _ ⟨fb, h1, h2, _, h4⟩ => ⟨fb, h1, by subst hp; rw [Int.natCast_add]; exact s.fault h4 h2⟩
theorem take_st_neg (s : St w0 w (⟨g, bs, a, bg⟩ :: rs) fs) (n : Int) (p : Nat) (hn : n < 0) (hp : bg + a = p) :
    Calls Tryd.prog 11 #[.pointer (some ⟨g, 0, none⟩), .int .i64 n] w fun e w' => ∃ fb, e = .returned (.tuple #[.string ⟨#[]⟩, .iface 66 (.pointer (some ⟨fb, 0, none⟩))]) ∧ St w0 w' (⟨g, bs, a, bg⟩ :: rs) (⟨fb, 2, (p : Int)⟩ :: fs) :=
  (take_neg s.head n hn).mono fun _ _ ⟨fb, h1, h2, _, h4⟩ => ⟨fb, h1, by subst hp; rw [Int.natCast_add]; exact s.fault h4 h2⟩
theorem part_st_ok (s : St w0 w (⟨g, bs, a, bg⟩ :: rs) fs) (n : Nat) (hn : a + n ≤ bs.length) :
    Calls Tryd.prog 13 #[.pointer (some ⟨g, 0, none⟩), .int .i64 (n : Int)] w fun e w' => ∃ p, e = .returned (.tuple #[.pointer (some ⟨p, 0, none⟩), .nilIface]) ∧ St w0 w' (⟨p, (bs.drop a).take n, 0, bg + a⟩ :: ⟨g, bs, a + n, bg⟩ :: rs) fs :=
  (part_ok s.head n hn).mono fun _ _ ⟨p, h1, h2, h3, h4, h5⟩ => ⟨p, h1, s.part h2 h3 h4 h5⟩
theorem part_st_short (s : St w0 w (⟨g, bs, a, bg⟩ :: rs) fs) (n : Int) (p : Nat) (hn : (bs.length : Int) - (a : Int) < n) (hp : bg + a = p) :
    Calls Tryd.prog 13 #[.pointer (some ⟨g, 0, none⟩), .int .i64 n] w fun e w' => ∃ fb, e = .returned (.tuple #[.pointer none, .iface 66 (.pointer (some ⟨fb, 0, none⟩))]) ∧ St w0 w' (⟨g, bs, a, bg⟩ :: rs) (⟨fb, 3, (p : Int)⟩ :: fs) :=
  (part_short s.head n hn).mono fun _ _ ⟨fb, h1, h2, _, h4⟩ => ⟨fb, h1, by subst hp; rw [Int.natCast_add]; exact s.fault h4 h2⟩
theorem part_st_neg (s : St w0 w (⟨g, bs, a, bg⟩ :: rs) fs) (n : Int) (p : Nat) (hn : n < 0) (hp : bg + a = p) :
    Calls Tryd.prog 13 #[.pointer (some ⟨g, 0, none⟩), .int .i64 n] w fun e w' => ∃ fb, e = .returned (.tuple #[.pointer none, .iface 66 (.pointer (some ⟨fb, 0, none⟩))]) ∧ St w0 w' (⟨g, bs, a, bg⟩ :: rs) (⟨fb, 2, (p : Int)⟩ :: fs) :=
  (part_neg s.head n hn).mono fun _ _ ⟨fb, h1, h2, _, h4⟩ => ⟨fb, h1, by subst hp; rw [Int.natCast_add]; exact s.fault h4 h2⟩
theorem byte_st_ok (s : St w0 w (⟨g, bs, a, bg⟩ :: rs) fs) (u : UInt8) (hu : bs[a]? = some u) :
    Calls Tryd.prog 8 #[.pointer (some ⟨g, 0, none⟩)] w fun e w' => e = .returned (.tuple #[.int .u8 (u.toNat : Int), .nilIface]) ∧ St w0 w' (⟨g, bs, a + 1, bg⟩ :: rs) fs :=
  (byte_ok s.head u hu).mono fun _ _ ⟨h1, h2, h3⟩ => ⟨h1, s.move h2 h3⟩
theorem byte_st_short (s : St w0 w (⟨g, bs, a, bg⟩ :: rs) fs) (p : Nat) (ha : a = bs.length) (hp : bg + a = p) :
    Calls Tryd.prog 8 #[.pointer (some ⟨g, 0, none⟩)] w fun e w' => ∃ fb, e = .returned (.tuple #[.int .u8 0, .iface 66 (.pointer (some ⟨fb, 0, none⟩))]) ∧ St w0 w' (⟨g, bs, a, bg⟩ :: rs) (⟨fb, 3, (p : Int)⟩ :: fs) :=
  (byte_short s.head ha).mono fun _ _ ⟨fb, h1, h2, _, h4⟩ => ⟨fb, h1, by subst hp; rw [Int.natCast_add]; exact s.fault h4 h2⟩
theorem place_st_ (s : St w0 w (⟨g, bs, a, bg⟩ :: rs) fs) (p : Nat) (hp : bg + a = p) :
    Calls Tryd.prog 15 #[.pointer (some ⟨g, 0, none⟩)] w fun e w' => e = .returned (.int .i64 (p : Int)) ∧ St w0 w' (⟨g, bs, a, bg⟩ :: rs) fs :=
  (place_step s.head).mono fun _ _ ⟨h1, h2⟩ => ⟨by subst hp; rw [Int.natCast_add]; exact h1, s.none_ h2⟩
theorem place_st_i (s : St w0 w (⟨g, bs, a, bg⟩ :: rs) fs) (p : Int) (hp : (bg : Int) + (a : Int) = p) :
    Calls Tryd.prog 15 #[.pointer (some ⟨g, 0, none⟩)] w fun e w' => e = .returned (.int .i64 p) ∧ St w0 w' (⟨g, bs, a, bg⟩ :: rs) fs :=
  (place_step s.head).mono fun _ _ ⟨h1, h2⟩ => ⟨by subst hp; exact h1, s.none_ h2⟩
theorem left_st_ (s : St w0 w (⟨g, bs, a, bg⟩ :: rs) fs) (l : Int) (hl : (bs.length : Int) - (a : Int) = l) :
    Calls Tryd.prog 17 #[.pointer (some ⟨g, 0, none⟩)] w fun e w' => e = .returned (.int .i64 l) ∧ St w0 w' (⟨g, bs, a, bg⟩ :: rs) fs :=
  (left_step s.head).mono fun _ _ ⟨h1, h2⟩ => ⟨by subst hl; exact h1, s.none_ h2⟩
theorem end_st_ok (s : St w0 w (⟨g, bs, a, bg⟩ :: rs) fs) (ha : a = bs.length) :
    Calls Tryd.prog 19 #[.pointer (some ⟨g, 0, none⟩)] w fun e w' => e = .returned .nilIface ∧ St w0 w' (⟨g, bs, a, bg⟩ :: rs) fs :=
  (end_ok s.head ha).mono fun _ _ ⟨h1, h2⟩ => ⟨h1, s.none_ h2⟩
theorem end_st_long (s : St w0 w (⟨g, bs, a, bg⟩ :: rs) fs) (p : Nat) (ha : a < bs.length) (hp : bg + a = p) :
    Calls Tryd.prog 19 #[.pointer (some ⟨g, 0, none⟩)] w fun e w' => ∃ fb, e = .returned (.iface 66 (.pointer (some ⟨fb, 0, none⟩))) ∧ St w0 w' (⟨g, bs, a, bg⟩ :: rs) (⟨fb, 4, (p : Int)⟩ :: fs) :=
  (end_long s.head ha).mono fun _ _ ⟨fb, h1, h2, _, h4⟩ => ⟨fb, h1, by subst hp; rw [Int.natCast_add]; exact s.fault h4 h2⟩
theorem told_st_ {fb : Nat} {c x : Int} (s : St w0 w rs (⟨fb, c, x⟩ :: fs)) (hc : (c == 0) = false) :
    Calls Tryd.prog 10 #[.iface 66 (.pointer (some ⟨fb, 0, none⟩)), .agg #[.int .i64 c, .int .i64 x]] w fun e w' => e = .returned (.bool true) ∧ St w0 w' rs fs :=
  (told_hit fb c x w s.err (s.flt ⟨fb, c, x⟩ (List.mem_cons_self)) hc).mono fun _ _ ⟨h1, h2⟩ => ⟨h1, by
    have h := s.none_ h2
    exact ⟨h.err, h.err0, h.step, h.rdr, h.apart, fun f hf => h.flt f (List.mem_cons_of_mem _ hf)⟩⟩
theorem told_st_nil {x : Int} (s : St w0 w rs fs) :
    Calls Tryd.prog 10 #[.nilIface, .agg #[.int .i64 0, .int .i64 x]] w fun e w' => e = .returned (.bool true) ∧ St w0 w' rs fs :=
  (told_nil x w).mono fun _ _ ⟨h1, h2⟩ => ⟨h1, s.none_ h2⟩
theorem works_st (s : St w0 w rs fs) : Calls Tryd.prog 21 #[] w fun e w' => e = .returned (.bool true) ∧ St w0 w' rs fs :=
  (works_any w s.err).mono fun _ _ ⟨h1, h2⟩ => ⟨h1, s.none_ h2⟩
theorem St.dropFaults (s : St w0 w rs fs) : St w0 w rs [] := ⟨s.err, s.err0, s.step, s.rdr, s.apart, by simp⟩
theorem St.one {r : RD} (s : St w0 w (r :: rs) fs) : St w0 w [r] [] :=
  ⟨s.err, s.err0, s.step, fun x hx => s.rdr x (by simp only [List.mem_singleton] at hx; subst hx; exact List.mem_cons_self), by simp, by simp⟩
end
end Go.Proofs.YtndkjlnajoblaaaDoor

/- leb: a number is read from the bytes that were laid for it; works: some numbers, there and back. -/
import Derived.Test.YtcpcmappnkoldaaDoorLebS
namespace Go.Proofs.YtcpcmappnkoldaaDoor
open Go.RowKit

theorem taken_laid {l rest : List UInt8} {n : Nat} (hn : n < 18446744073709551616) (he : l = sev n ++ rest) : Taken l (sev n).length ∧ ¬ Bad (l.take (sev n).length) ∧ num (l.take (sev n).length) = n := by
  subst he
  rw [List.take_left]
  exact ⟨taken_sev hn rest, good_sev hn, num_sev n⟩
section
variable {w0 w : World} {rs : List RD} {fs : List FD} {g a bg : Nat} {bs rest : List UInt8}
theorem u_laid (s : St w0 w (⟨g, bs, a, bg⟩ :: rs) fs) (n b : Nat) (hn : n < 18446744073709551616) (he : bs.drop a = sev n ++ rest) (hb : a + (sev n).length = b) :
    Calls Tryd.prog 10 #[.pointer (some ⟨g, 0, none⟩)] w fun e w' => e = .returned (.tuple #[.int .u64 (n : Int), .nilIface]) ∧ St w0 w' (⟨g, bs, b, bg⟩ :: rs) fs := by
  obtain ⟨h1, h2, h3⟩ := taken_laid hn he
  subst hb
  exact u_st_ok s _ n h1 h2 h3
theorem s_laid (s : St w0 w (⟨g, bs, a, bg⟩ :: rs) fs) (z : Int) (b : Nat) (hz : Whole z) (he : bs.drop a = sev (foldN z) ++ rest) (hb : a + (sev (foldN z)).length = b) :
    Calls Tryd.prog 13 #[.pointer (some ⟨g, 0, none⟩)] w fun e w' => e = .returned (.tuple #[.int .i64 z, .nilIface]) ∧ St w0 w' (⟨g, bs, b, bg⟩ :: rs) fs := by
  obtain ⟨h1, h2, h3⟩ := taken_laid (foldN_lt hz) he
  subst hb
  exact s_st_ok s _ z h1 h2 (by rw [h3]; exact unfold_fold)
theorem small_laid (s : St w0 w (⟨g, bs, a, bg⟩ :: rs) fs) (n b : Nat) (most : Int) (hn : n < 18446744073709551616) (hw : Whole most) (hm : (n : Int) ≤ most) (he : bs.drop a = sev n ++ rest) (hb : a + (sev n).length = b) :
    Calls Tryd.prog 15 #[.pointer (some ⟨g, 0, none⟩), .int .i64 most] w fun e w' => e = .returned (.tuple #[.int .i64 (n : Int), .nilIface]) ∧ St w0 w' (⟨g, bs, b, bg⟩ :: rs) fs := by
  obtain ⟨h1, h2, h3⟩ := taken_laid hn he
  subst hb
  exact small_st_ok s _ n most hw h1 h2 h3 hm
theorem small_above (s : St w0 w (⟨g, bs, a, bg⟩ :: rs) fs) (n b : Nat) (most p : Int) (hn : n < 18446744073709551616) (hw : Whole most) (hm : most < (n : Int)) (he : bs.drop a = sev n ++ rest) (hb : a + (sev n).length = b) (hp : (bg : Int) + (a : Int) = p) :
    Calls Tryd.prog 15 #[.pointer (some ⟨g, 0, none⟩), .int .i64 most] w (FaultBeside .i64 fun fb w' => St w0 w' (⟨g, bs, b, bg⟩ :: rs) (⟨fb, 4, p⟩ :: fs)) := by
  obtain ⟨h1, h2, h3⟩ := taken_laid hn he
  subst hb
  exact small_st_long s _ n most p hw h1 h2 h3 hm hp
theorem put_st (s : St w0 w rs fs) (n : Nat) (t : ByteArray) (hn : n < 18446744073709551616) (ht : sev n = t.data.toList) :
    Calls Tryd.prog 28 #[.int .u64 (n : Int)] w fun e w' => e = .returned (.string t) ∧ St w0 w' rs fs := by
  have := put_any n hn w
  rw [bytes_of_list ht.symm] at this
  exact this.mono fun _ _ ⟨h1, h2⟩ => ⟨h1, s.none_ h2⟩
theorem folded_st (s : St w0 w rs fs) (z : Int) (t : ByteArray) (hz : Whole z) (ht : sev (foldN z) = t.data.toList) :
    Calls Tryd.prog 29 #[.int .i64 z] w fun e w' => e = .returned (.string t) ∧ St w0 w' rs fs := by
  have := folded_any z hz w
  rw [bytes_of_list ht.symm] at this
  exact this.mono fun _ _ ⟨h1, h2⟩ => ⟨h1, s.none_ h2⟩
theorem told_st {fb : Nat} {c x : Int} (s : St w0 w rs (⟨fb, c, x⟩ :: fs)) (hc : (c == 0) = false) :
    Calls Tryd.prog 12 #[.iface 77 (.pointer (some ⟨fb, 0, none⟩)), .agg #[.int .i64 c, .int .i64 x]] w fun e w' => e = .returned (.bool true) ∧ St w0 w' rs fs :=
  (told_hit fb c x w s.err (s.flt ⟨fb, c, x⟩ (List.mem_cons_self)) hc).mono fun _ _ ⟨h1, h2⟩ => ⟨h1, by
    have h := s.none_ h2
    exact ⟨h.err, h.err0, h.step, h.rdr, h.apart, fun f hf => h.flt f (List.mem_cons_of_mem _ hf)⟩⟩
theorem reader_st (s : St w0 w rs fs) (t : ByteArray) (ht : t.size ≤ 4611686018427387904) :
    Calls Tryd.prog 9 #[.string t] w fun e w' => ∃ g, e = .returned (.pointer (some ⟨g, 0, none⟩)) ∧ St w0 w' (⟨g, t.data.toList, 0, 0⟩ :: rs) fs :=
  (newReader_any t w ht).mono fun _ _ ⟨g, h1, h2, h3, h4⟩ => ⟨g, h1, s.new h2 h3 h4⟩
end

theorem foldN_eq (z : Int) (n : Nat) (h : 0 ≤ z ∧ 2 * z.toNat = n ∨ z < 0 ∧ 2 * (-z).toNat - 1 = n) : foldN z = n := by
  unfold foldN
  rcases h with ⟨h, e⟩ | ⟨h, e⟩
  · rw [if_pos h, e]
  · rw [if_neg (by omega), e]
theorem sev_128 : sev 128 = [128, 1] := by rw [sev_ge (by omega), sev_lt (by omega)]; rfl
theorem sev_3 : sev (foldN (-2)) = [3] := by rw [foldN_eq (-2) 3 (by decide), sev_lt (by omega)]; rfl
theorem sev_4 : sev (foldN 2) = [4] := by rw [foldN_eq 2 4 (by decide), sev_lt (by omega)]; rfl
theorem sev_5 : sev 5 = [5] := by rw [sev_lt (by omega)]; rfl

set_option maxRecDepth 100000 in
set_option maxHeartbeats 4000000 in
theorem works_any (w : World) (hE : ErrType w) :
    Calls Tryd.prog 19 #[] w fun e w' => e = .returned (.bool true) ∧ w.grownBy w' none := by
  have s0 := St.start hE
  go_enter Tryd.func19, Tryd.ntmps19
  go_wp2_with fail
  refine (reader_st s0 ⟨#[128, 1, 3, 5, 5]⟩ (by decide)).mono ?_
  rintro e w1 ⟨g, rfl, s1⟩
  clear s0
  go_wp2_with fail
  refine (put_st s1 128 ⟨#[128, 1]⟩ (by decide) sev_128).mono ?_
  rintro e w2 ⟨rfl, s2⟩
  clear s1
  go_wp2_with fail
  refine (folded_st s2 (-2) ⟨#[3]⟩ ⟨by decide, by decide⟩ sev_3).mono ?_
  rintro e w3 ⟨rfl, s3⟩
  clear s2
  go_wp2_with fail
  refine (folded_st s3 2 ⟨#[4]⟩ ⟨by decide, by decide⟩ sev_4).mono ?_
  rintro e w4 ⟨rfl, s4⟩
  clear s3
  go_wp2_with fail
  refine (u_laid s4 128 2 (rest := [3, 5, 5]) (by decide) (by rw [sev_128]; rfl) (by rw [sev_128]; rfl)).mono ?_
  rintro e w5 ⟨rfl, s5⟩
  clear s4
  go_wp2_with fail
  refine (s_laid s5 (-2) 3 (rest := [5, 5]) ⟨by decide, by decide⟩ (by rw [sev_3]; rfl) (by rw [sev_3]; rfl)).mono ?_
  rintro e w6 ⟨rfl, s6⟩
  clear s5
  go_wp2_with fail
  refine (small_laid s6 5 4 5 (rest := [5]) (by decide) ⟨by decide, by decide⟩ (by decide) (by rw [sev_5]; rfl) (by rw [sev_5]; rfl)).mono ?_
  rintro e w7 ⟨rfl, s7⟩
  clear s6
  go_wp2_with fail
  refine (small_above s7 5 5 4 4 (rest := []) (by decide) ⟨by decide, by decide⟩ (by decide) (by rw [sev_5]; rfl) (by rw [sev_5]; rfl) rfl).mono ?_
  rintro e w8 ⟨fb, rfl, s8⟩
  clear s7
  go_wp2_with fail
  refine (told_st s8 rfl).mono ?_
  rintro e w9 ⟨rfl, s9⟩
  clear s8
  go_wp2_with fail
  go_ret
  exact ⟨rfl, s9.step⟩
end Go.Proofs.YtcpcmappnkoldaaDoor

/- leb: a number is read from the bytes that were laid for it; works: some numbers, there and back. -/
import Derived.Test.YtmbdaenjeeklfaaDoorLebS
namespace Go.Proofs.YtmbdaenjeeklfaaDoor
open Go.RowKit

theorem taken_laid {l rest : List UInt8} {n : Nat} (hn : n < 18446744073709551616) (he : l = sev n ++ rest) : Taken l (sev n).length ∧ ¬ Bad (l.take (sev n).length) ∧ num (l.take (sev n).length) = n := by
  subst he
  rw [List.take_left]
  exact ⟨taken_sev hn rest, good_sev hn, num_sev n⟩
section
variable {w0 w : World} {rs : List RD} {fs : List FD} {g a bg : Nat} {bs rest : List UInt8}
theorem u_laid (s : St w0 w (⟨g, bs, a, bg⟩ :: rs) fs) (n b : Nat) (hn : n < 18446744073709551616) (he : bs.drop a = sev n ++ rest) (hb : a + (sev n).length = b) :
    Calls Tryd.prog 76 #[.pointer (some ⟨g, 0, none⟩)] w fun e w' => e = .returned (.tuple #[.int .u64 (n : Int), .nilIface]) ∧ St w0 w' (⟨g, bs, b, bg⟩ :: rs) fs := by
  obtain ⟨h1, h2, h3⟩ := taken_laid hn he
  subst hb
  exact u_st_ok s _ n h1 h2 h3
theorem s_laid (s : St w0 w (⟨g, bs, a, bg⟩ :: rs) fs) (z : Int) (b : Nat) (hz : Whole z) (he : bs.drop a = sev (foldN z) ++ rest) (hb : a + (sev (foldN z)).length = b) :
    Calls Tryd.prog 61 #[.pointer (some ⟨g, 0, none⟩)] w fun e w' => e = .returned (.tuple #[.int .i64 z, .nilIface]) ∧ St w0 w' (⟨g, bs, b, bg⟩ :: rs) fs := by
  obtain ⟨h1, h2, h3⟩ := taken_laid (foldN_lt hz) he
  subst hb
  exact s_st_ok s _ z h1 h2 (by rw [h3]; exact unfold_fold)
theorem small_laid (s : St w0 w (⟨g, bs, a, bg⟩ :: rs) fs) (n b : Nat) (most : Int) (hn : n < 18446744073709551616) (hw : Whole most) (hm : (n : Int) ≤ most) (he : bs.drop a = sev n ++ rest) (hb : a + (sev n).length = b) :
    Calls Tryd.prog 62 #[.pointer (some ⟨g, 0, none⟩), .int .i64 most] w fun e w' => e = .returned (.tuple #[.int .i64 (n : Int), .nilIface]) ∧ St w0 w' (⟨g, bs, b, bg⟩ :: rs) fs := by
  obtain ⟨h1, h2, h3⟩ := taken_laid hn he
  subst hb
  exact small_st_ok s _ n most hw h1 h2 h3 hm
theorem small_above (s : St w0 w (⟨g, bs, a, bg⟩ :: rs) fs) (n b : Nat) (most p : Int) (hn : n < 18446744073709551616) (hw : Whole most) (hm : most < (n : Int)) (he : bs.drop a = sev n ++ rest) (hb : a + (sev n).length = b) (hp : (bg : Int) + (a : Int) = p) :
    Calls Tryd.prog 62 #[.pointer (some ⟨g, 0, none⟩), .int .i64 most] w (FaultBeside .i64 fun fb w' => St w0 w' (⟨g, bs, b, bg⟩ :: rs) (⟨fb, 4, p⟩ :: fs)) := by
  obtain ⟨h1, h2, h3⟩ := taken_laid hn he
  subst hb
  exact small_st_long s _ n most p hw h1 h2 h3 hm hp
theorem told_st {fb : Nat} {c x : Int} (s : St w0 w rs (⟨fb, c, x⟩ :: fs)) (hc : (c == 0) = false) :
    Calls Tryd.prog 24 #[.iface 91 (.pointer (some ⟨fb, 0, none⟩)), .agg #[.int .i64 c, .int .i64 x]] w fun e w' => e = .returned (.bool true) ∧ St w0 w' rs fs :=
  (told_hit fb c x w s.err (s.flt ⟨fb, c, x⟩ (List.mem_cons_self)) hc).mono fun _ _ ⟨h1, h2⟩ => ⟨h1, by
    have h := s.none_ h2
    exact ⟨h.err, h.err0, h.step, h.rdr, h.apart, fun f hf => h.flt f (List.mem_cons_of_mem _ hf)⟩⟩
theorem reader_st (s : St w0 w rs fs) (t : ByteArray) (ht : t.size ≤ 4611686018427387904) :
    Calls Tryd.prog 20 #[.string t] w fun e w' => ∃ g, e = .returned (.pointer (some ⟨g, 0, none⟩)) ∧ St w0 w' (⟨g, t.data.toList, 0, 0⟩ :: rs) fs :=
  (newReader_any t w ht).mono fun _ _ ⟨g, h1, h2, h3, h4⟩ => ⟨g, h1, s.new h2 h3 h4⟩
end

theorem foldN_eq (z : Int) (n : Nat) (h : 0 ≤ z ∧ 2 * z.toNat = n ∨ z < 0 ∧ 2 * (-z).toNat - 1 = n) : foldN z = n := by
  unfold foldN
  rcases h with ⟨h, e⟩ | ⟨h, e⟩
  · rw [if_pos h, e]
  · rw [if_neg (by omega), e]
theorem sev_128 : sev 128 = [128, 1] := by rw [sev_ge (by omega), sev_lt (by omega)]; rfl
theorem sev_3 : sev (foldN (-2)) = [3] := by rw [foldN_eq (-2) 3 (by decide), sev_lt (by omega)]; rfl
theorem sev_4 : sev (foldN 2) = [4] := by rw [foldN_eq 2 4 (by decide), sev_lt (by omega)]; rfl
theorem sev_5 : sev 5 = [5] := by rw [sev_lt (by omega)]; rfl

end Go.Proofs.YtmbdaenjeeklfaaDoor

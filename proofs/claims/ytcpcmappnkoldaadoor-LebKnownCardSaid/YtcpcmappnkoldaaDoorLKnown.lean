/- LebKnown: the chapter's examples, ends, what is wrong, a reader that is none: the call returns true, and turns nothing that was there. -/
import Derived.Test.YtcpcmappnkoldaaDoorFolds
import Derived.Deep.DeepCutAuto
import Derived.Deep.CutBlock
namespace Go.Proofs.YtcpcmappnkoldaaDoor
open Go.RowKit

theorem sev_max : sev 18446744073709551615 = [255, 255, 255, 255, 255, 255, 255, 255, 255, 1] := by
  repeat rw [sev_ge (by decide)]
  rw [sev_lt (by decide)]
  rfl
theorem sev_next : sev 18446744073709551614 = [254, 255, 255, 255, 255, 255, 255, 255, 255, 1] := by
  repeat rw [sev_ge (by decide)]
  rw [sev_lt (by decide)]
  rfl
theorem sev_0 : sev 0 = [0] := by rw [sev_lt (by decide)]; rfl
theorem sev_1 : sev 1 = [1] := by rw [sev_lt (by decide)]; rfl
theorem sev_127 : sev 127 = [127] := by rw [sev_lt (by decide)]; rfl
theorem sev_16384 : sev 16384 = [128, 128, 1] := by
  repeat rw [sev_ge (by decide)]
  rw [sev_lt (by decide)]
  rfl

/-- Of these bytes no number is read: the fault's number and place. -/
def Faulty (l : List UInt8) (c a : Int) : Prop := (Short l ∧ c = 3 ∧ (l.length : Int) = a) ∨ (∃ k, Taken l k ∧ Bad (l.take k) ∧ c = 5 ∧ a = 0)
theorem u_faulty {w0 w : World} {rs : List RD} {fs : List FD} {g : Nat} {bs : List UInt8} {c x : Int} (s : St w0 w (⟨g, bs, 0, 0⟩ :: rs) fs) (h : Faulty bs c x) :
    Calls Tryd.prog 10 #[.pointer (some ⟨g, 0, none⟩)] w (FaultBeside .u64 fun fb w' => ∃ b, St w0 w' (⟨g, bs, b, 0⟩ :: rs) (⟨fb, c, x⟩ :: fs)) := by
  rcases h with ⟨h1, rfl, h3⟩ | ⟨k, h1, h2, rfl, rfl⟩
  · exact (u_st_ends s x (by rw [List.drop_zero]; exact h1) (by omega)).mono fun _ _ ⟨fb, e1, e2⟩ => ⟨fb, e1, _, e2⟩
  · exact (u_st_bad s k 0 (by rw [List.drop_zero]; exact h1) (by rw [List.drop_zero]; exact h2) rfl).mono fun _ _ ⟨fb, e1, e2⟩ => ⟨fb, e1, _, e2⟩
/-- A check by reckoning. -/
def shortB (l : List UInt8) : Bool := decide (l.length < 10) && l.all (fun u => decide (128 ≤ u.toNat))
def badB (l : List UInt8) (k : Nat) : Bool := decide (1 ≤ k) && decide (k ≤ 10) && decide (k ≤ l.length) && (l.take (k - 1)).all (fun u => decide (128 ≤ u.toNat)) &&
  (match l[k - 1]? with | some u => (decide (u.toNat < 128) || decide (k = 10)) && (decide (128 ≤ u.toNat) || (decide (k = 10) && decide (1 < u.toNat)) || (decide (1 < k) && decide (u.toNat = 0))) | none => false)
theorem short_of {l : List UInt8} (h : shortB l = true) : Short l := by
  simp only [shortB, Bool.and_eq_true, decide_eq_true_eq, List.all_eq_true] at h
  exact ⟨h.1, fun j u hj => h.2 u (List.mem_of_getElem? hj)⟩
theorem bad_of {l : List UInt8} {k : Nat} (h : badB l k = true) : Taken l k ∧ Bad (l.take k) := by
  unfold badB at h
  simp only [Bool.and_eq_true, decide_eq_true_eq, List.all_eq_true] at h
  obtain ⟨⟨⟨⟨h1, h2⟩, h3⟩, h4⟩, h5⟩ := h
  cases hu : l[k - 1]? with
  | none => rw [hu] at h5; simp at h5
  | some u =>
    rw [hu] at h5
    simp only [Bool.and_eq_true, Bool.or_eq_true, decide_eq_true_eq] at h5
    have hl : (l.take k).length = k := by rw [List.length_take]; omega
    refine ⟨⟨h1, h2, h3, fun j v hj hv => h4 v ?_, fun v hv => ?_⟩, u, ?_, ?_⟩
    · have : (l.take (k - 1))[j]? = some v := by rw [List.getElem?_take_of_lt (by omega)]; exact hv
      exact List.mem_of_getElem? this
    · rw [hu] at hv; injection hv with hv; subst hv; exact h5.1
    · rw [hl, List.getElem?_take_of_lt (by omega)]; exact hu
    · rw [hl]
      rcases h5.2 with (h | h) | h
      · exact .inl h
      · exact .inr (.inl h)
      · exact .inr (.inr h)
theorem faulty_short {l : List UInt8} (a : Int) (h : shortB l = true) (ha : (l.length : Int) = a) : Faulty l 3 a := .inl ⟨short_of h, rfl, ha⟩
theorem faulty_bad {l : List UInt8} (k : Nat) (h : badB l k = true) : Faulty l 5 0 := .inr ⟨k, (bad_of h).1, (bad_of h).2, rfl, rfl⟩

/-- What is wrong, row by row: the bytes, the fault's number, its place. -/
def wrongs : Array Value := #[.string ⟨#[]⟩, .int .i64 3, .int .i64 0, .string ⟨#[129]⟩, .int .i64 3, .int .i64 1, .string ⟨#[128, 0]⟩, .int .i64 5, .int .i64 0, .string (⟨#[255, 255, 255, 255, 255, 255, 255, 255, 255]⟩ ++ ⟨#[2]⟩), .int .i64 5, .int .i64 0, .string (⟨#[255, 255, 255, 255, 255, 255, 255, 255, 255]⟩ ++ ⟨#[255]⟩), .int .i64 5, .int .i64 0, .string (⟨#[255, 255, 255, 255, 255, 255, 255, 255, 255]⟩ ++ ⟨#[129, 0]⟩), .int .i64 5, .int .i64 0, .string ⟨#[255, 255, 255, 255, 255, 255, 255, 255, 255]⟩, .int .i64 3, .int .i64 9, .string ⟨#[255, 128, 128, 0]⟩, .int .i64 5, .int .i64 0]
theorem wrongs_at {k : Nat} (hk : k < 8) : ∃ (s : ByteArray) (c x : Int), wrongs[k * 3]? = some (.string s) ∧ wrongs[k * 3 + 1]? = some (.int .i64 c) ∧ wrongs[k * 3 + 2]? = some (.int .i64 x) ∧ Faulty s.data.toList c x ∧ (c == 0) = false ∧ s.size ≤ 100 := by
  rcases (by omega : k = 0 ∨ k = 1 ∨ k = 2 ∨ k = 3 ∨ k = 4 ∨ k = 5 ∨ k = 6 ∨ k = 7) with rfl | rfl | rfl | rfl | rfl | rfl | rfl | rfl
  · exact ⟨_, _, _, rfl, rfl, rfl, faulty_short 0 (by kernel_rfl) rfl, rfl, by decide⟩
  · exact ⟨_, _, _, rfl, rfl, rfl, faulty_short 1 (by kernel_rfl) rfl, rfl, by decide⟩
  · exact ⟨_, _, _, rfl, rfl, rfl, faulty_bad 2 (by kernel_rfl), rfl, by decide⟩
  · exact ⟨_, _, _, rfl, rfl, rfl, faulty_bad 10 (by kernel_rfl), rfl, by decide⟩
  · exact ⟨_, _, _, rfl, rfl, rfl, faulty_bad 10 (by kernel_rfl), rfl, by decide⟩
  · exact ⟨_, _, _, rfl, rfl, rfl, faulty_bad 10 (by kernel_rfl), rfl, by decide⟩
  · exact ⟨_, _, _, rfl, rfl, rfl, faulty_short 9 (by kernel_rfl) rfl, rfl, by decide⟩
  · exact ⟨_, _, _, rfl, rfl, rfl, faulty_bad 4 (by kernel_rfl), rfl, by decide⟩
theorem told_mem {w0 w : World} {rs : List RD} {fs : List FD} {fb : Nat} {c x : Int} (s : St w0 w rs fs) (hm : (⟨fb, c, x⟩ : FD) ∈ fs) (hc : (c == 0) = false) :
    Calls Tryd.prog 12 #[.iface 77 (.pointer (some ⟨fb, 0, none⟩)), .agg #[.int .i64 c, .int .i64 x]] w fun e w' => e = .returned (.bool true) ∧ St w0 w' rs fs :=
  (told_hit fb c x w s.err (s.flt ⟨fb, c, x⟩ hm) hc).mono fun _ _ ⟨h1, h2⟩ => ⟨h1, s.none_ h2⟩

set_option maxRecDepth 100000 in
set_option maxHeartbeats 8000000 in
theorem lknown_any (w : World) (hE : ErrType w) :
    Calls Tryd.prog 8 #[] w fun e w' => e = .returned (.bool true) ∧ w.grownBy w' none := by
  have s0 := St.start hE
  go_enter Tryd.func8, Tryd.ntmps8
  go_wp2_with fail
  refine (put_st s0 0 ⟨#[0]⟩ (by decide) sev_0).mono ?_
  rintro e w1 ⟨rfl, s1⟩
  clear s0
  go_wp2_with fail
  refine (put_st s1 127 ⟨#[127]⟩ (by decide) sev_127).mono ?_
  rintro e w2 ⟨rfl, s2⟩
  clear s1
  go_wp2_with fail
  refine (put_st s2 16384 ⟨#[128, 128, 1]⟩ (by decide) sev_16384).mono ?_
  rintro e w3 ⟨rfl, s3⟩
  clear s2
  go_wp2_with fail
  refine (put_st s3 18446744073709551615 (⟨#[255, 255, 255, 255, 255, 255, 255, 255, 255]⟩ ++ ⟨#[1]⟩) (by decide) (by rw [sev_max]; rfl)).mono ?_
  rintro e w4 ⟨rfl, s4⟩
  clear s3
  go_wp2_with fail
  refine (folded_st s4 0 ⟨#[0]⟩ ⟨by decide, by decide⟩ (by rw [foldN_eq 0 0 (by decide), sev_0])).mono ?_
  rintro e w5 ⟨rfl, s5⟩
  clear s4
  go_wp2_with fail
  refine (folded_st s5 (-1) ⟨#[1]⟩ ⟨by decide, by decide⟩ (by rw [foldN_eq (-1) 1 (by decide), sev_1])).mono ?_
  rintro e w6 ⟨rfl, s6⟩
  clear s5
  go_wp2_with fail
  refine (folded_st s6 9223372036854775807 ⟨#[254, 255, 255, 255, 255, 255, 255, 255, 255, 1]⟩ ⟨by decide, by decide⟩ (by rw [foldN_eq 9223372036854775807 18446744073709551614 (by decide), sev_next])).mono ?_
  rintro e w7 ⟨rfl, s7⟩
  clear s6
  go_wp2_with fail
  refine (folded_st s7 (-9223372036854775808) (⟨#[255, 255, 255, 255, 255, 255, 255, 255, 255]⟩ ++ ⟨#[1]⟩) ⟨by decide, by decide⟩ (by rw [foldN_eq (-9223372036854775808) 18446744073709551615 (by decide), sev_max]; rfl)).mono ?_
  rintro e w8 ⟨rfl, s8⟩
  clear s7
  go_upto_block 0 with fail
  have hg9 : w8.grownBy (w8.alloc (.cells wrongs 68)) none := only_alloc (only_refl _ _) _
  have B0 := Blk.new w8 68 wrongs
  have S0 := St.start (s8.none_ hg9).err
  have hend := Lib.hid (fun w' (h : (w8.alloc (.cells wrongs 68)).grownBy w' none) => only_trans (only_trans s8.step hg9) h)
  clear s8 hg9
  unfold wrongs at B0 S0 hend
  generalize w8.alloc _ = W at *
  generalize w8.heap.size = q at *
  go_wp2_with fail
  go_loopw [76] (fun vi wr => ∃ k : Nat, vi = .int .i64 (k : Int) ∧ k ≤ 8 ∧ St W wr [] []) (fun vi _ => 8 - (intOf vi).toNat)
  case atStart => exact ⟨0, rfl, by omega, S0⟩
  case round =>
    obtain ⟨k, rfl, hk, S1⟩ := hrel
    have B1 : Blk wr q 68 wrongs := B0.kept S1.step
    clear S0 B0
    by_cases hk8 : k < 8
    · obtain ⟨s, c, x, h0, h1, h2, hF, hc, hs⟩ := wrongs_at hk8
      have c0 : wr.cell? ⟨q, k * 3, none⟩ = some (.string s) := (B1.cell _).trans h0
      have c1 : wr.cell? ⟨q, k * 3 + 1, none⟩ = some (.int .i64 c) := (B1.cell _).trans h1
      have c2 : wr.cell? ⟨q, k * 3 + 2, none⟩ = some (.int .i64 x) := (B1.cell _).trans h2
      have hk8' : (k : Int) < 8 := by omega
      clear B1 h0 h1 h2
      have hA : wr.grownBy (wr.alloc (.cells #[.string s, .int .i64 c, .int .i64 x] 68)) none := only_alloc (only_refl _ _) _
      have T0 := St.start (S1.none_ hA).err
      have X0 := Blk.new wr 68 #[.string s, .int .i64 c, .int .i64 x]
      have hlast := Lib.hid (fun w' (h : (wr.alloc (.cells #[.string s, .int .i64 c, .int .i64 x] 68)).grownBy w' none) => S1.none_ (only_trans hA h))
      clear S1 hA
      go_upto_region 7 with fail
      generalize wr.alloc (.cells #[.string s, .int .i64 c, .int .i64 x] 68) = V at *
      have y0 : V.cell? ⟨wr.heap.size, 0, none⟩ = some (.string s) := X0.cell 0
      go_wp2_with fail
      refine (reader_st T0 s (by omega)).mono ?_
      rintro e w2 ⟨g, rfl, T1⟩
      clear T0 y0
      go_wp2_with fail
      refine (u_faulty T1 hF).mono ?_
      rintro e w3 ⟨fb, rfl, b, T2⟩
      have X2 := X0.kept T2.step
      have y1 : w3.cell? ⟨wr.heap.size, 1, none⟩ = some (.int .i64 c) := X2.cell 1
      have y2 : w3.cell? ⟨wr.heap.size, 2, none⟩ = some (.int .i64 x) := X2.cell 2
      have hc' := Lib.hid hc
      clear T1 X0 X2 hc
      go_wp2_with fail
      refine (told_st T2 hc'.out).mono ?_
      rintro e w4 ⟨rfl, T3⟩
      clear T2 y1 y2
      go_wp2_with fail
      go_roundw
      case rel => exact ⟨k + 1, by go_num, by omega, hlast.out _ T3.step⟩
      case measure => simp [intOf]; omega
    · have hk3 : (8 : Int) ≤ (k : Int) := by omega
      clear B1
      go_wp2_with fail
      refine (reader_st S1 ⟨#[0, 128, 0, 7]⟩ (by decide)).mono ?_
      rintro e v1 ⟨g1, rfl, S2⟩
      clear S1
      go_wp2_with fail
      refine (u_laid S2 0 1 (rest := [128, 0, 7]) (by decide) (by rw [sev_0]; rfl) (by rw [sev_0]; rfl)).mono ?_
      rintro e v2 ⟨rfl, S3⟩
      clear S2
      go_wp2_with fail
      refine (u_st_bad S3 2 1 (bad_of (by kernel_rfl)).1 (bad_of (by kernel_rfl)).2 rfl).mono ?_
      rintro e v3 ⟨f1, rfl, S4⟩
      clear S3
      go_wp2_with fail
      refine (small_laid S4 7 4 7 (rest := []) (by decide) ⟨by decide, by decide⟩ (by decide) (by rw [sev_lt (by decide)]; rfl) (by rw [sev_lt (by decide)]; rfl)).mono ?_
      rintro e v4 ⟨rfl, S5⟩
      clear S4
      go_wp2_with fail
      refine (reader_st S5 ⟨#[0]⟩ (by decide)).mono ?_
      rintro e v5 ⟨g2, rfl, S6⟩
      clear S5
      go_wp2_with fail
      refine (small_above S6 0 1 (-1) 0 (rest := []) (by decide) ⟨by decide, by decide⟩ (by decide) (by rw [sev_0]; rfl) (by rw [sev_0]; rfl) rfl).mono ?_
      rintro e v6 ⟨f2, rfl, S7⟩
      clear S6
      go_wp2_with fail
      refine (reader_st S7 ⟨#[128]⟩ (by decide)).mono ?_
      rintro e v7 ⟨g3, rfl, S8⟩
      clear S7
      go_wp2_with fail
      refine (small_st_ends S8 (-1) 1 (short_of (by kernel_rfl)) rfl).mono ?_
      rintro e v8 ⟨f3, rfl, S9⟩
      clear S8
      go_wp2_with fail
      refine (s_st_none S9).mono ?_
      rintro e v9 ⟨f4, rfl, S10⟩
      clear S9
      go_wp2_with fail
      refine (putU_none _ 5 (by decide)).mono ?_
      rintro e v10 ⟨rfl, hg10⟩
      have S11 := S10.none_ hg10
      clear S10 hg10
      go_wp2_with fail
      refine (putS_none _ 5 ⟨by decide, by decide⟩).mono ?_
      rintro e v11 ⟨rfl, hg11⟩
      have S12 := S11.none_ hg11
      clear S11 hg11
      go_wp2_with fail
      refine (told_mem S12 (fb := f1) (c := 5) (x := 1) (by simp) rfl).mono ?_
      rintro e v12 ⟨rfl, S13⟩
      clear S12
      go_wp2_with fail
      refine (told_mem S13 (fb := f2) (c := 4) (x := 0) (by simp) rfl).mono ?_
      rintro e v13 ⟨rfl, S14⟩
      clear S13
      go_wp2_with fail
      refine (told_mem S14 (fb := f3) (c := 3) (x := 1) (by simp) rfl).mono ?_
      rintro e v14 ⟨rfl, S15⟩
      clear S14
      go_wp2_with fail
      refine (told_mem S15 (fb := f4) (c := 1) (x := 0) (by simp) rfl).mono ?_
      rintro e v15 ⟨rfl, S16⟩
      clear S15
      go_wp2_with fail
      refine (works_any _ S16.err).mono ?_
      rintro e v16 ⟨rfl, hg16⟩
      have S17 := S16.none_ hg16
      clear S16 hg16
      go_wp2_with fail
      go_ret
      exact ⟨rfl, hend.out _ S17.step⟩
end Go.Proofs.YtcpcmappnkoldaaDoor

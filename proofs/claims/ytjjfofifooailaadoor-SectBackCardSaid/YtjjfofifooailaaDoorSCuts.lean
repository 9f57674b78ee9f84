/- colloquylaw03.SectCuts' walk. -/
import Derived.Test.YtjjfofifooailaaDoorSecK
import Derived.Test.YtjjfofifooailaaDoorSecX
import Derived.LoopTactic
import Derived.Deep.LoopGhost
import Derived.Deep.DeepCutAuto
import Derived.Deep.CutBlock
import Derived.Laws.Closers25b
namespace Go.Proofs.YtjjfofifooailaaDoor
open Go.RowKit

theorem empty_list {t : ByteArray} : t.toList.isEmpty = true ↔ t.size = 0 := by
  rw [List.isEmpty_iff, toList_nil_iff_emptyBytes]
  constructor
  · rintro rfl
    rfl
  · intro h
    exact ByteArray.ext (Array.eq_empty_of_size_eq_zero h)
theorem not_empty {t : ByteArray} (h : 0 < t.size) : t.toList.isEmpty = false := by
  rw [Bool.eq_false_iff]
  intro e
  have := empty_list.1 e
  omega
theorem take_bytes (t : ByteArray) (n : Nat) : (t.extract 0 n).data.toList = t.data.toList.take n := by
  rw [ByteArray.data_extract, Array.toList_extract, List.extract_eq_take_drop, List.drop_zero, Nat.sub_zero]
theorem append_bytes (t s : ByteArray) : (t ++ s).data.toList = t.data.toList ++ s.data.toList := by
  rw [ByteArray.data_append, Array.toList_append]

set_option maxRecDepth 100000 in
set_option maxHeartbeats 4000000 in
theorem scuts_any (s1 s2 s3 : ByteArray) (a : Int) (ha0 : 0 ≤ a) (ha : a < 65536) (s : ByteArray) (w : World) (hE : ErrType w) :
    Calls Tryd.prog 6 #[.agg #[.string s1, .string s2, .string s3], .int .u16 a, .string s] w fun e w' => e = .returned (.bool true) ∧ w.grownBy w' none := by
  have s0 := (St.start hE).none_ (only_alloc (only_refl w none) (.cells #[.string s1, .string s2, .string s3] 22))
  have B0 := Blk.new w 22 #[.string s1, .string s2, .string s3]
  go_enter Tryd.func6, Tryd.ntmps6
  go_wp2_with fail
  refine (sworks_any _ s0.err).mono ?_
  rintro e w1 ⟨rfl, g1⟩
  have s1' := s0.none_ g1
  have B1 := B0.kept g1
  have c0 := B1.cell 0
  have c1 := B1.cell 1
  have c2 := B1.cell 2
  clear s0 B0 B1 g1
  go_wp2_with fail
  refine (texts_any s1 s2 s3 0 (by omega) (by omega) _).mono ?_
  rintro e w2 ⟨u1, u2, u3, rfl, h1, h2, h3, g2⟩
  have h1' : u1.size ≤ 300 := by omega
  have s2' := s1'.none_ g2
  clear s1' g2 c0 c1 c2 h1
  go_wp2_with fail
  refine (join_ok u1 u2 u3 (by omega) (by omega) (by omega) _).mono ?_
  obtain ⟨J, hJ⟩ : ∃ J : ByteArray, J = ⟨(joined u1.data.toList u2.data.toList u3.data.toList).toArray⟩ := ⟨_, rfl⟩
  rw [← hJ]
  have hJl : J.data.toList = joined u1.data.toList u2.data.toList u3.data.toList := by rw [hJ]
  have hJs : 5 ≤ J.size ∧ J.size ≤ 1000 := by
    rw [← bytes_len, hJl]
    have l1 := sev_short (n := u1.data.toList.length) (by rw [bytes_len]; omega)
    have l2 := sev_short (n := u2.data.toList.length) (by rw [bytes_len]; omega)
    have l3 := sev_short (n := u3.data.toList.length) (by rw [bytes_len]; omega)
    have e1 := bytes_len u1
    have e2 := bytes_len u2
    have e3 := bytes_len u3
    simp only [joined, List.length_append, sec_len]
    have : hd5.length = 5 := rfl
    omega
  clear hJ
  obtain ⟨hJ5, hJ1⟩ := hJs
  have hJ0 : (0 : Int) < (J.size : Int) := by omega
  have hJ2 : (J.size : Int) ≤ 1000 := by omega
  have hje := not_empty (t := J) (by omega)
  have hr0 : 0 ≤ a % (J.size : Int) := Int.emod_nonneg _ (by omega)
  have hr1 : a % (J.size : Int) < (J.size : Int) := Int.emod_lt_of_pos _ (by omega)
  have hr2 : a % (J.size : Int) ≤ (J.size : Int) := by omega
  obtain ⟨c, hc⟩ : ∃ c : Nat, (a % (J.size : Int)).toNat = c := ⟨_, rfl⟩
  have hcl : c < J.size := by omega
  have L1 : u1.data.toList.length ≤ 65536 := by rw [bytes_len]; omega
  have L2 : u2.data.toList.length ≤ 65536 := by rw [bytes_len]; omega
  have L3 : u3.data.toList.length ≤ 65536 := by rw [bytes_len]; omega
  obtain ⟨x, y, hcut⟩ : ∃ x y, SplitFault (J.extract 0 c).data.toList x y := by
    obtain ⟨x, y, h⟩ := no_beginning u1.data.toList u2.data.toList u3.data.toList L1 L2 L3 c (by rw [← hJl, bytes_len]; exact hcl)
    exact ⟨x, y, by rw [take_bytes, hJl]; exact h⟩
  have HC := fun W hE => split_wrong (J.extract 0 c) (by rw [ByteArray.size_extract]; omega) hcut W hE
  have HK := fun W hE => split_joined u1 u2 u3 J (by omega) (by omega) (by omega) hJl W hE
  have HM := fun (s' : ByteArray) (h1 : 0 < s'.size) (h2 : s'.size ≤ 50) W hE => split_wrong (J ++ s') (by rw [ByteArray.size_append]; omega) (c := 4) (y := (J.size : Int)) (by
    have := joined_long u1.data.toList u2.data.toList u3.data.toList s'.data.toList L1 L2 L3 (by
      intro e
      rw [← List.length_eq_zero_iff, bytes_len] at e
      omega)
    rw [← hJl] at this
    rw [append_bytes]
    rw [bytes_len] at this
    exact this) W hE
  clear hcut L1 L2 L3 hJl
  rintro e w3 ⟨rfl, g3⟩
  have s3' := s2'.none_ g3
  clear s2' g3
  go_upto_region 6 with fail
  go_cut [2] (fun v wx => ∃ s' : ByteArray, v = .string s' ∧ s'.size ≤ 50 ∧ w3 = wx)
  case first =>
    go_wp2_with fail
    all_goals go_meet
    · exact ⟨_, rfl, by rw [ByteArray.size_extract]; omega, rfl⟩
    · exact ⟨_, rfl, by omega, rfl⟩
  case rest =>
    obtain ⟨s', rfl, hs', rfl⟩ := hcut
    have hsum : ¬ (J.size + s'.size > 9223372036854775807) := by omega
    rcases Nat.eq_zero_or_pos s'.size with h0 | h0
    · have he : s'.toList.isEmpty = true := empty_list.2 h0
      have hcat : J ++ s' = J := by
        apply ByteArray.ext
        rw [ByteArray.data_append, Array.eq_empty_of_size_eq_zero (xs := s'.data) h0]
        simp
      go_wp2_with fail
      refine (HC _ s3'.err).mono ?_
      rintro e w4 ⟨fb, rfl, k4⟩
      have s4 := (s3'.none_ k4.step).none_ (only_alloc (only_refl w4 none) (.cells #[.pointer none, .pointer none, .pointer none] 37))
      clear s3' k4 HC
      go_wp2_with fail
      try rw [hcat]
      refine (HK _ s4.err).mono ?_
      rintro e w5 ⟨q1, q2, q3, rfl, k5⟩
      have s5 := (s4.none_ k5.step).none_ (only_alloc (only_refl w5 none) (.cells #[.pointer (some ⟨q1, 0, none⟩), .pointer (some ⟨q2, 0, none⟩), .pointer (some ⟨q3, 0, none⟩)] 37))
      clear s4 k5 HK
      go_wp2_with fail
      go_ret
      exact ⟨rfl, s5.step⟩
    · have he : s'.toList.isEmpty = false := not_empty h0
      go_wp2_with fail
      refine (HC _ s3'.err).mono ?_
      rintro e w4 ⟨fb, rfl, k4⟩
      have s4 := (s3'.none_ k4.step).none_ (only_alloc (only_refl w4 none) (.cells #[.pointer none, .pointer none, .pointer none] 37))
      clear s3' k4 HC
      go_wp2_with fail
      refine (HM s' h0 hs' _ s4.err).mono ?_
      rintro e w5 ⟨fb', rfl, k5⟩
      have s5 := (s4.join k5).none_ (only_alloc (only_refl w5 none) (.cells #[.pointer none, .pointer none, .pointer none] 37))
      clear s4 k5 HM
      go_wp2_with fail
      refine (told_st s5 rfl).mono ?_
      rintro e w6 ⟨rfl, s6⟩
      clear s5
      go_wp2_with fail
      go_ret
      exact ⟨rfl, s6.step⟩
end Go.Proofs.YtjjfofifooailaaDoor

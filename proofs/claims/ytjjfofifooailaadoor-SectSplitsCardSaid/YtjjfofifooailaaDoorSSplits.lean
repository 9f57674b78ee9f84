/- colloquylaw03.SectSplits' walk. -/
import Derived.Test.YtjjfofifooailaaDoorAlike
import Derived.Test.YtjjfofifooailaaDoorSJoins
import Derived.Test.YtjjfofifooailaaDoorSecY
namespace Go.Proofs.YtjjfofifooailaaDoor
open Go.RowKit

set_option maxRecDepth 100000 in
set_option maxHeartbeats 4000000 in
theorem ssplits_any (s s1 s2 s3 : ByteArray) (a y z : Int) (ha0 : 0 ≤ a) (ha : a < 65536) (hz0 : -9223372036854775808 ≤ z) (hz : z ≤ 9223372036854775807) (w : World) (hE : ErrType w) :
    Calls Tryd.prog 3 #[.string s, .agg #[.string s1, .string s2, .string s3], .agg #[.int .u16 a, .int .u8 y, .int .i64 z]] w fun e w' => e = .returned (.bool true) ∧ w.grownBy w' none := by
  have g0 : w.grownBy ((w.alloc (.cells #[.string s1, .string s2, .string s3] 22)).alloc (.cells #[.int .u16 a, .int .u8 y, .int .i64 z] 25)) none := only_alloc (only_alloc (only_refl _ _) _) _
  have s0 := (St.start hE).none_ g0
  have B0 := (Blk.new w 22 #[.string s1, .string s2, .string s3]).alloc (.cells #[.int .u16 a, .int .u8 y, .int .i64 z] 25)
  have D0 := Blk.new' (w := w.alloc (.cells #[.string s1, .string s2, .string s3] 22)) (n := w.heap.size + 1) (by simp) 25 #[.int .u16 a, .int .u8 y, .int .i64 z]
  have c0 := B0.cell 0
  have c1 := B0.cell 1
  have c2 := B0.cell 2
  clear g0 B0
  go_enter Tryd.func3, Tryd.ntmps3
  go_wp2_with fail
  refine (texts_any s1 s2 s3 0 (by omega) (by omega) _).mono ?_
  rintro e w2 ⟨u1, u2, u3, rfl, h1, h2, h3, g2⟩
  have h1' : u1.size ≤ 300 := by omega
  have S2 := s0.none_ g2
  have D2 := D0.kept g2
  clear s0 D0 g2 c0 c1 c2 h1
  have HJ := fun W => rjoin_3 u1 u2 u3 (by omega) (by omega) (by omega) W
  obtain ⟨J, hJl, hJe⟩ : ∃ J : ByteArray, J.data.toList = joined u1.data.toList u2.data.toList u3.data.toList ∧ (⟨(joined u1.data.toList u2.data.toList u3.data.toList).toArray⟩ : ByteArray) = J := ⟨⟨(joined u1.data.toList u2.data.toList u3.data.toList).toArray⟩, rfl, rfl⟩
  rw [hJe] at HJ
  have hJs : J.size ≤ 1000 := by
    rw [← bytes_len, hJl]
    have l1 := sev_short (n := u1.data.toList.length) (by rw [bytes_len]; omega)
    have l2 := sev_short (n := u2.data.toList.length) (by rw [bytes_len]; omega)
    have l3 := sev_short (n := u3.data.toList.length) (by rw [bytes_len]; omega)
    have e1 := bytes_len u1
    have e2 := bytes_len u2
    have e3 := bytes_len u3
    simp only [joined, List.length_append, sec_len]
    have : hd5.length = 5 := rfl
    omega
  clear hJl hJe h2 h3 h1'
  go_wp2_with fail
  refine (HJ _).mono ?_
  clear HJ
  rintro e w3 ⟨rfl, g3⟩
  have S3 := S2.none_ g3
  have D3 := D2.kept g3
  clear S2 D2 g3
  obtain ⟨X, hX, hXs⟩ : ∃ X : ByteArray, (X = if 2000 < (s.size : Int) then s.extract 0 2000 else s) ∧ X.size ≤ 2000 := by
    refine ⟨_, rfl, ?_⟩
    split
    · rw [ByteArray.size_extract]; omega
    · omega
  have HA := fun W hW => alike_any X (by omega) W hW
  have HB := fun W hW => alike_any J (by omega) W hW
  have HT := fun W => turned_any J (by omega) a y z ha0 ha hz0 hz W
  have HC := fun (r : ByteArray) (hr : r.size ≤ J.size) W hW => alike_any r (by omega) W hW
  rcases Int.lt_or_le 2000 (s.size : Int) with d | d
  · rw [if_pos d] at hX
    subst hX
    have dd : (2000 : Int) ≤ (s.size : Int) := by omega
    clear hJs hXs
    go_wp2_with fail
    refine (HA _ S3.err).mono ?_
    clear HA
    rintro e w4 ⟨rfl, g4⟩
    have S4 := S3.none_ g4
    have D4 := D3.kept g4
    clear S3 D3 g4
    go_wp2_with fail
    refine (HB _ S4.err).mono ?_
    clear HB
    rintro e w5 ⟨rfl, g5⟩
    have S5 := S4.none_ g5
    have D5 := D4.kept g5
    clear S4 D4 g5
    have d0 := D5.cell 0
    have d1 := D5.cell 1
    have d2 := D5.cell 2
    go_wp2_with fail
    refine (HT _).mono ?_
    clear HT d0 d1 d2
    rintro e w6 ⟨r, rfl, hr, g6⟩
    have S6 := S5.none_ g6
    clear S5 D5 g6
    go_wp2_with fail
    refine (HC r hr _ S6.err).mono ?_
    clear HC hr
    rintro e w7 ⟨rfl, g7⟩
    have S7 := S6.none_ g7
    clear S6 g7
    go_wp2_with fail
    refine (sworks_any _ S7.err).mono ?_
    rintro e w8 ⟨rfl, g8⟩
    have S8 := (S7.none_ g8).step
    clear S7 g8
    go_wp2_with fail
    go_ret
    exact ⟨rfl, S8⟩
  · rw [if_neg (by omega)] at hX
    subst hX
    clear hJs hXs
    go_wp2_with fail
    refine (HA _ S3.err).mono ?_
    clear HA
    rintro e w4 ⟨rfl, g4⟩
    have S4 := S3.none_ g4
    have D4 := D3.kept g4
    clear S3 D3 g4
    go_wp2_with fail
    refine (HB _ S4.err).mono ?_
    clear HB
    rintro e w5 ⟨rfl, g5⟩
    have S5 := S4.none_ g5
    have D5 := D4.kept g5
    clear S4 D4 g5
    have d0 := D5.cell 0
    have d1 := D5.cell 1
    have d2 := D5.cell 2
    go_wp2_with fail
    refine (HT _).mono ?_
    clear HT d0 d1 d2
    rintro e w6 ⟨r, rfl, hr, g6⟩
    have S6 := S5.none_ g6
    clear S5 D5 g6
    go_wp2_with fail
    refine (HC r hr _ S6.err).mono ?_
    clear HC hr
    rintro e w7 ⟨rfl, g7⟩
    have S7 := S6.none_ g7
    clear S6 g7
    go_wp2_with fail
    refine (sworks_any _ S7.err).mono ?_
    rintro e w8 ⟨rfl, g8⟩
    have S8 := (S7.none_ g8).step
    clear S7 g8
    go_wp2_with fail
    go_ret
    exact ⟨rfl, S8⟩
end Go.Proofs.YtjjfofifooailaaDoor

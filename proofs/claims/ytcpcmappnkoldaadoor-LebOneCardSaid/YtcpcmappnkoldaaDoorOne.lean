/- LebOne: whatever the bytes, and the number, the call returns true, and turns nothing that was there. -/
import Derived.Test.YtcpcmappnkoldaaDoorLebV
import Derived.Test.YtcpcmappnkoldaaDoorFolds
import Derived.Deep.DeepCutAuto
import Derived.Deep.CutBlock
namespace Go.Proofs.YtcpcmappnkoldaaDoor
open Go.RowKit

/-- With its last byte marked, and a nought behind, a number's bytes are wrong. -/
theorem long_bad {n : Nat} (hn : n < 18446744073709551616) : ∃ (m : Nat) (y : UInt8), (sev n).length = m + 1 ∧ m < 10 ∧ (sev n)[m]? = some y ∧ y.toNat < 128 ∧
    ∃ k, Taken ((sev n).set m (UInt8.ofNat (y.toNat + 128)) ++ [0]) k ∧ Bad (((sev n).set m (UInt8.ofNat (y.toNat + 128)) ++ [0]).take k) := by
  have hp := sev_pos n
  have h10 := sev_len10 hn
  obtain ⟨m, hm⟩ : ∃ m, (sev n).length = m + 1 := ⟨(sev n).length - 1, by omega⟩
  have hlt : m < (sev n).length := by omega
  have hy : (sev n)[m]? = some (sev n)[m] := List.getElem?_eq_getElem hlt
  have hy1 := (sev_last n _ (by rw [hm, Nat.add_sub_cancel]; exact hy)).1
  have hh := sev_high n
  generalize (sev n)[m] = y at *
  refine ⟨m, y, hm, by omega, hy, hy1, ?_⟩
  have hv : (UInt8.ofNat (y.toNat + 128)).toNat = y.toNat + 128 := u8_ofNat (by omega)
  generalize UInt8.ofNat (y.toNat + 128) = v at *
  generalize sev n = t at *
  have hlen : (t.set m v ++ [0]).length = m + 2 := by simp [hm]
  have e1 : ∀ j u, j ≤ m → (t.set m v ++ [0])[j]? = some u → 128 ≤ u.toNat := by
    intro j u hj hu
    rw [List.getElem?_append_left (by simp; omega), List.getElem?_set] at hu
    split at hu
    · first | (injection hu with hu; rw [← hu]; omega) | (rw [if_pos (by omega)] at hu; injection hu with hu; rw [← hu]; omega)
    · exact hh j u (by omega) hu
  have em : (t.set m v ++ [0])[m]? = some v := by
    rw [List.getElem?_append_left (by simp; omega), List.getElem?_set, if_pos rfl, if_pos (by omega)]
  have e0 : (t.set m v ++ [0])[m + 1]? = some 0 := by
    rw [List.getElem?_append_right (by simp; omega)]; simp [hm]
  by_cases h9 : m + 1 = 10
  · refine ⟨10, ⟨by omega, by omega, by omega, fun j u hj hu => e1 j u (by omega) hu, fun _ _ => .inr rfl⟩, v, ?_, .inl (by omega)⟩
    have : ((t.set m v ++ [0]).take 10).length = 10 := by rw [List.length_take]; omega
    rw [this, List.getElem?_take_of_lt (by omega)]
    rw [show 10 - 1 = m by omega]; exact em
  · refine ⟨m + 2, ⟨by omega, by omega, by omega, fun j u hj hu => e1 j u (by omega) hu, fun u hu => .inl ?_⟩, 0, ?_, .inr (.inr ⟨?_, rfl⟩)⟩
    · rw [show m + 2 - 1 = m + 1 by omega, e0] at hu
      injection hu with hu
      rw [← hu]; decide
    · rw [List.take_of_length_le (by omega), hlen]; exact e0
    · rw [List.take_of_length_le (by omega), hlen]; omega

theorem or_all : ∀ y : Fin 128, bits BinOp.or .u8 ((y.val : Nat) : Int) 128 = ((y.val : Nat) : Int) + 128 := by decide
theorem or_128 {y : Nat} (h : y < 128) : bits BinOp.or .u8 (y : Int) 128 = (y : Int) + 128 := or_all ⟨y, h⟩

theorem ext_bytes (s : ByteArray) (a n : Nat) : (s.extract a (a + n)).data.toList = (s.data.toList.drop a).take n := by
  rw [ByteArray.data_extract, Array.toList_extract, List.extract_eq_take_drop, Nat.add_sub_cancel_left]
theorem place_at {w0 w : World} {rs : List RD} {fs : List FD} {g a : Nat} {bs : List UInt8} (s : St w0 w (⟨g, bs, a, 0⟩ :: rs) fs) :
    Calls Tryd.prog 17 #[.pointer (some ⟨g, 0, none⟩)] w fun e w' => e = .returned (.int .i64 (a : Int)) ∧ St w0 w' (⟨g, bs, a, 0⟩ :: rs) fs :=
  (place_eq s.head).mono fun _ _ ⟨h1, h2⟩ => ⟨h1, s.none_ h2⟩

/-- Of a number's bytes: what the walk wants of them next. -/
theorem put_len {w0 w : World} {rs : List RD} {fs : List FD} (s : St w0 w rs fs) (n : Nat) (hn : n < 18446744073709551616) :
    Calls Tryd.prog 28 #[.int .u64 (n : Int)] w fun e w' => ∃ (t : ByteArray) (m : Nat) (y : UInt8), e = .returned (.string t) ∧ t.size = m + 1 ∧ m < 10 ∧ y.toNat < 128 ∧ t.data.toList[m]? = some y ∧ St w0 w' rs fs ∧
      Hid (∃ k, Taken (t.data.toList.set m (UInt8.ofNat (y.toNat + 128)) ++ [0]) k ∧ Bad ((t.data.toList.set m (UInt8.ofNat (y.toNat + 128)) ++ [0]).take k)) := by
  obtain ⟨m, y, h1, h2, h3, h4, h5⟩ := long_bad hn
  refine (put_any n hn w).mono fun _ _ ⟨e1, e2⟩ => ⟨⟨(sev n).toArray⟩, m, y, e1, ?_, h2, h4, by simpa using h3, s.none_ e2, ?_⟩
  · rw [← bytes_len]; simpa using h1
  · show ∃ k, _
    simpa using h5

/-- The bytes of a text as a slice of them that is the call's own: the last one may be marked. -/
theorem own_bytes {w : World} {t : ByteArray} {cap m : Nat} {y : UInt8} (hm : t.size = m + 1) (hy1 : y.toNat < 128) (hy : t.data.toList[m]? = some y) :
    ((w.alloc (.cells (bytesRow t cap) 5 ((bytesRow t cap).size, (bytesRow t cap).size + 1))).drew).cell? ⟨w.heap.size, m, none⟩ = some (.int .u8 (y.toNat : Int)) ∧
    ((w.alloc (.cells (bytesRow t cap) 5 ((bytesRow t cap).size, (bytesRow t cap).size + 1))).drew).frozen? ⟨w.heap.size, m, none⟩ = false ∧
    w.grownBy ((w.alloc (.cells (bytesRow t cap) 5 ((bytesRow t cap).size, (bytesRow t cap).size + 1))).drew) none ∧
    (convert 64 9 (.slice (some ⟨w.heap.size, 0, none⟩) (m + 1) cap)).run Tryd.prog (((w.alloc (.cells (bytesRow t cap) 5 ((bytesRow t cap).size, (bytesRow t cap).size + 1))).drew).setCell ⟨w.heap.size, m, none⟩ (.int .u8 ((y.toNat : Int) + 128))) =
      .ok (.string ⟨(t.data.toList.set m (UInt8.ofNat (y.toNat + 128))).toArray⟩) (((w.alloc (.cells (bytesRow t cap) 5 ((bytesRow t cap).size, (bytesRow t cap).size + 1))).drew).setCell ⟨w.heap.size, m, none⟩ (.int .u8 ((y.toNat : Int) + 128))) := by
  have hds : t.data.size = m + 1 := hm
  have hml : m < t.data.size := by omega
  have hrow := bytesRow_at t cap
  have hbm := (Array.getElem?_eq_some_iff.1 (hrow m hml)).1
  have hyd : t.data[m] = y := by
    have h1 : t.data.toList[m]? = some t.data[m] := by rw [Array.getElem?_toList]; exact Array.getElem?_eq_getElem hml
    rw [h1] at hy
    injection hy
  have hh : ((w.alloc (.cells (bytesRow t cap) 5 ((bytesRow t cap).size, (bytesRow t cap).size + 1))).drew).heap[w.heap.size]? = some (.cells (bytesRow t cap) 5 ((bytesRow t cap).size, (bytesRow t cap).size + 1)) := heap_alloc_new w _
  have hg : w.grownBy ((w.alloc (.cells (bytesRow t cap) 5 ((bytesRow t cap).size, (bytesRow t cap).size + 1))).drew) none := only_drew (only_alloc (only_refl _ _) _)
  generalize (w.alloc (.cells (bytesRow t cap) 5 ((bytesRow t cap).size, (bytesRow t cap).size + 1))).drew = W at *
  refine ⟨by simp [World.cell?, hh, hrow m hml, hyd], by simp [World.frozen?, hh]; omega, hg, ?_⟩
  have hlen : (t.data.toList.set m (UInt8.ofNat (y.toNat + 128))).length = m + 1 := by simp; exact hds
  rw [← hlen]
  refine run_convert_bytes_back _ _ _ _ ⟨w.heap.size, 0, none⟩ cap _ Tryd.underlying64 Tryd.underlying5 Tryd.underlying9 fun j hj => ?_
  rw [Go.WideShapes.add_plain, Nat.zero_add]
  have hj2 : j < t.data.size := by omega
  have h2 : (W.setCell ⟨w.heap.size, m, none⟩ (.int .u8 ((y.toNat : Int) + 128))).heap[w.heap.size]? = some (.cells ((bytesRow t cap).setIfInBounds m (.int .u8 ((y.toNat : Int) + 128))) 5 ((bytesRow t cap).size, (bytesRow t cap).size + 1)) := by
    simp [World.setCell, Array.getElem?_modify, hh]
  have h3 : (W.setCell ⟨w.heap.size, m, none⟩ (.int .u8 ((y.toNat : Int) + 128))).cell? ⟨w.heap.size, j, none⟩ = ((bytesRow t cap).setIfInBounds m (.int .u8 ((y.toNat : Int) + 128)))[j]? := by simp [World.cell?, h2]
  rw [h3, Array.getElem?_setIfInBounds]
  by_cases hjm : m = j
  · subst hjm
    rw [if_pos rfl, if_pos hbm]
    simp only [List.getElem_set_self]
    rw [u8_ofNat (by omega)]
    rfl
  · rw [if_neg hjm, hrow j hj2]
    simp only [List.getElem_set_ne hjm]
    simp
/-- Behind the mark nothing else has turned. -/
theorem own_after {w w4 W : World} (S : St w W [] []) (hg : w.grownBy w4 none) (m : Nat) (y : UInt8) : St w (W.setCell ⟨w4.heap.size, m, none⟩ (.int .u8 ((y.toNat : Int) + 128))) [] [] := by
  have h := S.err0
  have hs := hg.size
  exact ⟨S.err.kept (only_setCell (only_refl W (some w4.heap.size)) (p := ⟨w4.heap.size, m, none⟩) rfl _) (fun g e => by injection e with e; omega), h, only_setNew S.step hs _, by simp, by simp, by simp⟩
set_option maxRecDepth 100000 in
set_option maxHeartbeats 8000000 in
theorem one_any (s : ByteArray) (n : Nat) (hn : n < 18446744073709551616) (w : World) (hE : ErrType w) :
    Calls Tryd.prog 6 #[.string s, .int .u64 (n : Int)] w fun e w' => e = .returned (.bool true) ∧ w.grownBy w' none := by
  have HN := Lib.hid hn
  clear hn
  go_enter Tryd.func6, Tryd.ntmps6
  go_upto_region 1 with fail
  go_cut [0] (fun s0 wx => ∃ s' : ByteArray, s0 = .string s' ∧ s'.size ≤ 30 ∧ w = wx)
  case first =>
    go_wp2_with fail
    all_goals go_meet
    · exact ⟨_, rfl, by rw [ByteArray.size_extract]; omega, rfl⟩
    · exact ⟨_, rfl, by omega, rfl⟩
  case rest =>
    obtain ⟨s', rfl, hs', rfl⟩ := hcut
    have S0 := St.start hE
    go_wp2_with fail
    refine (reader_st S0 s' (by omega)).mono ?_
    rintro e w2 ⟨g, rfl, S1⟩
    clear S0
    have hcase := taken_or (s'.data.toList.drop 0)
    have hpl : Hid (((0 : Nat) : Int) + (s'.data.toList.length : Int) = (s'.data.toList.length : Int)) := by show _ = _; omega
    rcases hcase with hsh | ⟨k, hk⟩
    · have HSH := Lib.hid hsh
      clear hsh
      go_wp2_with fail
      refine (u_st_ends S1 _ HSH.out hpl.out).mono ?_
      rintro e w3 ⟨fb, rfl, S2⟩
      have S3 := S2.drop
      clear S1 S2 HSH
      go_wp2_with fail
      refine (put_len S3 n HN.out).mono ?_
      rintro e w4 ⟨t, m, y, rfl, hts, hm10, hy1, hy, S4, HL⟩
      clear S3
      have hcv := run_bytes_of_string (P := Tryd.prog) w4 9 64 5 t Tryd.underlying9 Tryd.underlying64 Tryd.underlying5
      rw [hts] at hcv
      obtain ⟨o1, o2, o3, o4⟩ := own_bytes (w := w4) (cap := grownCap w4 (m + 1) 0 5) hts hy1 hy
      have o5 : St w (((w4.alloc (.cells (bytesRow t (grownCap w4 (m + 1) 0 5)) 5 ((bytesRow t (grownCap w4 (m + 1) 0 5)).size, (bytesRow t (grownCap w4 (m + 1) 0 5)).size + 1))).setCell ⟨w4.heap.size, m, none⟩ (.int .u8 ((y.toNat : Int) + 128))).drew) [] [] := own_after (S4.none_ o3) S4.step m y
      have o6 : (convert 64 9 (.slice (some ⟨w4.heap.size, 0, none⟩) (m + 1) (grownCap w4 (m + 1) 0 5))).run Tryd.prog (((w4.alloc (.cells (bytesRow t (grownCap w4 (m + 1) 0 5)) 5 ((bytesRow t (grownCap w4 (m + 1) 0 5)).size, (bytesRow t (grownCap w4 (m + 1) 0 5)).size + 1))).setCell ⟨w4.heap.size, m, none⟩ (.int .u8 ((y.toNat : Int) + 128))).drew) = .ok (.string ⟨(t.data.toList.set m (UInt8.ofNat (y.toNat + 128))).toArray⟩) (((w4.alloc (.cells (bytesRow t (grownCap w4 (m + 1) 0 5)) 5 ((bytesRow t (grownCap w4 (m + 1) 0 5)).size, (bytesRow t (grownCap w4 (m + 1) 0 5)).size + 1))).setCell ⟨w4.heap.size, m, none⟩ (.int .u8 ((y.toNat : Int) + 128))).drew) := o4
      clear o4
      have hor := or_128 hy1
      have e1 : ((m : Int) + 1 == 0) = false := by simp; omega
      have e2 : decide (10 < (m : Int) + 1) = false := by simp; omega
      have hm10' : (m : Int) < 10 := by omega
      have hy' : (y.toNat : Int) < 128 := by omega
      have hy0 : (0 : Int) ≤ (y.toNat : Int) := by omega
      obtain ⟨L, hL⟩ : ∃ L, t.data.toList.set m (UInt8.ofNat (y.toNat + 128)) = L := ⟨_, rfl⟩
      have hLl : L.length = m + 1 := by rw [← hL, List.length_set, bytes_len, hts]
      rw [hL] at HL o6
      obtain ⟨T, hT⟩ : ∃ T : ByteArray, (⟨L.toArray⟩ : ByteArray) = T := ⟨_, rfl⟩
      have hTs : T.size = m + 1 := by rw [← hT, ← bytes_len]; simpa using hLl
      have hTL : Hid ((T ++ ⟨#[0]⟩).data.toList = L ++ [0]) := by show _ = _; rw [← hT]; simp
      rw [hT] at o6
      have hcc : ¬ (9223372036854775807 < (T.size : Int) + 1) := by rw [hTs]; omega
      have hcc2 : ¬ (IntKind.i64.max < (T.size : Int) + 1) := hcc
      have hT2 : Hid ((T ++ (⟨#[0]⟩ : ByteArray)).size ≤ 4611686018427387904) := by show _ ≤ _; rw [← bytes_len, hTL.out, List.length_append, hLl]; simp; omega
      clear S4 hy hm10 hy1 hL hLl hT
      go_upto_region 13 with fail
      generalize T ++ (⟨#[0]⟩ : ByteArray) = T2 at *
      clear o6 hTs hcc hcc2 hor
      generalize ((w4.alloc (.cells (bytesRow t (grownCap w4 (m + 1) 0 5)) 5 ((bytesRow t (grownCap w4 (m + 1) 0 5)).size, (bytesRow t (grownCap w4 (m + 1) 0 5)).size + 1))).setCell ⟨w4.heap.size, m, none⟩ (.int .u8 ((y.toNat : Int) + 128))).drew = W at *
      clear hcv o1 o2 o3
      go_wp2_with fail
      refine (reader_st o5 T2 hT2.out).mono ?_
      rintro e w5 ⟨g2, rfl, S5⟩
      rw [hTL.out] at S5
      obtain ⟨k2, hk2, hb2⟩ := HL.out
      have HK2 := Lib.hid hk2
      have HB2 := Lib.hid hb2
      clear o5 hk2 hb2
      go_wp2_with fail
      refine (u_st_bad S5 k2 0 HK2.out HB2.out rfl).mono ?_
      rintro e w6 ⟨fb2, rfl, S6⟩
      clear S5
      go_wp2_with fail
      refine (told_st S6 rfl).mono ?_
      rintro e w7 ⟨rfl, S7⟩
      clear S6
      go_wp2_with fail
      refine (works_any _ S7.err).mono ?_
      rintro e w8 ⟨rfl, hg8⟩
      have S8 := S7.none_ hg8
      clear S7 hg8
      go_wp2_with fail
      go_ret
      exact ⟨rfl, S8.step⟩
    · by_cases hb : Bad ((s'.data.toList.drop 0).take k)
      · have HK := Lib.hid hk
        have HB := Lib.hid hb
        clear hk hb
        go_wp2_with fail
        refine (u_st_bad S1 k 0 HK.out HB.out rfl).mono ?_
        rintro e w3 ⟨fb, rfl, S2⟩
        have S3 := S2.drop
        clear S1 S2 HK HB
        go_wp2_with fail
        refine (put_len S3 n HN.out).mono ?_
        rintro e w4 ⟨t, m, y, rfl, hts, hm10, hy1, hy, S4, HL⟩
        clear S3
        have hcv := run_bytes_of_string (P := Tryd.prog) w4 9 64 5 t Tryd.underlying9 Tryd.underlying64 Tryd.underlying5
        rw [hts] at hcv
        obtain ⟨o1, o2, o3, o4⟩ := own_bytes (w := w4) (cap := grownCap w4 (m + 1) 0 5) hts hy1 hy
        have o5 : St w (((w4.alloc (.cells (bytesRow t (grownCap w4 (m + 1) 0 5)) 5 ((bytesRow t (grownCap w4 (m + 1) 0 5)).size, (bytesRow t (grownCap w4 (m + 1) 0 5)).size + 1))).setCell ⟨w4.heap.size, m, none⟩ (.int .u8 ((y.toNat : Int) + 128))).drew) [] [] := own_after (S4.none_ o3) S4.step m y
        have o6 : (convert 64 9 (.slice (some ⟨w4.heap.size, 0, none⟩) (m + 1) (grownCap w4 (m + 1) 0 5))).run Tryd.prog (((w4.alloc (.cells (bytesRow t (grownCap w4 (m + 1) 0 5)) 5 ((bytesRow t (grownCap w4 (m + 1) 0 5)).size, (bytesRow t (grownCap w4 (m + 1) 0 5)).size + 1))).setCell ⟨w4.heap.size, m, none⟩ (.int .u8 ((y.toNat : Int) + 128))).drew) = .ok (.string ⟨(t.data.toList.set m (UInt8.ofNat (y.toNat + 128))).toArray⟩) (((w4.alloc (.cells (bytesRow t (grownCap w4 (m + 1) 0 5)) 5 ((bytesRow t (grownCap w4 (m + 1) 0 5)).size, (bytesRow t (grownCap w4 (m + 1) 0 5)).size + 1))).setCell ⟨w4.heap.size, m, none⟩ (.int .u8 ((y.toNat : Int) + 128))).drew) := o4
        clear o4
        have hor := or_128 hy1
        have e1 : ((m : Int) + 1 == 0) = false := by simp; omega
        have e2 : decide (10 < (m : Int) + 1) = false := by simp; omega
        have hm10' : (m : Int) < 10 := by omega
        have hy' : (y.toNat : Int) < 128 := by omega
        have hy0 : (0 : Int) ≤ (y.toNat : Int) := by omega
        obtain ⟨L, hL⟩ : ∃ L, t.data.toList.set m (UInt8.ofNat (y.toNat + 128)) = L := ⟨_, rfl⟩
        have hLl : L.length = m + 1 := by rw [← hL, List.length_set, bytes_len, hts]
        rw [hL] at HL o6
        obtain ⟨T, hT⟩ : ∃ T : ByteArray, (⟨L.toArray⟩ : ByteArray) = T := ⟨_, rfl⟩
        have hTs : T.size = m + 1 := by rw [← hT, ← bytes_len]; simpa using hLl
        have hTL : Hid ((T ++ ⟨#[0]⟩).data.toList = L ++ [0]) := by show _ = _; rw [← hT]; simp
        rw [hT] at o6
        have hcc : ¬ (9223372036854775807 < (T.size : Int) + 1) := by rw [hTs]; omega
        have hcc2 : ¬ (IntKind.i64.max < (T.size : Int) + 1) := hcc
        have hT2 : Hid ((T ++ (⟨#[0]⟩ : ByteArray)).size ≤ 4611686018427387904) := by show _ ≤ _; rw [← bytes_len, hTL.out, List.length_append, hLl]; simp; omega
        clear S4 hy hm10 hy1 hL hLl hT
        go_upto_region 13 with fail
        generalize T ++ (⟨#[0]⟩ : ByteArray) = T2 at *
        clear o6 hTs hcc hcc2 hor
        generalize ((w4.alloc (.cells (bytesRow t (grownCap w4 (m + 1) 0 5)) 5 ((bytesRow t (grownCap w4 (m + 1) 0 5)).size, (bytesRow t (grownCap w4 (m + 1) 0 5)).size + 1))).setCell ⟨w4.heap.size, m, none⟩ (.int .u8 ((y.toNat : Int) + 128))).drew = W at *
        clear hcv o1 o2 o3
        go_wp2_with fail
        refine (reader_st o5 T2 hT2.out).mono ?_
        rintro e w5 ⟨g2, rfl, S5⟩
        rw [hTL.out] at S5
        obtain ⟨k2, hk2, hb2⟩ := HL.out
        have HK2 := Lib.hid hk2
        have HB2 := Lib.hid hb2
        clear o5 hk2 hb2
        go_wp2_with fail
        refine (u_st_bad S5 k2 0 HK2.out HB2.out rfl).mono ?_
        rintro e w6 ⟨fb2, rfl, S6⟩
        clear S5
        go_wp2_with fail
        refine (told_st S6 rfl).mono ?_
        rintro e w7 ⟨rfl, S7⟩
        clear S6
        go_wp2_with fail
        refine (works_any _ S7.err).mono ?_
        rintro e w8 ⟨rfl, hg8⟩
        have S8 := S7.none_ hg8
        clear S7 hg8
        go_wp2_with fail
        go_ret
        exact ⟨rfl, S8.step⟩
      · have HK := Lib.hid hk
        have HB := Lib.hid hb
        have hsev := sev_of_taken hk hb
        have hks : k ≤ s'.size := by have := hk.len; rw [List.drop_zero, bytes_len] at this; exact this
        have hks' : (k : Int) ≤ (s'.size : Int) := by omega
        have HP : Hid (sev (num ((s'.data.toList.drop 0).take k)) = (s'.extract 0 k).data.toList) := by
          show _ = _
          have h1 := ext_bytes s' 0 k
          rw [Nat.zero_add] at h1
          rw [h1, hsev.1]
        have HL2 := Lib.hid hsev.2
        clear hk hb hsev hks
        generalize hnn : num ((s'.data.toList.drop 0).take k) = nn at *
        have HNN := Lib.hid hnn
        clear hnn
        go_wp2_with fail
        refine (u_st_ok S1 k nn HK.out HB.out HNN.out).mono ?_
        rintro e w3 ⟨rfl, S2⟩
        clear S1 HK HB HNN
        rw [Nat.zero_add] at S2
        go_wp2_with fail
        refine (put_st S2 nn (s'.extract 0 k) HL2.out HP.out).mono ?_
        rintro e w9 ⟨rfl, S9⟩
        clear S2
        go_wp2_with fail
        refine (place_at S9).mono ?_
        rintro e w10 ⟨rfl, S10⟩
        have S3 := S10.drop
        clear S9 S10 HL2 HP
        go_wp2_with fail
        refine (put_len S3 n HN.out).mono ?_
        rintro e w4 ⟨t, m, y, rfl, hts, hm10, hy1, hy, S4, HL⟩
        clear S3
        have hcv := run_bytes_of_string (P := Tryd.prog) w4 9 64 5 t Tryd.underlying9 Tryd.underlying64 Tryd.underlying5
        rw [hts] at hcv
        obtain ⟨o1, o2, o3, o4⟩ := own_bytes (w := w4) (cap := grownCap w4 (m + 1) 0 5) hts hy1 hy
        have o5 : St w (((w4.alloc (.cells (bytesRow t (grownCap w4 (m + 1) 0 5)) 5 ((bytesRow t (grownCap w4 (m + 1) 0 5)).size, (bytesRow t (grownCap w4 (m + 1) 0 5)).size + 1))).setCell ⟨w4.heap.size, m, none⟩ (.int .u8 ((y.toNat : Int) + 128))).drew) [] [] := own_after (S4.none_ o3) S4.step m y
        have o6 : (convert 64 9 (.slice (some ⟨w4.heap.size, 0, none⟩) (m + 1) (grownCap w4 (m + 1) 0 5))).run Tryd.prog (((w4.alloc (.cells (bytesRow t (grownCap w4 (m + 1) 0 5)) 5 ((bytesRow t (grownCap w4 (m + 1) 0 5)).size, (bytesRow t (grownCap w4 (m + 1) 0 5)).size + 1))).setCell ⟨w4.heap.size, m, none⟩ (.int .u8 ((y.toNat : Int) + 128))).drew) = .ok (.string ⟨(t.data.toList.set m (UInt8.ofNat (y.toNat + 128))).toArray⟩) (((w4.alloc (.cells (bytesRow t (grownCap w4 (m + 1) 0 5)) 5 ((bytesRow t (grownCap w4 (m + 1) 0 5)).size, (bytesRow t (grownCap w4 (m + 1) 0 5)).size + 1))).setCell ⟨w4.heap.size, m, none⟩ (.int .u8 ((y.toNat : Int) + 128))).drew) := o4
        clear o4
        have hor := or_128 hy1
        have e1 : ((m : Int) + 1 == 0) = false := by simp; omega
        have e2 : decide (10 < (m : Int) + 1) = false := by simp; omega
        have hm10' : (m : Int) < 10 := by omega
        have hy' : (y.toNat : Int) < 128 := by omega
        have hy0 : (0 : Int) ≤ (y.toNat : Int) := by omega
        obtain ⟨L, hL⟩ : ∃ L, t.data.toList.set m (UInt8.ofNat (y.toNat + 128)) = L := ⟨_, rfl⟩
        have hLl : L.length = m + 1 := by rw [← hL, List.length_set, bytes_len, hts]
        rw [hL] at HL o6
        obtain ⟨T, hT⟩ : ∃ T : ByteArray, (⟨L.toArray⟩ : ByteArray) = T := ⟨_, rfl⟩
        have hTs : T.size = m + 1 := by rw [← hT, ← bytes_len]; simpa using hLl
        have hTL : Hid ((T ++ ⟨#[0]⟩).data.toList = L ++ [0]) := by show _ = _; rw [← hT]; simp
        rw [hT] at o6
        have hcc : ¬ (9223372036854775807 < (T.size : Int) + 1) := by rw [hTs]; omega
        have hcc2 : ¬ (IntKind.i64.max < (T.size : Int) + 1) := hcc
        have hT2 : Hid ((T ++ (⟨#[0]⟩ : ByteArray)).size ≤ 4611686018427387904) := by show _ ≤ _; rw [← bytes_len, hTL.out, List.length_append, hLl]; simp; omega
        clear S4 hy hm10 hy1 hL hLl hT
        go_upto_region 13 with fail
        generalize T ++ (⟨#[0]⟩ : ByteArray) = T2 at *
        clear o6 hTs hcc hcc2 hor
        generalize ((w4.alloc (.cells (bytesRow t (grownCap w4 (m + 1) 0 5)) 5 ((bytesRow t (grownCap w4 (m + 1) 0 5)).size, (bytesRow t (grownCap w4 (m + 1) 0 5)).size + 1))).setCell ⟨w4.heap.size, m, none⟩ (.int .u8 ((y.toNat : Int) + 128))).drew = W at *
        clear hcv o1 o2 o3
        go_wp2_with fail
        refine (reader_st o5 T2 hT2.out).mono ?_
        rintro e w5 ⟨g2, rfl, S5⟩
        rw [hTL.out] at S5
        obtain ⟨k2, hk2, hb2⟩ := HL.out
        have HK2 := Lib.hid hk2
        have HB2 := Lib.hid hb2
        clear o5 hk2 hb2
        go_wp2_with fail
        refine (u_st_bad S5 k2 0 HK2.out HB2.out rfl).mono ?_
        rintro e w6 ⟨fb2, rfl, S6⟩
        clear S5
        go_wp2_with fail
        refine (told_st S6 rfl).mono ?_
        rintro e w7 ⟨rfl, S7⟩
        clear S6
        go_wp2_with fail
        refine (works_any _ S7.err).mono ?_
        rintro e w8 ⟨rfl, hg8⟩
        have S8 := S7.none_ hg8
        clear S7 hg8
        go_wp2_with fail
        go_ret
        exact ⟨rfl, S8.step⟩
end Go.Proofs.YtcpcmappnkoldaaDoor

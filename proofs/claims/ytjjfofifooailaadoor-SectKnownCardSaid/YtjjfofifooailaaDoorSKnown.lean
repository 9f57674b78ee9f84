/- colloquylaw03.SectKnown's walk. -/
import Derived.Test.YtjjfofifooailaaDoorSecK
import Derived.Test.YtjjfofifooailaaDoorSecX
namespace Go.Proofs.YtjjfofifooailaaDoor
open Go.RowKit

theorem sk_1 : SplitFault [67, 76, 81, 89, 2] 6 4 := .head 4 ⟨by omega, fun j hj => by
  have : j = 0 ∨ j = 1 ∨ j = 2 ∨ j = 3 := by omega
  rcases this with rfl | rfl | rfl | rfl <;> rfl, by decide⟩
theorem sk_2 : SplitFault [120, 76, 81, 89, 1] 6 0 := .head 0 ⟨by omega, fun j hj => by omega, by decide⟩
theorem taken_80 : Taken [128, 0] 2 := ⟨by omega, by omega, by decide, fun j u hj hu => by
  obtain rfl : j = 0 := by omega
  have : some (128 : UInt8) = some u := hu
  injection this with h
  subst h
  decide, fun u hu => .inl (by
  have : some (0 : UInt8) = some u := hu
  injection this with h
  subst h
  decide)⟩
theorem sk_3 : SplitFault [67, 76, 81, 89, 1, 1, 128, 0] 5 6 :=
  .sec1 _ _ (head_hd5 [1, 128, 0]) (.wrong (b := [67, 76, 81, 89, 1, 1, 128, 0]) (k := 1) (a := 5) 2 rfl taken_80 ⟨0, rfl, .inr (.inr ⟨by decide, by decide⟩)⟩)
theorem sev_65537 : sev 65537 = [129, 128, 4] := by rw [sev_ge (by omega), sev_ge (by omega), sev_lt (by omega)]; rfl
theorem sev_65536 : sev 65536 = [128, 128, 4] := by rw [sev_ge (by omega), sev_ge (by omega), sev_lt (by omega)]; rfl
theorem sk_4 : SplitFault [67, 76, 81, 89, 1, 1, 129, 128, 4] 4 6 := by
  have h1 := taken_sev (n := 65537) (by omega) []
  have h2 := good_sev (n := 65537) (by omega)
  have h3 := num_sev 65537
  rw [sev_65537] at h1 h2 h3
  exact .sec1 _ _ (head_hd5 [1, 129, 128, 4]) (.long (b := [67, 76, 81, 89, 1, 1, 129, 128, 4]) (k := 1) (a := 5) 3 65537 rfl h1 h2 h3 (by omega))
theorem sk_5 : SplitFault [67, 76, 81, 89, 1, 1] 3 6 :=
  .sec1 _ _ (head_hd5 [1]) (.ends (b := [67, 76, 81, 89, 1, 1]) (k := 1) (a := 5) rfl ⟨by decide, fun j u hu => by
    have : ([] : List UInt8)[j]? = some u := hu
    simp at this⟩)
/-- An empty section. -/
theorem sec_empty (b : List UInt8) (k a : Nat) (h1 : b[a]? = some (UInt8.ofNat k)) (h2 : b[a + 1]? = some 0) : SecOk b k a 1 (a + 2) 0 := by
  have hlt : a + 1 < b.length := (List.getElem?_eq_some_iff.1 h2).1
  have hd : b.drop (a + 1) = 0 :: b.drop (a + 2) := by
    rw [List.drop_eq_getElem_cons hlt]
    congr 1
    exact (List.getElem?_eq_some_iff.1 h2).2
  obtain ⟨t1, t2, t3⟩ := taken_small 0 (b.drop (a + 2)) (by decide)
  rw [← hd] at t1 t2 t3
  exact ⟨h1, t1, t2, t3, rfl, by omega, by omega⟩
theorem sk_6 : SplitFault [67, 76, 81, 89, 1, 1, 0, 1, 0] 7 7 :=
  .sec2 1 7 0 _ _ (head_hd5 [1, 0, 1, 0]) (sec_empty _ 1 5 rfl rfl) (.other 1 rfl (by decide))
theorem sk_7 : SplitFault [67, 76, 81, 89, 1, 1, 0, 2, 0] 3 9 :=
  .sec3 1 7 0 1 9 0 _ _ (head_hd5 [1, 0, 2, 0]) (sec_empty _ 1 5 rfl rfl) (sec_empty _ 2 7 rfl rfl) (.lacks rfl)
theorem sk_8 : SplitFault [67, 76, 81, 89, 1, 1, 0, 2, 0, 3, 1] 3 11 := by
  obtain ⟨h1, h2, h3⟩ := taken_small 1 [] (by decide)
  exact .sec3 1 7 0 1 9 0 _ _ (head_hd5 [1, 0, 2, 0, 3, 1]) (sec_empty _ 1 5 rfl rfl) (sec_empty _ 2 7 rfl rfl) (.short (b := [67, 76, 81, 89, 1, 1, 0, 2, 0, 3, 1]) (k := 3) (a := 9) 1 1 rfl h1 h2 h3 (by omega) (by decide))
theorem sk_9 : SplitFault [67, 76, 81, 89, 1, 1, 0, 2, 0, 3, 0, 0] 4 11 :=
  .more ⟨1, 7, 0, 1, 9, 0, 1, 11, 0⟩ (head_hd5 [1, 0, 2, 0, 3, 0, 0]) (sec_empty _ 1 5 rfl rfl) (sec_empty _ 2 7 rfl rfl) (sec_empty _ 3 9 rfl rfl) (by decide)
theorem kat_3 : (⟨#[67, 76, 81, 89, 1]⟩ ++ ⟨#[1, 128, 0]⟩ : ByteArray) = ⟨#[67, 76, 81, 89, 1, 1, 128, 0]⟩ := by decide
theorem kat_4 : (⟨#[67, 76, 81, 89, 1]⟩ ++ ⟨#[1, 129, 128, 4]⟩ : ByteArray) = ⟨#[67, 76, 81, 89, 1, 1, 129, 128, 4]⟩ := by decide
theorem kat_5 : (⟨#[67, 76, 81, 89, 1]⟩ ++ ⟨#[1]⟩ : ByteArray) = ⟨#[67, 76, 81, 89, 1, 1]⟩ := by decide
theorem kat_6 : (⟨#[67, 76, 81, 89, 1]⟩ ++ ⟨#[1, 0, 1, 0]⟩ : ByteArray) = ⟨#[67, 76, 81, 89, 1, 1, 0, 1, 0]⟩ := by decide
theorem kat_7 : (⟨#[67, 76, 81, 89, 1]⟩ ++ ⟨#[1, 0, 2, 0]⟩ : ByteArray) = ⟨#[67, 76, 81, 89, 1, 1, 0, 2, 0]⟩ := by decide
theorem kat_8 : (⟨#[67, 76, 81, 89, 1]⟩ ++ ⟨#[1, 0, 2, 0, 3, 1]⟩ : ByteArray) = ⟨#[67, 76, 81, 89, 1, 1, 0, 2, 0, 3, 1]⟩ := by decide
theorem kat_9 : (⟨#[67, 76, 81, 89, 1]⟩ ++ ⟨#[1, 0, 2, 0, 3, 0, 0]⟩ : ByteArray) = ⟨#[67, 76, 81, 89, 1, 1, 0, 2, 0, 3, 0, 0]⟩ := by decide

set_option maxRecDepth 100000 in
set_option maxHeartbeats 4000000 in
theorem sknown_any (w : World) (hE : ErrType w) :
    Calls Tryd.prog 7 #[] w fun e w' => e = .returned (.bool true) ∧ w.grownBy w' none := by
  have s0 := St.start hE
  have hm : (Instr.makeSlice 49 (.int .i64 65536) (.int .i64 65536)).run Tryd.prog w = .ok (.slice (some ⟨w.heap.size, 0, none⟩) 65536 65536) (w.alloc (.cells (zcells 65536) 5)) := make_zeros 65536 (by omega) w
  have hcv : (convert 49 9 (.slice (some ⟨w.heap.size, 0, none⟩) 65536 65536)).run Tryd.prog (w.alloc (.cells (zcells 65536) 5)) = .ok (.string (zs 65536)) (w.alloc (.cells (zcells 65536) 5)) := zeros_string (Blk.new w _ _)
  have hsz : (zs 65536).size = 65536 := zs_size 65536
  have s1 := s0.none_ (only_alloc (only_refl w none) (.cells (zcells 65536) 5))
  generalize zs 65536 = t at *
  generalize zcells 65536 = Z at *
  have hsx : ¬ (t.size + (⟨#[120]⟩ : ByteArray).size > 9223372036854775807) := by rw [hsz]; decide
  have hlen : t.data.toList.length = 65536 := by rw [bytes_len, hsz]
  have HJ := fun W => join_ok t t t (by omega) (by omega) (by omega) W
  have HL := fun W => join_long ⟨#[]⟩ (t ++ ⟨#[120]⟩) ⟨#[]⟩ (.inr (.inl (by rw [ByteArray.size_append, hsz]; decide))) W
  obtain ⟨J, hJ⟩ : ∃ J : ByteArray, J = ⟨(joined t.data.toList t.data.toList t.data.toList).toArray⟩ := ⟨_, rfl⟩
  rw [← hJ] at HJ
  have hJl : J.data.toList = joined t.data.toList t.data.toList t.data.toList := by rw [hJ]
  have hJs : J.size = 196625 := by
    rw [← bytes_len, hJl]
    simp only [joined, List.length_append, sec_len, hlen, sev_65536]
    rfl
  have hp3 : (partsOf t.data.toList t.data.toList t.data.toList).p3 = 131089 := by
    simp only [partsOf, hlen, sev_65536]
    rfl
  have HS := fun W hE => split_joined t t t J (by omega) (by omega) (by omega) hJl W hE
  rw [hp3] at HS
  clear s0 hE hJ hJl hp3 hlen
  go_enter Tryd.func7, Tryd.ntmps7
  go_wp2_with fail
  refine (HJ _).mono ?_
  clear HJ
  rintro e w2 ⟨rfl, g2⟩
  have s2 := s1.none_ g2
  clear s1 g2 hm hcv
  go_wp2_with fail
  refine (HL _).mono ?_
  clear HL
  rintro e w3 ⟨rfl, g3⟩
  have s3 := s2.none_ g3
  clear s2 g3
  go_wp2_with fail
  refine (HS _ s3.err).mono ?_
  clear HS
  rintro e w4 ⟨q1, q2, q3, rfl, k4⟩
  have s4 := s3.join k4
  rw [List.append_nil, List.append_nil] at s4
  have s5 := s4.none_ (only_alloc (only_refl w4 none) (.cells #[.pointer (some ⟨q1, 0, none⟩), .pointer (some ⟨q2, 0, none⟩), .pointer (some ⟨q3, 0, none⟩)] 37))
  clear s3 k4 s4
  go_wp2_with fail
  refine (rest_st (t := t) s5.tail.tail 131089 rfl).mono ?_
  rintro e w6 ⟨rfl, s6, _⟩
  clear s5
  go_wp2_with fail
  refine (sworks_any _ s6.err).mono ?_
  rintro e w7 ⟨rfl, g7⟩
  have s7 := s6.none_ g7
  clear s6 g7
  go_wp2_with fail
  refine (fails_any ⟨#[67, 76, 81, 89, 2]⟩ (by decide) (c := 6) (y := 4) sk_1 _ s7.err).mono ?_
  rintro e w8 ⟨rfl, g8⟩
  have s8 := s7.none_ g8
  clear s7 g8
  go_wp2_with fail
  refine (fails_any ⟨#[120, 76, 81, 89, 1]⟩ (by decide) (c := 6) (y := 0) sk_2 _ s8.err).mono ?_
  rintro e w9 ⟨rfl, g9⟩
  have s9 := s8.none_ g9
  clear s8 g9
  go_wp2_with fail
  simp only [kat_3]
  refine (fails_any ⟨#[67, 76, 81, 89, 1, 1, 128, 0]⟩ (by decide) (c := 5) (y := 6) sk_3 _ s9.err).mono ?_
  rintro e w10 ⟨rfl, g10⟩
  have s10 := s9.none_ g10
  clear s9 g10
  go_wp2_with fail
  simp only [kat_4]
  refine (fails_any ⟨#[67, 76, 81, 89, 1, 1, 129, 128, 4]⟩ (by decide) (c := 4) (y := 6) sk_4 _ s10.err).mono ?_
  rintro e w11 ⟨rfl, g11⟩
  have s11 := s10.none_ g11
  clear s10 g11
  go_wp2_with fail
  simp only [kat_5]
  refine (fails_any ⟨#[67, 76, 81, 89, 1, 1]⟩ (by decide) (c := 3) (y := 6) sk_5 _ s11.err).mono ?_
  rintro e w12 ⟨rfl, g12⟩
  have s12 := s11.none_ g12
  clear s11 g12
  go_wp2_with fail
  simp only [kat_6]
  refine (fails_any ⟨#[67, 76, 81, 89, 1, 1, 0, 1, 0]⟩ (by decide) (c := 7) (y := 7) sk_6 _ s12.err).mono ?_
  rintro e w13 ⟨rfl, g13⟩
  have s13 := s12.none_ g13
  clear s12 g13
  go_wp2_with fail
  simp only [kat_7]
  refine (fails_any ⟨#[67, 76, 81, 89, 1, 1, 0, 2, 0]⟩ (by decide) (c := 3) (y := 9) sk_7 _ s13.err).mono ?_
  rintro e w14 ⟨rfl, g14⟩
  have s14 := s13.none_ g14
  clear s13 g14
  go_wp2_with fail
  simp only [kat_8]
  refine (fails_any ⟨#[67, 76, 81, 89, 1, 1, 0, 2, 0, 3, 1]⟩ (by decide) (c := 3) (y := 11) sk_8 _ s14.err).mono ?_
  rintro e w15 ⟨rfl, g15⟩
  have s15 := s14.none_ g15
  clear s14 g15
  go_wp2_with fail
  simp only [kat_9]
  refine (fails_any ⟨#[67, 76, 81, 89, 1, 1, 0, 2, 0, 3, 0, 0]⟩ (by decide) (c := 4) (y := 11) sk_9 _ s15.err).mono ?_
  rintro e w16 ⟨rfl, g16⟩
  have s16 := s15.none_ g16
  clear s15 g16
  go_wp2_with fail
  go_ret
  exact ⟨rfl, s16.step⟩
end Go.Proofs.YtjjfofifooailaaDoor

/- colloquylaw03: works: the chapter's examples. -/
import Derived.Test.YtjjfofifooailaaDoorSecL
namespace Go.Proofs.YtjjfofifooailaaDoor
open Go.RowKit

theorem sev_0 : sev 0 = [0] := by rw [sev_lt (by omega)]; rfl
theorem sev_1 : sev 1 = [1] := by rw [sev_lt (by omega)]; rfl
theorem sev_2 : sev 2 = [2] := by rw [sev_lt (by omega)]; rfl
theorem sev_5' : sev 5 = [5] := by rw [sev_lt (by omega)]; rfl
theorem joined_m : joined [97] [] [98, 99] = [67, 76, 81, 89, 1, 1, 1, 97, 2, 0, 3, 2, 98, 99] := by
  simp [joined, sec, hd5, sev_0, sev_1, sev_2]
theorem parts_m : (partsOf [97] [] [98, 99]).p1 = 7 ∧ (partsOf [97] [] [98, 99]).p2 = 10 ∧ (partsOf [97] [] [98, 99]).p3 = 12 := by
  simp [partsOf, sev_0, sev_1, sev_2]
theorem head_hd5 (rest : List UInt8) : HeadOk (hd5 ++ rest) := fun j hj => List.getElem?_append_left (by simpa [hd5] using hj)

theorem sf_none : SplitFault [] 6 0 := .head 0 ⟨by omega, fun j hj => by omega, by decide⟩
theorem sf_clqx : SplitFault [67, 76, 81, 88] 6 3 := .head 3 ⟨by omega, fun j hj => by
  have : j = 0 ∨ j = 1 ∨ j = 2 := by omega
  rcases this with rfl | rfl | rfl <;> rfl, by decide⟩
theorem sf_head : SplitFault [67, 76, 81, 89, 1] 3 5 := .sec1 _ _ (head_hd5 []) (.lacks rfl)
theorem sf_more : SplitFault [67, 76, 81, 89, 1, 1, 1, 97, 2, 0, 3, 2, 98, 99, 120] 4 14 := by
  have := joined_long [97] [] [98, 99] [120] (by decide) (by decide) (by decide) (by decide)
  rw [joined_m] at this
  exact this
theorem sf_other : SplitFault [67, 76, 81, 89, 1, 2, 0] 7 5 := .sec1 _ _ (head_hd5 [2, 0]) (.other 2 rfl (by decide))
/-- One byte is a number. -/
theorem taken_small (u : UInt8) (l : List UInt8) (h : u.toNat < 128) : Taken (u :: l) 1 ∧ ¬ Bad ((u :: l).take 1) ∧ num ((u :: l).take 1) = u.toNat := by
  have hs : sev u.toNat = [u] := by
    rw [sev_lt h]
    congr 1
    apply UInt8.toNat_inj.1
    rw [u8_ofNat (by omega)]
  have hlt : u.toNat < 18446744073709551616 := by omega
  have h1 := taken_sev hlt l
  have h2 := good_sev hlt
  have h3 := num_sev u.toNat
  rw [hs] at h1 h2 h3
  exact ⟨h1, h2, h3⟩
theorem sf_short : SplitFault [67, 76, 81, 89, 1, 1, 5, 97] 3 7 := by
  obtain ⟨h1, h2, h3⟩ := taken_small 5 [97] (by decide)
  exact .sec1 _ _ (head_hd5 [1, 5, 97]) (.short (b := [67, 76, 81, 89, 1, 1, 5, 97]) (k := 1) (a := 5) 1 5 rfl h1 h2 h3 (by omega) (by decide))

theorem cat_m : (⟨#[67, 76, 81, 89, 1]⟩ ++ ⟨#[1, 1, 97, 2, 0, 3, 2, 98, 99]⟩ : ByteArray) = ⟨#[67, 76, 81, 89, 1, 1, 1, 97, 2, 0, 3, 2, 98, 99]⟩ := by decide
theorem cat_x : (⟨#[67, 76, 81, 89, 1, 1, 1, 97, 2, 0, 3, 2, 98, 99]⟩ ++ ⟨#[120]⟩ : ByteArray) = ⟨#[67, 76, 81, 89, 1, 1, 1, 97, 2, 0, 3, 2, 98, 99, 120]⟩ := by decide
theorem cat_o : (⟨#[67, 76, 81, 89, 1]⟩ ++ ⟨#[2, 0]⟩ : ByteArray) = ⟨#[67, 76, 81, 89, 1, 2, 0]⟩ := by decide
theorem cat_s : (⟨#[67, 76, 81, 89, 1]⟩ ++ ⟨#[1, 5, 97]⟩ : ByteArray) = ⟨#[67, 76, 81, 89, 1, 1, 5, 97]⟩ := by decide

set_option maxRecDepth 100000 in
set_option maxHeartbeats 4000000 in
theorem sworks_any (w : World) (hE : ErrType w) :
    Calls Tryd.prog 12 #[] w fun e w' => e = .returned (.bool true) ∧ w.grownBy w' none := by
  have s0 := St.start hE
  have HJ := join_ok ⟨#[97]⟩ ⟨#[]⟩ ⟨#[98, 99]⟩ (by decide) (by decide) (by decide) w
  rw [show joined (⟨#[97]⟩ : ByteArray).data.toList (⟨#[]⟩ : ByteArray).data.toList (⟨#[98, 99]⟩ : ByteArray).data.toList = [67, 76, 81, 89, 1, 1, 1, 97, 2, 0, 3, 2, 98, 99] from joined_m] at HJ
  go_enter Tryd.func12, Tryd.ntmps12
  go_wp2_with fail
  refine HJ.mono ?_
  clear HJ
  rintro e w1 ⟨rfl, g1⟩
  have s1 := s0.none_ g1
  clear s0 g1
  go_wp2_with fail
  simp only [cat_m]
  have HS := split_joined ⟨#[97]⟩ ⟨#[]⟩ ⟨#[98, 99]⟩ ⟨#[67, 76, 81, 89, 1, 1, 1, 97, 2, 0, 3, 2, 98, 99]⟩ (by decide) (by decide) (by decide) joined_m.symm w1 s1.err
  rw [show (partsOf (⟨#[97]⟩ : ByteArray).data.toList (⟨#[]⟩ : ByteArray).data.toList (⟨#[98, 99]⟩ : ByteArray).data.toList).p1 = 7 from parts_m.1, show (partsOf (⟨#[97]⟩ : ByteArray).data.toList (⟨#[]⟩ : ByteArray).data.toList (⟨#[98, 99]⟩ : ByteArray).data.toList).p2 = 10 from parts_m.2.1, show (partsOf (⟨#[97]⟩ : ByteArray).data.toList (⟨#[]⟩ : ByteArray).data.toList (⟨#[98, 99]⟩ : ByteArray).data.toList).p3 = 12 from parts_m.2.2] at HS
  refine HS.mono ?_
  clear HS
  rintro e w2 ⟨q1, q2, q3, rfl, k2⟩
  have s2 := s1.join k2
  rw [List.append_nil, List.append_nil] at s2
  have B := Blk.new w2 37 #[.pointer (some ⟨q1, 0, none⟩), .pointer (some ⟨q2, 0, none⟩), .pointer (some ⟨q3, 0, none⟩)]
  have s3 := s2.none_ (only_alloc (only_refl w2 none) (.cells #[.pointer (some ⟨q1, 0, none⟩), .pointer (some ⟨q2, 0, none⟩), .pointer (some ⟨q3, 0, none⟩)] 37))
  have hz : w.heap.size ≤ w2.heap.size := s2.step.size
  clear s1 k2 s2
  go_wp2_with fail
  refine (rest_st (t := ⟨#[97]⟩) s3 7 rfl).mono ?_
  rintro e w4 ⟨rfl, s4, k4⟩
  have B4 := k4 _ _ _ (by decide) B
  have c1 := B4.cell 1
  clear s3 k4 B
  go_wp2_with fail
  refine (rest_st (t := ⟨#[]⟩) s4 10 rfl).mono ?_
  rintro e w5 ⟨rfl, s5, k5⟩
  have B5 := k5 _ _ _ (by decide) B4
  have c2 := B5.cell 2
  clear s4 k5 B4 c1
  go_wp2_with fail
  refine (rest_st (t := ⟨#[98, 99]⟩) s5 12 rfl).mono ?_
  rintro e w6 ⟨rfl, s6, _⟩
  clear s5 B5 c2
  go_wp2_with fail
  refine (fails_any ⟨#[]⟩ (by decide) (c := 6) (y := 0) sf_none _ s6.err).mono ?_
  rintro e w7 ⟨rfl, g7⟩
  have s7 := s6.none_ g7
  clear s6 g7
  go_wp2_with fail
  refine (fails_any ⟨#[67, 76, 81, 88]⟩ (by decide) (c := 6) (y := 3) sf_clqx _ s7.err).mono ?_
  rintro e w8 ⟨rfl, g8⟩
  have s8 := s7.none_ g8
  clear s7 g8
  go_wp2_with fail
  refine (fails_any ⟨#[67, 76, 81, 89, 1]⟩ (by decide) (c := 3) (y := 5) sf_head _ s8.err).mono ?_
  rintro e w9 ⟨rfl, g9⟩
  have s9 := s8.none_ g9
  clear s8 g9
  go_wp2_with fail
  simp only [cat_x]
  refine (fails_any ⟨#[67, 76, 81, 89, 1, 1, 1, 97, 2, 0, 3, 2, 98, 99, 120]⟩ (by decide) (c := 4) (y := 14) sf_more _ s9.err).mono ?_
  rintro e w10 ⟨rfl, g10⟩
  have s10 := s9.none_ g10
  clear s9 g10
  go_wp2_with fail
  simp only [cat_o]
  refine (fails_any ⟨#[67, 76, 81, 89, 1, 2, 0]⟩ (by decide) (c := 7) (y := 5) sf_other _ s10.err).mono ?_
  rintro e w11 ⟨rfl, g11⟩
  have s11 := s10.none_ g11
  clear s10 g11
  go_wp2_with fail
  simp only [cat_s]
  refine (fails_any ⟨#[67, 76, 81, 89, 1, 1, 5, 97]⟩ (by decide) (c := 3) (y := 7) sf_short _ s11.err).mono ?_
  rintro e w12 ⟨rfl, g12⟩
  have s12 := s11.none_ g12
  clear s11 g12
  go_wp2_with fail
  go_ret
  exact ⟨rfl, s12.step⟩
end Go.Proofs.YtjjfofifooailaaDoor

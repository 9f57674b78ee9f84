/- works: the chapter's examples hold. -/
import Derived.Test.YtndkjlnajoblaaaDoorSt
namespace Go.Proofs.YtndkjlnajoblaaaDoor
open Go.RowKit

theorem place_step {w : World} {g : Nat} {bs : List UInt8} {at_ bg : Nat} (h : Rdr w g bs at_ bg) :
    Calls Tryd.prog 15 #[.pointer (some ⟨g, 0, none⟩)] w fun e w' => e = .returned (.int .i64 ((bg : Int) + (at_ : Int))) ∧ w.grownBy w' none :=
  (place_rdr h).mono fun _ _ ⟨h1, n, h2⟩ => ⟨h1, h2 ▸ only_drewN (only_refl _ _) n⟩
theorem left_step {w : World} {g : Nat} {bs : List UInt8} {at_ bg : Nat} (h : Rdr w g bs at_ bg) :
    Calls Tryd.prog 17 #[.pointer (some ⟨g, 0, none⟩)] w fun e w' => e = .returned (.int .i64 ((bs.length : Int) - (at_ : Int))) ∧ w.grownBy w' none :=
  (left_rdr h).mono fun _ _ ⟨h1, n, h2⟩ => ⟨h1, h2 ▸ only_drewN (only_refl _ _) n⟩

set_option maxRecDepth 100000 in
set_option maxHeartbeats 4000000 in
theorem works_any (w : World) (hE : ErrType w) :
    Calls Tryd.prog 21 #[] w fun e w' => e = .returned (.bool true) ∧ w.grownBy w' none := by
  have s0 := St.start hE
  go_enter Tryd.func21, Tryd.ntmps21
  go_wp2_with fail
  refine (newReader_any ⟨#[1, 2, 3]⟩ _ (by decide)).mono ?_
  rintro e w1 ⟨g1, rfl, hf, hs, hr⟩
  have s1 : St w w1 [⟨g1, [1, 2, 3], 0, 0⟩] [] := s0.new hf hs hr
  clear hf hs hr s0
  go_wp2_with fail
  refine (newReader_any ⟨#[1, 2, 3]⟩ _ (by decide)).mono ?_
  rintro e w2 ⟨g2, rfl, hf, hs, hr⟩
  have s2 : St w w2 [⟨g2, [1, 2, 3], 0, 0⟩, ⟨g1, [1, 2, 3], 0, 0⟩] [] := s1.new hf hs hr
  clear hf hs hr s1
  go_wp2_with fail
  refine (newReader_any ⟨#[1, 2, 3, 4]⟩ _ (by decide)).mono ?_
  rintro e w3 ⟨g3, rfl, hf, hs, hr⟩
  have s3 : St w w3 [⟨g1, [1, 2, 3], 0, 0⟩, ⟨g3, [1, 2, 3, 4], 0, 0⟩, ⟨g2, [1, 2, 3], 0, 0⟩] [] := (s2.new hf hs hr).third
  clear hf hs hr s2
  go_wp2_with fail
  have H : Calls Tryd.prog 8 #[.pointer (some ⟨g1, 0, none⟩)] _ (fun e w' => e = .returned (.tuple #[.int .u8 1, .nilIface]) ∧ World.grownBy _ w' (some g1) ∧ Rdr w' g1 [1, 2, 3] 1 0) := byte_ok s3.head 1 rfl
  refine H.mono ?_
  clear H
  rintro e w4 ⟨rfl, hs, hr⟩
  have s4 := s3.move hs hr
  clear hs hr s3
  go_wp2_with fail
  have H : Calls Tryd.prog 15 #[.pointer (some ⟨g1, 0, none⟩)] _ (fun e w' => e = .returned (.int .i64 1) ∧ World.grownBy _ w' none) := place_step s4.head
  refine H.mono ?_
  clear H
  rintro e w5 ⟨rfl, hs⟩
  have s5 := s4.none_ hs
  clear hs s4
  go_wp2_with fail
  have H : Calls Tryd.prog 17 #[.pointer (some ⟨g1, 0, none⟩)] _ (fun e w' => e = .returned (.int .i64 2) ∧ World.grownBy _ w' none) := left_step s5.head
  refine H.mono ?_
  clear H
  rintro e w6 ⟨rfl, hs⟩
  have s6 := s5.none_ hs
  clear hs s5
  go_wp2_with fail
  have H : Calls Tryd.prog 11 #[.pointer (some ⟨g1, 0, none⟩), .int .i64 2] _ (fun e w' => e = .returned (.tuple #[.string ⟨#[2, 3]⟩, .nilIface]) ∧ World.grownBy _ w' (some g1) ∧ Rdr w' g1 [1, 2, 3] 3 0) := take_ok s6.head 2 (by simp)
  refine H.mono ?_
  clear H
  rintro e w7 ⟨rfl, hs, hr⟩
  have s7 := (s6.move hs hr).third
  clear hs hr s6
  go_wp2_with fail
  have H : Calls Tryd.prog 11 #[.pointer (some ⟨g2, 0, none⟩), .int .i64 4] _ (fun e w' => ToldFault (.string ⟨#[]⟩) 3 0 _ e w') := take_short s7.head 4 (by simp)
  refine H.mono ?_
  clear H
  rintro e w8 ⟨fb1, rfl, hf, _, hs⟩
  have s8 := s7.fault hs hf
  clear hs hf s7
  go_wp2_with fail
  have H : Calls Tryd.prog 11 #[.pointer (some ⟨g2, 0, none⟩), .int .i64 (-1)] _ (fun e w' => ToldFault (.string ⟨#[]⟩) 2 0 _ e w') := take_neg s8.head (-1) (by simp)
  refine H.mono ?_
  clear H
  rintro e w9 ⟨fb2, rfl, hf, _, hs⟩
  have s9 := (s8.fault hs hf).third
  clear hs hf s8
  go_wp2_with fail
  have H : Calls Tryd.prog 8 #[.pointer (some ⟨g3, 0, none⟩)] _ (fun e w' => e = .returned (.tuple #[.int .u8 1, .nilIface]) ∧ World.grownBy _ w' (some g3) ∧ Rdr w' g3 [1, 2, 3, 4] 1 0) := byte_ok s9.head 1 rfl
  refine H.mono ?_
  clear H
  rintro e w10 ⟨rfl, hs, hr⟩
  have s10 := s9.move hs hr
  clear hs hr s9
  go_wp2_with fail
  have H : Calls Tryd.prog 13 #[.pointer (some ⟨g3, 0, none⟩), .int .i64 2] _ (fun e w' => PartOk g3 [1, 2, 3, 4] 1 0 2 _ e w') := part_ok s10.head 2 (by simp)
  refine H.mono ?_
  clear H
  rintro e w11 ⟨g4, rfl, hz, hs, hr, hp⟩
  have s11 : St w w11 [⟨g4, [2, 3], 0, 1⟩, ⟨g3, [1, 2, 3, 4], 3, 0⟩, ⟨g2, [1, 2, 3], 0, 0⟩, ⟨g1, [1, 2, 3], 3, 0⟩] [⟨fb2, 2, 0⟩, ⟨fb1, 3, 0⟩] := s10.part hz hs hr hp
  clear hz hs hr hp s10
  go_wp2_with fail
  have H : Calls Tryd.prog 15 #[.pointer (some ⟨g4, 0, none⟩)] _ (fun e w' => e = .returned (.int .i64 1) ∧ World.grownBy _ w' none) := place_step s11.head
  refine H.mono ?_
  clear H
  rintro e w12 ⟨rfl, hs⟩
  have s12 := s11.none_ hs
  clear hs s11
  go_wp2_with fail
  have H : Calls Tryd.prog 11 #[.pointer (some ⟨g4, 0, none⟩), .int .i64 2] _ (fun e w' => e = .returned (.tuple #[.string ⟨#[2, 3]⟩, .nilIface]) ∧ World.grownBy _ w' (some g4) ∧ Rdr w' g4 [2, 3] 2 1) := take_ok s12.head 2 (by simp)
  refine H.mono ?_
  clear H
  rintro e w13 ⟨rfl, hs, hr⟩
  have s13 := s12.move hs hr
  clear hs hr s12
  go_wp2_with fail
  have H : Calls Tryd.prog 8 #[.pointer (some ⟨g4, 0, none⟩)] _ (fun e w' => ToldFault (.int .u8 0) 3 3 _ e w') := byte_short s13.head rfl
  refine H.mono ?_
  clear H
  rintro e w14 ⟨fb3, rfl, hf, _, hs⟩
  have s14 := (s13.fault hs hf).tail.third
  clear hs hf s13
  go_wp2_with fail
  have H : Calls Tryd.prog 19 #[.pointer (some ⟨g1, 0, none⟩)] _ (fun e w' => e = .returned .nilIface ∧ World.grownBy _ w' none) := end_ok s14.head rfl
  refine H.mono ?_
  clear H
  rintro e w15 ⟨rfl, hs⟩
  have s15 := s14.none_ hs
  clear hs s14
  go_wp2_with fail
  have H : Calls Tryd.prog 10 #[.iface 66 (.pointer (some ⟨fb1, 0, none⟩)), .agg #[.int .i64 3, .int .i64 0]] _ (fun e w' => e = .returned (.bool true) ∧ World.grownBy _ w' none) := told_hit fb1 3 0 _ s15.err (s15.flt ⟨fb1, 3, 0⟩ (by simp)) rfl
  refine H.mono ?_
  clear H
  rintro e w16 ⟨rfl, hs⟩
  have s16 := s15.none_ hs
  clear hs s15
  go_wp2_with fail
  have H : Calls Tryd.prog 10 #[.iface 66 (.pointer (some ⟨fb2, 0, none⟩)), .agg #[.int .i64 2, .int .i64 0]] _ (fun e w' => e = .returned (.bool true) ∧ World.grownBy _ w' none) := told_hit fb2 2 0 _ s16.err (s16.flt ⟨fb2, 2, 0⟩ (by simp)) rfl
  refine H.mono ?_
  clear H
  rintro e w17 ⟨rfl, hs⟩
  have s17 := s16.none_ hs
  clear hs s16
  have s18 := s17.third
  clear s17
  go_wp2_with fail
  have H : Calls Tryd.prog 15 #[.pointer (some ⟨g2, 0, none⟩)] _ (fun e w' => e = .returned (.int .i64 0) ∧ World.grownBy _ w' none) := place_step s18.head
  refine H.mono ?_
  clear H
  rintro e w19 ⟨rfl, hs⟩
  have s19 := s18.none_ hs
  clear hs s18
  go_wp2_with fail
  have H : Calls Tryd.prog 19 #[.pointer (some ⟨g2, 0, none⟩)] _ (fun e w' => ToldFault1 4 0 _ e w') := end_long s19.head (by simp)
  refine H.mono ?_
  clear H
  rintro e w20 ⟨fb4, rfl, hf, _, hs⟩
  have s20 := s19.fault hs hf
  clear hs hf s19
  go_wp2_with fail
  have H : Calls Tryd.prog 10 #[.iface 66 (.pointer (some ⟨fb4, 0, none⟩)), .agg #[.int .i64 4, .int .i64 0]] _ (fun e w' => e = .returned (.bool true) ∧ World.grownBy _ w' none) := told_hit fb4 4 0 _ s20.err (s20.flt ⟨fb4, 4, 0⟩ (by simp)) rfl
  refine H.mono ?_
  clear H
  rintro e w21 ⟨rfl, hs⟩
  have s21 := s20.none_ hs
  clear hs s20
  go_wp2_with fail
  have H : Calls Tryd.prog 10 #[.iface 66 (.pointer (some ⟨fb3, 0, none⟩)), .agg #[.int .i64 3, .int .i64 3]] _ (fun e w' => e = .returned (.bool true) ∧ World.grownBy _ w' none) := told_hit fb3 3 3 _ s21.err (s21.flt ⟨fb3, 3, 3⟩ (by simp)) rfl
  refine H.mono ?_
  clear H
  rintro e w22 ⟨rfl, hs⟩
  have s22 := s21.none_ hs
  clear hs s21
  have s23 := s22.third
  clear s22
  go_wp2_with fail
  have H : Calls Tryd.prog 15 #[.pointer (some ⟨g3, 0, none⟩)] _ (fun e w' => e = .returned (.int .i64 3) ∧ World.grownBy _ w' none) := place_step s23.head
  refine H.mono ?_
  clear H
  rintro e w24 ⟨rfl, hs⟩
  have s24 := s23.none_ hs
  clear hs s23
  go_wp2_with fail
  go_ret
  exact ⟨rfl, s24.step⟩
end Go.Proofs.YtndkjlnajoblaaaDoor

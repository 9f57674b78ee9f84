/- sect: takeHead. -/
import Derived.Test.YtjjfofifooailaaDoorSecU
namespace Go.Proofs.YtjjfofifooailaaDoor
open Go.RowKit

set_option maxRecDepth 100000 in
set_option maxHeartbeats 2000000 in
theorem takeHead_ok {w : World} {g : Nat} {b : List UInt8} (h : Rdr w g b 0 0) (hh : HeadOk b) :
    Calls Tryd.prog 29 #[.pointer (some ⟨g, 0, none⟩)] w fun e w' => e = .returned .nilIface ∧ w.grownBy w' (some g) ∧ Rdr w' g b 5 0 := by
  have b0 : b[0]? = some 67 := hh 0 (by omega)
  have b1 : b[1]? = some 76 := hh 1 (by omega)
  have b2 : b[2]? = some 81 := hh 2 (by omega)
  have b3 : b[3]? = some 89 := hh 3 (by omega)
  have b4 : b[4]? = some 1 := hh 4 (by omega)
  have hg0 := only_refl w (some g)
  clear hh
  go_enter Tryd.func29, Tryd.ntmps29
  go_wp2_with fail
  refine wp_loop_rounds 6 ?_
  rw [rounds_succ]
  go_wp2_with fail
  refine (expect_ok h 67 67 rfl b0 6 6).mono ?_
  rintro e w1 ⟨rfl, k1, r1⟩
  have hg1 := only_trans hg0 k1
  clear h hg0 k1 b0
  go_wp2_with fail
  rw [rounds_succ]
  go_wp2_with fail
  refine (expect_ok r1 76 76 rfl b1 6 6).mono ?_
  rintro e w2 ⟨rfl, k2, r2⟩
  have hg2 := only_trans hg1 k2
  clear r1 hg1 k2 b1
  go_wp2_with fail
  rw [rounds_succ]
  go_wp2_with fail
  refine (expect_ok r2 81 81 rfl b2 6 6).mono ?_
  rintro e w3 ⟨rfl, k3, r3⟩
  have hg3 := only_trans hg2 k3
  clear r2 hg2 k3 b2
  go_wp2_with fail
  rw [rounds_succ]
  go_wp2_with fail
  refine (expect_ok r3 89 89 rfl b3 6 6).mono ?_
  rintro e w4 ⟨rfl, k4, r4⟩
  have hg4 := only_trans hg3 k4
  clear r3 hg3 k4 b3
  go_wp2_with fail
  rw [rounds_succ]
  go_wp2_with fail
  refine (expect_ok r4 1 1 rfl b4 6 6).mono ?_
  rintro e w5 ⟨rfl, k5, r5⟩
  have hg5 := only_trans hg4 k5
  clear r4 hg4 k5 b4
  go_wp2_with fail
  rw [rounds_succ]
  go_wp2_with fail
  go_ret
  exact ⟨rfl, hg5, r5⟩

def HeadToldFault (g : Nat) (b : List UInt8) (x : Int) (w : World) (e : Ending) (w' : World) : Prop :=
  ∃ fb, e = .returned (.iface 74 (.pointer (some ⟨fb, 0, none⟩))) ∧ Flt w' fb 6 x ∧ w.grownBy w' (some g) ∧ ∃ a, Rdr w' g b a 0
theorem expect_not {w : World} {g a : Nat} {b : List UInt8} (h : Rdr w g b a 0) (u : UInt8) (v : Int) (hv : v = (u.toNat : Int)) (hn : b[a]? ≠ some u) :
    Calls Tryd.prog 44 #[.pointer (some ⟨g, 0, none⟩), .int .u8 v, .int .i64 6, .int .i64 6] w (HeadToldFault g b (a : Int) w) := by
  by_cases hl : a = b.length
  · exact (expect_lack h hl v 6 6).mono fun _ _ ⟨fb, h1, h2, _, h4⟩ => ⟨fb, h1, by simpa using h2, only_weak h4 _, a, h.kept h4⟩
  · have hlt : a < b.length := by have := h.le; omega
    refine (expect_other h b[a] (List.getElem?_eq_getElem hlt) v (fun e => hn ?_) 6 6).mono fun _ _ ⟨fb, h1, h2, _, h4, h5⟩ => ⟨fb, h1, by simpa using h2, h4, a + 1, h5⟩
    rw [List.getElem?_eq_getElem hlt]
    congr 1
    apply UInt8.toNat_inj.1
    omega

set_option maxRecDepth 100000 in
set_option maxHeartbeats 2000000 in
theorem takeHead_0 {w : World} {g : Nat} {b : List UInt8} (h : Rdr w g b 0 0) (hh : HeadFault b 0) :
    Calls Tryd.prog 29 #[.pointer (some ⟨g, 0, none⟩)] w (HeadToldFault g b (0 : Nat) w) := by
  have nb : b[0]? ≠ some 67 := hh.here
  have hg0 := only_refl w (some g)
  clear hh
  go_enter Tryd.func29, Tryd.ntmps29
  go_wp2_with fail
  refine wp_loop_rounds 6 ?_
  rw [rounds_succ]
  go_wp2_with fail
  refine (expect_not h 67 67 rfl nb).mono ?_
  rintro e wf ⟨fb, rfl, hf, kf, a, rf⟩
  have hF := Lib.hid hf
  have hgf := only_trans hg0 kf
  clear h hg0 kf nb hf
  go_wp2_with fail
  go_ret
  exact ⟨fb, rfl, hF.out, hgf, a, rf⟩

set_option maxRecDepth 100000 in
set_option maxHeartbeats 2000000 in
theorem takeHead_1 {w : World} {g : Nat} {b : List UInt8} (h : Rdr w g b 0 0) (hh : HeadFault b 1) :
    Calls Tryd.prog 29 #[.pointer (some ⟨g, 0, none⟩)] w (HeadToldFault g b (1 : Nat) w) := by
  have b0 : b[0]? = some 67 := hh.ahead 0 (by omega)
  have nb : b[1]? ≠ some 76 := hh.here
  have hg0 := only_refl w (some g)
  clear hh
  go_enter Tryd.func29, Tryd.ntmps29
  go_wp2_with fail
  refine wp_loop_rounds 6 ?_
  rw [rounds_succ]
  go_wp2_with fail
  refine (expect_ok h 67 67 rfl b0 6 6).mono ?_
  rintro e w1 ⟨rfl, k1, r1⟩
  have hg1 := only_trans hg0 k1
  clear h hg0 k1 b0
  go_wp2_with fail
  rw [rounds_succ]
  go_wp2_with fail
  refine (expect_not r1 76 76 rfl nb).mono ?_
  rintro e wf ⟨fb, rfl, hf, kf, a, rf⟩
  have hF := Lib.hid hf
  have hgf := only_trans hg1 kf
  clear r1 hg1 kf nb hf
  go_wp2_with fail
  go_ret
  exact ⟨fb, rfl, hF.out, hgf, a, rf⟩

set_option maxRecDepth 100000 in
set_option maxHeartbeats 2000000 in
theorem takeHead_2 {w : World} {g : Nat} {b : List UInt8} (h : Rdr w g b 0 0) (hh : HeadFault b 2) :
    Calls Tryd.prog 29 #[.pointer (some ⟨g, 0, none⟩)] w (HeadToldFault g b (2 : Nat) w) := by
  have b0 : b[0]? = some 67 := hh.ahead 0 (by omega)
  have b1 : b[1]? = some 76 := hh.ahead 1 (by omega)
  have nb : b[2]? ≠ some 81 := hh.here
  have hg0 := only_refl w (some g)
  clear hh
  go_enter Tryd.func29, Tryd.ntmps29
  go_wp2_with fail
  refine wp_loop_rounds 6 ?_
  rw [rounds_succ]
  go_wp2_with fail
  refine (expect_ok h 67 67 rfl b0 6 6).mono ?_
  rintro e w1 ⟨rfl, k1, r1⟩
  have hg1 := only_trans hg0 k1
  clear h hg0 k1 b0
  go_wp2_with fail
  rw [rounds_succ]
  go_wp2_with fail
  refine (expect_ok r1 76 76 rfl b1 6 6).mono ?_
  rintro e w2 ⟨rfl, k2, r2⟩
  have hg2 := only_trans hg1 k2
  clear r1 hg1 k2 b1
  go_wp2_with fail
  rw [rounds_succ]
  go_wp2_with fail
  refine (expect_not r2 81 81 rfl nb).mono ?_
  rintro e wf ⟨fb, rfl, hf, kf, a, rf⟩
  have hF := Lib.hid hf
  have hgf := only_trans hg2 kf
  clear r2 hg2 kf nb hf
  go_wp2_with fail
  go_ret
  exact ⟨fb, rfl, hF.out, hgf, a, rf⟩

set_option maxRecDepth 100000 in
set_option maxHeartbeats 2000000 in
theorem takeHead_3 {w : World} {g : Nat} {b : List UInt8} (h : Rdr w g b 0 0) (hh : HeadFault b 3) :
    Calls Tryd.prog 29 #[.pointer (some ⟨g, 0, none⟩)] w (HeadToldFault g b (3 : Nat) w) := by
  have b0 : b[0]? = some 67 := hh.ahead 0 (by omega)
  have b1 : b[1]? = some 76 := hh.ahead 1 (by omega)
  have b2 : b[2]? = some 81 := hh.ahead 2 (by omega)
  have nb : b[3]? ≠ some 89 := hh.here
  have hg0 := only_refl w (some g)
  clear hh
  go_enter Tryd.func29, Tryd.ntmps29
  go_wp2_with fail
  refine wp_loop_rounds 6 ?_
  rw [rounds_succ]
  go_wp2_with fail
  refine (expect_ok h 67 67 rfl b0 6 6).mono ?_
  rintro e w1 ⟨rfl, k1, r1⟩
  have hg1 := only_trans hg0 k1
  clear h hg0 k1 b0
  go_wp2_with fail
  rw [rounds_succ]
  go_wp2_with fail
  refine (expect_ok r1 76 76 rfl b1 6 6).mono ?_
  rintro e w2 ⟨rfl, k2, r2⟩
  have hg2 := only_trans hg1 k2
  clear r1 hg1 k2 b1
  go_wp2_with fail
  rw [rounds_succ]
  go_wp2_with fail
  refine (expect_ok r2 81 81 rfl b2 6 6).mono ?_
  rintro e w3 ⟨rfl, k3, r3⟩
  have hg3 := only_trans hg2 k3
  clear r2 hg2 k3 b2
  go_wp2_with fail
  rw [rounds_succ]
  go_wp2_with fail
  refine (expect_not r3 89 89 rfl nb).mono ?_
  rintro e wf ⟨fb, rfl, hf, kf, a, rf⟩
  have hF := Lib.hid hf
  have hgf := only_trans hg3 kf
  clear r3 hg3 kf nb hf
  go_wp2_with fail
  go_ret
  exact ⟨fb, rfl, hF.out, hgf, a, rf⟩

set_option maxRecDepth 100000 in
set_option maxHeartbeats 2000000 in
theorem takeHead_4 {w : World} {g : Nat} {b : List UInt8} (h : Rdr w g b 0 0) (hh : HeadFault b 4) :
    Calls Tryd.prog 29 #[.pointer (some ⟨g, 0, none⟩)] w (HeadToldFault g b (4 : Nat) w) := by
  have b0 : b[0]? = some 67 := hh.ahead 0 (by omega)
  have b1 : b[1]? = some 76 := hh.ahead 1 (by omega)
  have b2 : b[2]? = some 81 := hh.ahead 2 (by omega)
  have b3 : b[3]? = some 89 := hh.ahead 3 (by omega)
  have nb : b[4]? ≠ some 1 := hh.here
  have hg0 := only_refl w (some g)
  clear hh
  go_enter Tryd.func29, Tryd.ntmps29
  go_wp2_with fail
  refine wp_loop_rounds 6 ?_
  rw [rounds_succ]
  go_wp2_with fail
  refine (expect_ok h 67 67 rfl b0 6 6).mono ?_
  rintro e w1 ⟨rfl, k1, r1⟩
  have hg1 := only_trans hg0 k1
  clear h hg0 k1 b0
  go_wp2_with fail
  rw [rounds_succ]
  go_wp2_with fail
  refine (expect_ok r1 76 76 rfl b1 6 6).mono ?_
  rintro e w2 ⟨rfl, k2, r2⟩
  have hg2 := only_trans hg1 k2
  clear r1 hg1 k2 b1
  go_wp2_with fail
  rw [rounds_succ]
  go_wp2_with fail
  refine (expect_ok r2 81 81 rfl b2 6 6).mono ?_
  rintro e w3 ⟨rfl, k3, r3⟩
  have hg3 := only_trans hg2 k3
  clear r2 hg2 k3 b2
  go_wp2_with fail
  rw [rounds_succ]
  go_wp2_with fail
  refine (expect_ok r3 89 89 rfl b3 6 6).mono ?_
  rintro e w4 ⟨rfl, k4, r4⟩
  have hg4 := only_trans hg3 k4
  clear r3 hg3 k4 b3
  go_wp2_with fail
  rw [rounds_succ]
  go_wp2_with fail
  refine (expect_not r4 1 1 rfl nb).mono ?_
  rintro e wf ⟨fb, rfl, hf, kf, a, rf⟩
  have hF := Lib.hid hf
  have hgf := only_trans hg4 kf
  clear r4 hg4 kf nb hf
  go_wp2_with fail
  go_ret
  exact ⟨fb, rfl, hF.out, hgf, a, rf⟩

theorem takeHead_fault {w : World} {g : Nat} {b : List UInt8} (h : Rdr w g b 0 0) (i : Nat) (hh : HeadFault b i) :
    Calls Tryd.prog 29 #[.pointer (some ⟨g, 0, none⟩)] w (HeadToldFault g b (i : Int) w) := by
  have hi := hh.lt
  match i, hi with
  | 0, _ => exact takeHead_0 h hh
  | 1, _ => exact takeHead_1 h hh
  | 2, _ => exact takeHead_2 h hh
  | 3, _ => exact takeHead_3 h hh
  | 4, _ => exact takeHead_4 h hh
end Go.Proofs.YtjjfofifooailaaDoor

/- colloquylaw03.SectJoins' walk. -/
import Derived.Test.YtjjfofifooailaaDoorSecR
import Derived.Test.YtjjfofifooailaaDoorSecK
import Derived.Test.YtjjfofifooailaaDoorSecX
namespace Go.Proofs.YtjjfofifooailaaDoor
open Go.RowKit

def three (t1 t2 t3 : ByteArray) : Nat → ByteArray
  | 0 => t1
  | 1 => t2
  | _ => t3
theorem rjoin_3 (t1 t2 t3 : ByteArray) (h1 : t1.size ≤ 65536) (h2 : t2.size ≤ 65536) (h3 : t3.size ≤ 65536) (w : World) :
    Calls Tryd.prog 8 #[.agg #[.string t1, .string t2, .string t3]] w fun e w' => e = .returned (.tuple #[.string ⟨(joined t1.data.toList t2.data.toList t3.data.toList).toArray⟩, .int .i64 0]) ∧ w.grownBy w' none :=
  rjoin_ok (three t1 t2 t3) (fun k => by
    match k with
    | 0 => exact h1
    | 1 => exact h2
    | _ + 2 => exact h3) w
set_option maxRecDepth 100000 in
set_option maxHeartbeats 4000000 in
theorem rjoin_long (t1 t2 t3 : ByteArray) (h1 : 65536 < t1.size) (w : World) :
    Calls Tryd.prog 8 #[.agg #[.string t1, .string t2, .string t3]] w fun e w' => e = .returned (.tuple #[.string ⟨#[]⟩, .int .i64 4]) ∧ w.grownBy w' none := by
  have c0 := (Blk.new w 22 #[.string t1, .string t2, .string t3]).cell 0
  have h1' : (65536 : Int) < (t1.size : Int) := by omega
  clear h1
  go_enter Tryd.func8, Tryd.ntmps8
  go_wp2_with fail
  refine wp_loop_rounds 4 ?_
  rw [rounds_succ]
  go_wp2_with fail
  go_ret2
  exact ⟨rfl, only_alloc (only_refl _ _) _⟩

set_option maxRecDepth 100000 in
set_option maxHeartbeats 4000000 in
theorem sjoins_any (s1 s2 s3 : ByteArray) (z : Int) (hz0 : 0 ≤ z) (hz : z < 4294967296) (w : World) (hE : ErrType w) :
    Calls Tryd.prog 4 #[.agg #[.string s1, .string s2, .string s3], .int .u32 z] w fun e w' => e = .returned (.bool true) ∧ w.grownBy w' none := by
  have s0 := (St.start hE).none_ (only_alloc (only_refl w none) (.cells #[.string s1, .string s2, .string s3] 22))
  have HT := fun W => texts_any s1 s2 s3 z hz0 hz W
  go_enter Tryd.func4, Tryd.ntmps4
  go_wp2_with fail
  refine (HT _).mono ?_
  clear HT
  rintro e w1 ⟨u1, u2, u3, rfl, h1, h2, h3, g1⟩
  have s1' := (s0.none_ g1).none_ (only_alloc (only_refl w1 none) (.cells #[.string u1, .string u2, .string u3] 22))
  have B1 := Blk.new w1 22 #[.string u1, .string u2, .string u3]
  clear s0 g1 h1
  go_wp2_with fail
  by_cases hl : u1.size ≤ 65536
  · have HJ := fun W => join_ok u1 u2 u3 hl (by omega) (by omega) W
    have HR := fun W => rjoin_3 u1 u2 u3 hl (by omega) (by omega) W
    clear h2 h3 hl
    generalize (⟨(joined u1.data.toList u2.data.toList u3.data.toList).toArray⟩ : ByteArray) = J at *
    refine (HJ _).mono ?_
    clear HJ
    rintro e w2 ⟨rfl, g2⟩
    have s2' := s1'.none_ g2
    have B2 := B1.kept g2
    have c0 := B2.cell 0
    have c1 := B2.cell 1
    have c2 := B2.cell 2
    clear s1' g2 B1 B2
    go_wp2_with fail
    refine (HR _).mono ?_
    clear HR c0 c1 c2
    rintro e w3 ⟨rfl, g3⟩
    have s3' := s2'.none_ g3
    clear s2' g3
    go_wp2_with fail
    refine (sworks_any _ s3'.err).mono ?_
    rintro e w4 ⟨rfl, g4⟩
    have s4 := s3'.none_ g4
    clear s3' g4
    go_wp2_with fail
    go_ret
    exact ⟨rfl, s4.step⟩
  · have HJ := fun W => join_long u1 u2 u3 (.inl (by omega)) W
    have HR := fun W => rjoin_long u1 u2 u3 (by omega) W
    clear h2 h3 hl
    refine (HJ _).mono ?_
    clear HJ
    rintro e w2 ⟨rfl, g2⟩
    have s2' := s1'.none_ g2
    have B2 := B1.kept g2
    have c0 := B2.cell 0
    have c1 := B2.cell 1
    have c2 := B2.cell 2
    clear s1' g2 B1 B2
    go_wp2_with fail
    refine (HR _).mono ?_
    clear HR c0 c1 c2
    rintro e w3 ⟨rfl, g3⟩
    have s3' := s2'.none_ g3
    clear s2' g3
    go_wp2_with fail
    refine (sworks_any _ s3'.err).mono ?_
    rintro e w4 ⟨rfl, g4⟩
    have s4 := s3'.none_ g4
    clear s3' g4
    go_wp2_with fail
    go_ret
    exact ⟨rfl, s4.step⟩
end Go.Proofs.YtjjfofifooailaaDoor

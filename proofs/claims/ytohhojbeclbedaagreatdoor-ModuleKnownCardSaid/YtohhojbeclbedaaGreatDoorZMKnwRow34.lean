/- Texts joined for the claim's sake: MPuE. -/
import Derived.Test.YtohhojbeclbedaaGreatDoorZMKnwRow29
namespace Go.Proofs.YtohhojbeclbedaaGreatDoor
open Go.RowKit

set_option maxRecDepth 100000 in
set_option maxHeartbeats 8000000 in
theorem mmore_any (k prio : Int) (b : Bool) (to sh : Int) (l : List Edg) (A : Option Addr) (n c : Nat) (hn : l.length = n) (w : World) (o : Bool) (ho : moreB ⟨k, prio, b, ⟨to, sh⟩, l⟩ = o) : Calls Tryz.prog 126 #[.agg #[.int .i64 k, .int .i64 prio, .bool b, .int .i64 to, .int .i64 sh, .slice A n c]] w fun e w' => e = .returned (.bool o) ∧ w.grownBy w' none := by
  have hg0 : w.grownBy (w.alloc (.cells #[.int .i64 k, .int .i64 prio, .bool b, .int .i64 to, .int .i64 sh, .slice A n c] 65)) none := only_alloc (only_refl _ _) _
  have HG := Lib.hid hg0
  have HX := Lib.hid (Blk.new w 65 #[.int .i64 k, .int .i64 prio, .bool b, .int .i64 to, .int .i64 sh, .slice A n c])
  have HO : Hid (o = moreB ⟨k, prio, b, ⟨to, sh⟩, l⟩) := Lib.hid ho.symm
  have HN := Lib.hid hn
  clear hg0 ho hn
  go_enter Tryz.func126, Tryz.ntmps126
  go_upto_region 1 with fail
  generalize w.alloc (.cells #[.int .i64 k, .int .i64 prio, .bool b, .int .i64 to, .int .i64 sh, .slice A n c] 65) = W1 at *
  generalize w.heap.size = bx at *
  have c0 : W1.cell? ⟨bx, 0, none⟩ = some (.int .i64 k) := HX.out.cell 0
  have c1 : W1.cell? ⟨bx, 1, none⟩ = some (.int .i64 prio) := HX.out.cell 1
  have c2 : W1.cell? ⟨bx, 2, none⟩ = some (.bool b) := HX.out.cell 2
  have c3 : W1.cell? ⟨bx, 3, none⟩ = some (.int .i64 to) := HX.out.cell 3
  have c4 : W1.cell? ⟨bx, 4, none⟩ = some (.int .i64 sh) := HX.out.cell 4
  have c5 : W1.cell? ⟨bx, 5, none⟩ = some (.slice A n c) := HX.out.cell 5
  by_cases h1 : k = 1
  · subst h1
    cases b
    all_goals
      go_wp2_with fail
    all_goals
      have e1 := HO.out
      have e2 := HN.out
      go_ret
      refine ⟨?_, HG.out⟩
      rw [e1]
      simp_all [moreB]
  by_cases h2 : k = 2
  · subst h2
    cases b
    all_goals
      go_wp2_with fail
    all_goals
      have e1 := HO.out
      have e2 := HN.out
      go_ret
      refine ⟨?_, HG.out⟩
      rw [e1]
      simp_all [moreB]
  by_cases h3 : k = 3
  · subst h3
    cases b
    all_goals
      go_wp2_with fail
    all_goals
      have e1 := HO.out
      have e2 := HN.out
      go_ret
      refine ⟨?_, HG.out⟩
      rw [e1]
      simp_all [moreB]
  by_cases h4 : k = 4
  · subst h4
    cases b
    all_goals
      go_wp2_with fail
    all_goals
      have e1 := HO.out
      have e2 := HN.out
      go_ret
      refine ⟨?_, HG.out⟩
      rw [e1]
      simp_all [moreB]
  by_cases h5 : k = 5
  · subst h5
    cases b
    all_goals
      go_wp2_with fail
    all_goals
      have e1 := HO.out
      have e2 := HN.out
      go_ret
      refine ⟨?_, HG.out⟩
      rw [e1]
      simp_all [moreB]
  · have e1 : (k == 1) = false := beq_eq_false_iff_ne.2 h1
    have e2 : (k == 2) = false := beq_eq_false_iff_ne.2 h2
    have e3 : (k == 3) = false := beq_eq_false_iff_ne.2 h3
    have e4 : (k == 4) = false := beq_eq_false_iff_ne.2 h4
    have e5 : (k == 5) = false := beq_eq_false_iff_ne.2 h5
    cases b
    all_goals
      go_wp2_with fail
    all_goals
      have e11 := HO.out
      have e12 := HN.out
      go_ret
      refine ⟨?_, HG.out⟩
      rw [e11]
      simp_all [moreB]
end Go.Proofs.YtohhojbeclbedaaGreatDoor

/- Texts joined for the claim's sake: ICvr. -/
import Derived.Test.YtohhojbeclbedaaGreatDoorZMKnwRow13
namespace Go.Proofs.YtohhojbeclbedaaGreatDoor
open Go.RowKit

theorem covers_iff (f : Fm) (x : Ins) : coversA f x = true ↔ (f.hasA = true ∨ x.a = 0) ∧ (f.b.is0 = false ∨ x.b = 0) ∧ (f.c.is0 = false ∨ x.c = 0) ∧ (f.d.is0 = false ∨ x.d = 0) ∧ f.least ≤ x.l.length ∧ x.l.length ≤ f.most := by
  simp [coversA, and_assoc]
theorem bool_is {p q : Bool} (h : p = true ↔ q = true) : Ending.returned (.bool p) = .returned (.bool q) := by rw [Bool.eq_iff_iff.2 h]

set_option maxRecDepth 100000 in
set_option maxHeartbeats 4000000 in
theorem covers_any (c : Kl) (s : Sg) (op : Int) (A : Option Addr) (n cp : Nat) (hl : s.lv = .slice A n cp) (hn : s.l.length = n) (w : World) :
    Calls Tryz.prog 174 #[.agg (fmC (fmOf c)), .agg (s.cells op)] w fun e w' => e = .returned (.bool (coversA (fmOf c) (s.ins op))) ∧ w.grownBy w' none := by
  obtain ⟨a, b, cc, d, lv, l⟩ := s
  dsimp only at hl hn
  subst hl hn
  have hg : ∀ O1 O2 O3, w.grownBy (((w.alloc O1).alloc O2).alloc O3) none := fun O1 O2 O3 => only_alloc (only_alloc (only_alloc (only_refl _ _) _) _) _
  have HG := Lib.hid hg
  clear hg
  unfold Sg.cells
  have hr := covers_iff (fmOf c) (Sg.ins ⟨a, b, cc, d, .slice A l.length cp, l⟩ op)
  dsimp only [Sg.ins] at hr
  unfold Sg.ins
  generalize coversA (fmOf c) _ = r at hr ⊢
  generalize l.length = n at *
  cases c
  all_goals
    simp only [fmOf, fmC, k0, kR, Kd.is0] at hr ⊢
    have HR := Lib.hid hr
    clear hr
    go_enter Tryz.func174, Tryz.ntmps174
    go_wp2
    all_goals
      go_ret
      refine ⟨bool_is ?_, HG.out _ _ _⟩
      rw [HR.out]
      simp [*] <;> omega
end Go.Proofs.YtohhojbeclbedaaGreatDoor

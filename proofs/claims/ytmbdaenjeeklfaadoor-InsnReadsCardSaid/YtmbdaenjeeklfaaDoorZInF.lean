/- Texts joined for the claim's sake: ICvr, IChk. -/
import Derived.Test.YtmbdaenjeeklfaaDoorZInB
import Derived.Test.YtmbdaenjeeklfaaDoorZInE
/- insn: covers: what it answers. -/
namespace Go.Proofs.YtmbdaenjeeklfaaDoor
open Go.RowKit

theorem covers_iff (f : Fm) (x : Ins) : coversA f x = true ↔ (f.hasA = true ∨ x.a = 0) ∧ (f.b.is0 = false ∨ x.b = 0) ∧ (f.c.is0 = false ∨ x.c = 0) ∧ (f.d.is0 = false ∨ x.d = 0) ∧ f.least ≤ x.l.length ∧ x.l.length ≤ f.most := by
  simp [coversA, and_assoc]
theorem bool_is {p q : Bool} (h : p = true ↔ q = true) : Ending.returned (.bool p) = .returned (.bool q) := by rw [Bool.eq_iff_iff.2 h]

set_option maxRecDepth 100000 in
set_option maxHeartbeats 4000000 in
theorem covers_any (c : Kl) (s : Sg) (op : Int) (A : Option Addr) (n cp : Nat) (hl : s.lv = .slice A n cp) (hn : s.l.length = n) (w : World) :
    Calls Tryd.prog 41 #[.agg (fmC (fmOf c)), .agg (s.cells op)] w fun e w' => e = .returned (.bool (coversA (fmOf c) (s.ins op))) ∧ w.grownBy w' none := by
  obtain ⟨a, b, cc, d, lv, l⟩ := s
  dsimp only at hl hn
  subst hl hn
  have hg : ∀ O1 O2 O3, w.grownBy (((w.alloc O1).alloc O2).alloc O3) none := fun O1 O2 O3 => only_alloc (only_alloc (only_alloc (only_refl _ _) _) _) _
  have HG := Lib.hid hg
  clear hg
  unfold Sg.cells
  have hr := covers_iff (fmOf c) (Sg.ins ⟨a, b, cc, d, .slice A l.length cp, l⟩ op)
  dsimp only [Sg.ins] at hr
  unfold Sg.ins
  generalize coversA (fmOf c) _ = r at hr ⊢
  generalize l.length = n at *
  cases c
  all_goals
    simp only [fmOf, fmC, k0, kR, Kd.is0] at hr ⊢
    have HR := Lib.hid hr
    clear hr
    go_enter Tryd.func41, Tryd.ntmps41
    go_wp2
    all_goals
      go_ret
      refine ⟨bool_is ?_, HG.out _ _ _⟩
      rw [HR.out]
      simp [*] <;> omega
end Go.Proofs.YtmbdaenjeeklfaaDoor

/- insn: Check: whether an instruction may be. -/
namespace Go.Proofs.YtmbdaenjeeklfaaDoor
open Go.RowKit

theorem chk_eq (c : Kl) (x : Ins) : chkC c x = if isOp c = true then (if coversA (fmOf c) x = true then (if wrongF (fmOf c) x [] (hdF c ++ els x.l.length) = true then 2 else 0) else 2) else 11 := by
  have H : ∀ (p q : Bool), (if (p && !q) = true then (0 : Int) else 2) = if p = true then (if q = true then 2 else 0) else 2 := by
    intro p q; cases p <;> cases q <;> rfl
  cases c
  case no => rfl
  all_goals exact H _ _
theorem cov_parts {c : Kl} {x : Ins} (h : coversA (fmOf c) x = true) : ((fmOf c).most = x.l.length ∨ Fld.N ∈ hdF c) ∧ x.l.length ≤ 8 := by
  obtain ⟨_, _, _, _, h1, h2⟩ := (covers_iff _ _).1 h
  refine ⟨?_, ?_⟩
  · cases c <;> simp [fmOf, hdF] at h1 h2 ⊢ <;> first | omega | (rw [h2]; rfl)
  · cases c <;> simp [fmOf] at h2 <;> first | omega | (rw [h2]; simp)
theorem hd_le (c : Kl) : (hdF c).length ≤ 10 := by cases c <;> simp [hdF]

set_option maxRecDepth 100000 in
set_option maxHeartbeats 4000000 in
theorem check_any (s : Sg) (op : Int) (w : World) (hl : IntsA (fun b => b < w.heap.size) w s.lv s.l) :
    Calls Tryd.prog 13 #[.agg (s.cells op)] w fun e w' => e = .returned (.int .i64 (chkI (s.ins op))) ∧ w.grownBy w' none := by
  have hchk : chkI (s.ins op) = _ := chk_eq (clI op) (s.ins op)
  rw [hchk]
  have HF := formOf_any op
  obtain ⟨A, cp, hlv, _⟩ := id hl
  have HCv := covers_any (clI op) s op A s.l.length cp hlv rfl
  have HWr : coversA (fmOf (clI op)) (s.ins op) = true → ∀ W, w.grownBy W none → Calls Tryd.prog 42 #[.agg (s.cells op)] W fun e w' => e = .returned (.bool (wrongF (fmOf (clI op)) (s.ins op) [] (hdF (clI op) ++ els s.l.length))) ∧ W.grownBy w' none := fun hc W hg => by
    obtain ⟨h1, h2⟩ := cov_parts hc
    refine hasWrong_any s op W ?_ h1 h2 (hd_le _)
    obtain ⟨A, c, k1, k2⟩ := hl.row hg (fun _ _ e => by cases e)
    refine ⟨A, c, k1, fun hn => ?_⟩
    obtain ⟨b, off, k3, k4, k5⟩ := k2 hn
    exact ⟨b, off, k3, Nat.lt_of_lt_of_le k4 hg.size, k5⟩
  have hls : (s.ins op).l.length = s.l.length := rfl
  rw [hls]
  unfold FormIs at HF
  have h0 : w.grownBy (w.alloc (.cells (s.cells op) 24)) none := only_alloc (only_refl _ _) _
  have hb0 := Blk.new w 24 (s.cells op)
  obtain ⟨ha, bm, br, cm, cr, dm, dr, le, mo, em, er, hp⟩ := fm_parts (fmOf (clI op))
  have hfc : fmC (fmOf (clI op)) = #[.bool ha, .int .i64 bm, .bool br, .int .i64 cm, .bool cr, .int .i64 dm, .bool dr, .int .i64 (le : Int), .int .i64 (mo : Int), .int .i64 em, .bool er] := by rw [hp]; rfl
  rw [hfc] at HF HCv
  unfold Sg.cells at *
  rw [hlv] at *
  generalize isOp (clI op) = q at *
  generalize hcv : coversA (fmOf (clI op)) (s.ins op) = cv at *
  generalize wrongF (fmOf (clI op)) (s.ins op) [] (hdF (clI op) ++ els s.l.length) = wr at *
  clear hfc hl hchk hlv hls hcv hp
  go_enter Tryd.func13, Tryd.ntmps13
  go_wp2_with fail
  refine (HF _).mono ?_
  rintro e w1 ⟨rfl, hg1⟩
  have hx1 := (hb0.kept hg1).alloc (.cells #[.bool ha, .int .i64 bm, .bool br, .int .i64 cm, .bool cr, .int .i64 dm, .bool dr, .int .i64 (le : Int), .int .i64 (mo : Int), .int .i64 em, .bool er] 82)
  have hf1 := Blk.new w1 82 #[.bool ha, .int .i64 bm, .bool br, .int .i64 cm, .bool cr, .int .i64 dm, .bool dr, .int .i64 (le : Int), .int .i64 (mo : Int), .int .i64 em, .bool er]
  have hg2 : w.grownBy (w1.alloc (.cells #[.bool ha, .int .i64 bm, .bool br, .int .i64 cm, .bool cr, .int .i64 dm, .bool dr, .int .i64 (le : Int), .int .i64 (mo : Int), .int .i64 em, .bool er] 82)) none := only_alloc (only_trans h0 hg1) _
  cases q with
  | false =>
    clear HCv HWr hx1 hf1
    go_wp2_with fail
    go_ret
    exact ⟨rfl, hg2⟩
  | true =>
    go_upto_region 5 with fail
    generalize w1.alloc (.cells #[.bool ha, .int .i64 bm, .bool br, .int .i64 cm, .bool cr, .int .i64 dm, .bool dr, .int .i64 (le : Int), .int .i64 (mo : Int), .int .i64 em, .bool er] 82) = W2 at *
    generalize w1.heap.size = fb at *
    have x0 := hx1.cell 0
    have x1 := hx1.cell 1
    have x2 := hx1.cell 2
    have x3 := hx1.cell 3
    have x4 := hx1.cell 4
    have x5 := hx1.cell 5
    have k0' := hf1.cell 0
    have k1' := hf1.cell 1
    have k2' := hf1.cell 2
    have k3' := hf1.cell 3
    have k4' := hf1.cell 4
    have k5' := hf1.cell 5
    have k6' := hf1.cell 6
    have k7' := hf1.cell 7
    have k8' := hf1.cell 8
    have k9' := hf1.cell 9
    have ka' := hf1.cell 10
    clear HF hf1 hb0 h0 hg1
    cases cv with
    | false =>
      clear HWr hx1
      go_wp2_with fail
      refine (HCv _).mono ?_
      rintro e w3 ⟨rfl, hg3⟩
      go_wp2_with fail
      go_ret
      exact ⟨rfl, only_trans hg2 hg3⟩
    | true =>
      have HW2 := HWr rfl
      clear HWr
      go_wp2_with fail
      refine (HCv _).mono ?_
      rintro e w3 ⟨rfl, hg3⟩
      have hx3 := hx1.kept hg3
      have y0 := hx3.cell 0
      have y1 := hx3.cell 1
      have y2 := hx3.cell 2
      have y3 := hx3.cell 3
      have y4 := hx3.cell 4
      have y5 := hx3.cell 5
      have HW3 := HW2 w3 (only_trans hg2 hg3)
      clear HW2 hx1 hx3
      go_wp2_with fail
      refine HW3.mono ?_
      rintro e w4 ⟨rfl, hg4⟩
      cases wr
      all_goals
        go_wp2_with fail
        go_ret
        exact ⟨rfl, only_trans (only_trans hg2 hg3) hg4⟩
end Go.Proofs.YtmbdaenjeeklfaaDoor

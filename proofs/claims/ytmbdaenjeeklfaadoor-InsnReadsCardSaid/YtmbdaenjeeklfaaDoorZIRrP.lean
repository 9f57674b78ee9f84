/- The document's answer for instructions (colloquyref09): operands: what it answers, and what it leaves. -/
import Derived.Test.YtmbdaenjeeklfaaDoorZInV
import Derived.Deep.CutBlock
import Derived.Deep.DeepCutAuto
import Derived.BigQuiet
import Derived.Deep.QuietTactic
namespace Go.Proofs.YtmbdaenjeeklfaaDoor
open Go.RowKit

set_option maxRecDepth 100000 in
set_option maxHeartbeats 40000000 in
theorem roperands_any {w : World} {q a : Nat} {bs : List UInt8} (h : RefR w q bs a 0) (op : Int) (o0 : 0 ≤ op) (o1 : op ≤ 24) :
    Calls Tryd.prog 46 #[.pointer (some ⟨q, 0, none⟩), .int .i64 op] w (ROps q bs (opsR (clI op) op bs a) w) := by
  have hql := h.lt
  have S0 := OS.start h op
  obtain ⟨res, hres⟩ : ∃ res, opsR (clI op) op bs a = res := ⟨_, rfl⟩
  rw [hres]
  have HRS := Lib.hid hres
  unfold zO at S0
  have HS0 := Lib.hid S0
  clear h hres S0
  go_enter Tryd.func46, Tryd.ntmps46
  go_upto_block 0 with fail
  generalize (((w.alloc (.cells #[.int .i64 0, .int .i64 0, .int .i64 0, .int .i64 0, .int .i64 0, .slice none 0 0] 24)).alloc (.cells #[.int .i64 0, .int .i64 0] 48)).alloc (.cells #[.int .i64 op, .int .i64 0, .int .i64 0, .int .i64 0, .int .i64 0, .slice none 0 0] 24)).alloc (.cells #[.int .i64 0, .int .i64 0] 48) = w0 at *
  go_cut [8] from 12 to 126 (fun v8 wx => (v8 = .slice none 0 0 ∧ OSR w q bs res wx) ∨ (∃ (z1 z2 : Int) (bl off cp b : Nat), v8 = .slice (some ⟨bl, off, none⟩) 2 cp ∧ w.heap.size + 1 + 1 + 1 < bl ∧ wx.cell? ⟨bl, off, none⟩ = some (.int .i64 z1) ∧ wx.cell? ⟨bl, off + 1, none⟩ = some (.int .i64 z2) ∧ OS w q bs b #[.int .i64 op, .int .i64 0, .int .i64 0, .int .i64 0, .int .i64 0, .slice none 0 0] 0 0 wx ∧ res = .ok ⟨op, 0, z1, z2, 0, []⟩ b))
  case first =>
    rcases (by omega : op = 0 ∨ op = 2 ∨ op = 3 ∨ op = 4 ∨ op = 5 ∨ op = 6 ∨ op = 7 ∨ op = 8 ∨ op = 13 ∨ op = 24 ∨ op = 1 ∨ op = 9 ∨ op = 10 ∨ op = 14 ∨ op = 15 ∨ op = 22 ∨ op = 16 ∨ op = 17 ∨ op = 23 ∨ op = 11 ∨ op = 12 ∨ op = 18 ∨ op = 19 ∨ op = 20 ∨ op = 21) with rfl | rfl | rfl | rfl | rfl | rfl | rfl | rfl | rfl | rfl | rfl | rfl | rfl | rfl | rfl | rfl | rfl | rfl | rfl | rfl | rfl | rfl | rfl | rfl | rfl
    · skip
      have HRK : Hid (res = .ok ⟨0, 0, 0, 0, 0, []⟩ a) := HRS.out.symm
      go_wp2_with fail
      go_meet
      exact .inl ⟨rfl, by rw [HRK.out]; exact ⟨⟨0, 0, 0, 0, .slice none 0 0, []⟩, rfl, HS0.out, none, 0, rfl, fun e => absurd rfl e⟩⟩
    · skip
      have HRK : Hid (res = .ok ⟨2, 0, 0, 0, 0, []⟩ a) := HRS.out.symm
      go_wp2_with fail
      go_meet
      exact .inl ⟨rfl, by rw [HRK.out]; exact ⟨⟨0, 0, 0, 0, .slice none 0 0, []⟩, rfl, HS0.out, none, 0, rfl, fun e => absurd rfl e⟩⟩
    · skip
      have HRK : Hid (res = .ok ⟨3, 0, 0, 0, 0, []⟩ a) := HRS.out.symm
      go_wp2_with fail
      go_meet
      exact .inl ⟨rfl, by rw [HRK.out]; exact ⟨⟨0, 0, 0, 0, .slice none 0 0, []⟩, rfl, HS0.out, none, 0, rfl, fun e => absurd rfl e⟩⟩
    · skip
      have HRK : Hid (res = .ok ⟨4, 0, 0, 0, 0, []⟩ a) := HRS.out.symm
      go_wp2_with fail
      go_meet
      exact .inl ⟨rfl, by rw [HRK.out]; exact ⟨⟨0, 0, 0, 0, .slice none 0 0, []⟩, rfl, HS0.out, none, 0, rfl, fun e => absurd rfl e⟩⟩
    · skip
      have HRK : Hid (res = .ok ⟨5, 0, 0, 0, 0, []⟩ a) := HRS.out.symm
      go_wp2_with fail
      go_meet
      exact .inl ⟨rfl, by rw [HRK.out]; exact ⟨⟨0, 0, 0, 0, .slice none 0 0, []⟩, rfl, HS0.out, none, 0, rfl, fun e => absurd rfl e⟩⟩
    · skip
      have HRK : Hid (res = .ok ⟨6, 0, 0, 0, 0, []⟩ a) := HRS.out.symm
      go_wp2_with fail
      go_meet
      exact .inl ⟨rfl, by rw [HRK.out]; exact ⟨⟨0, 0, 0, 0, .slice none 0 0, []⟩, rfl, HS0.out, none, 0, rfl, fun e => absurd rfl e⟩⟩
    · skip
      have HRK : Hid (res = .ok ⟨7, 0, 0, 0, 0, []⟩ a) := HRS.out.symm
      go_wp2_with fail
      go_meet
      exact .inl ⟨rfl, by rw [HRK.out]; exact ⟨⟨0, 0, 0, 0, .slice none 0 0, []⟩, rfl, HS0.out, none, 0, rfl, fun e => absurd rfl e⟩⟩
    · skip
      have HRK : Hid (res = .ok ⟨8, 0, 0, 0, 0, []⟩ a) := HRS.out.symm
      go_wp2_with fail
      go_meet
      exact .inl ⟨rfl, by rw [HRK.out]; exact ⟨⟨0, 0, 0, 0, .slice none 0 0, []⟩, rfl, HS0.out, none, 0, rfl, fun e => absurd rfl e⟩⟩
    · skip
      have HRK : Hid (res = .ok ⟨13, 0, 0, 0, 0, []⟩ a) := HRS.out.symm
      go_wp2_with fail
      go_meet
      exact .inl ⟨rfl, by rw [HRK.out]; exact ⟨⟨0, 0, 0, 0, .slice none 0 0, []⟩, rfl, HS0.out, none, 0, rfl, fun e => absurd rfl e⟩⟩
    · skip
      have HRK : Hid (res = .ok ⟨24, 0, 0, 0, 0, []⟩ a) := HRS.out.symm
      go_wp2_with fail
      go_meet
      exact .inl ⟨rfl, by rw [HRK.out]; exact ⟨⟨0, 0, 0, 0, .slice none 0 0, []⟩, rfl, HS0.out, none, 0, rfl, fun e => absurd rfl e⟩⟩
    · skip
      have hsm1 := rs_is HS0.out.rd
      cases hr1 : sR bs a with
      | flt c y bf =>
        rw [hr1] at hsm1
        have HRF : Hid (res = .flt c y bf) := by
          show _ = _
          rw [← HRS.out]
          show opsR .push 1 bs a = _
          rw [opsR_push, hr1]
          rfl
        have hc : (c == 0) = false := by simpa using sR_flt c y bf hr1
        clear hr1
        go_wp2_with fail
        refine hsm1.mono ?_
        rintro e wf ⟨rfl, hgf, hrf⟩
        have Sf := HS0.out.call hql hgf hrf
        have x0 := Sf.r6.cell 0
        have x1 := Sf.r6.cell 1
        have x2 := Sf.r6.cell 2
        have x3 := Sf.r6.cell 3
        have x4 := Sf.r6.cell 4
        have x5 := Sf.r6.cell 5
        have f0 := Sf.r6.frozen 0
        have f1 := Sf.r6.frozen 1
        have f2 := Sf.r6.frozen 2
        have f3 := Sf.r6.frozen 3
        have f4 := Sf.r6.frozen 4
        have f5 := Sf.r6.frozen 5
        have y0 := Sf.r7.cell 0
        have y1 := Sf.r7.cell 1
        have g0 := Sf.r7.frozen 0
        have g1 := Sf.r7.frozen 1
        have HSf := Lib.hid Sf
        clear Sf hgf hrf hsm1
        go_wp2_with fail
        go_meet
        exact .inl ⟨rfl, by rw [HRF.out]; exact ⟨⟨0, 0, 0, 0, .slice none 0 0, []⟩, 1, none, 0, 0, rfl, (HSf.out.fld hql 1 (.int .i64 0)).flt hql c (y : Int)⟩⟩
      | ok v1 b1 =>
        rw [hr1] at hsm1
        have HHr1 := Lib.hid hr1
        clear hr1
        go_wp2_with fail
        refine hsm1.mono ?_
        rintro e wk1 ⟨he, hgf, hrf⟩
        have he' : e = .returned (.tuple #[.int .i64 v1, .agg #[.int .i64 0, .int .i64 0]]) := he
        subst he'
        clear he
        have Sk1 := HS0.out.call hql hgf hrf
        have x0 := Sk1.r6.cell 0
        have x1 := Sk1.r6.cell 1
        have x2 := Sk1.r6.cell 2
        have x3 := Sk1.r6.cell 3
        have x4 := Sk1.r6.cell 4
        have x5 := Sk1.r6.cell 5
        have f0 := Sk1.r6.frozen 0
        have f1 := Sk1.r6.frozen 1
        have f2 := Sk1.r6.frozen 2
        have f3 := Sk1.r6.frozen 3
        have f4 := Sk1.r6.frozen 4
        have f5 := Sk1.r6.frozen 5
        have y0 := Sk1.r7.cell 0
        have y1 := Sk1.r7.cell 1
        have g0 := Sk1.r7.frozen 0
        have g1 := Sk1.r7.frozen 1
        have St1 := (Sk1.fld hql 1 (.int .i64 v1)).flt hql 0 0
        have HSt1 := Lib.hid St1
        clear St1 Sk1 hgf hrf hsm1
        have HRK : Hid (res = .ok ⟨1, v1, 0, 0, 0, []⟩ b1) := by
          show _ = _
          rw [← HRS.out]
          show opsR .push 1 bs a = _
          rw [opsR_push, HHr1.out, Rs.bind_ok]
        go_wp2_with fail
        go_meet
        exact .inl ⟨rfl, by rw [HRK.out]; exact ⟨⟨v1, 0, 0, 0, .slice none 0 0, []⟩, rfl, HSt1.out, none, 0, rfl, fun e => absurd rfl e⟩⟩
    · skip
      have hsm1 := rsm_is HS0.out.rd 15 ⟨by omega, by omega⟩
      cases hr1 : smR bs a 15 with
      | flt c y bf =>
        rw [hr1] at hsm1
        have HRF : Hid (res = .flt c y bf) := by
          show _ = _
          rw [← HRS.out]
          show opsR .one 9 bs a = _
          rw [opsR_one, hr1]
          rfl
        have hc : (c == 0) = false := by simpa using smR_flt c y bf hr1
        clear hr1
        go_wp2_with fail
        refine hsm1.mono ?_
        rintro e wf ⟨rfl, hgf, hrf⟩
        have Sf := HS0.out.call hql hgf hrf
        have x0 := Sf.r6.cell 0
        have x1 := Sf.r6.cell 1
        have x2 := Sf.r6.cell 2
        have x3 := Sf.r6.cell 3
        have x4 := Sf.r6.cell 4
        have x5 := Sf.r6.cell 5
        have f0 := Sf.r6.frozen 0
        have f1 := Sf.r6.frozen 1
        have f2 := Sf.r6.frozen 2
        have f3 := Sf.r6.frozen 3
        have f4 := Sf.r6.frozen 4
        have f5 := Sf.r6.frozen 5
        have y0 := Sf.r7.cell 0
        have y1 := Sf.r7.cell 1
        have g0 := Sf.r7.frozen 0
        have g1 := Sf.r7.frozen 1
        have HSf := Lib.hid Sf
        clear Sf hgf hrf hsm1
        go_wp2_with fail
        go_meet
        exact .inl ⟨rfl, by rw [HRF.out]; exact ⟨⟨0, 0, 0, 0, .slice none 0 0, []⟩, 9, none, 0, 0, rfl, (HSf.out.fld hql 2 (.int .i64 0)).flt hql c (y : Int)⟩⟩
      | ok v1 b1 =>
        rw [hr1] at hsm1
        have HHr1 := Lib.hid hr1
        clear hr1
        go_wp2_with fail
        refine hsm1.mono ?_
        rintro e wk1 ⟨he, hgf, hrf⟩
        have he' : e = .returned (.tuple #[.int .i64 v1, .agg #[.int .i64 0, .int .i64 0]]) := he
        subst he'
        clear he
        have Sk1 := HS0.out.call hql hgf hrf
        have x0 := Sk1.r6.cell 0
        have x1 := Sk1.r6.cell 1
        have x2 := Sk1.r6.cell 2
        have x3 := Sk1.r6.cell 3
        have x4 := Sk1.r6.cell 4
        have x5 := Sk1.r6.cell 5
        have f0 := Sk1.r6.frozen 0
        have f1 := Sk1.r6.frozen 1
        have f2 := Sk1.r6.frozen 2
        have f3 := Sk1.r6.frozen 3
        have f4 := Sk1.r6.frozen 4
        have f5 := Sk1.r6.frozen 5
        have y0 := Sk1.r7.cell 0
        have y1 := Sk1.r7.cell 1
        have g0 := Sk1.r7.frozen 0
        have g1 := Sk1.r7.frozen 1
        have St1 := (Sk1.fld hql 2 (.int .i64 v1)).flt hql 0 0
        have HSt1 := Lib.hid St1
        clear St1 Sk1 hgf hrf hsm1
        have HRK : Hid (res = .ok ⟨9, 0, v1, 0, 0, []⟩ b1) := by
          show _ = _
          rw [← HRS.out]
          show opsR .one 9 bs a = _
          rw [opsR_one, HHr1.out, Rs.bind_ok]
        go_wp2_with fail
        go_meet
        exact .inl ⟨rfl, by rw [HRK.out]; exact ⟨⟨0, v1, 0, 0, .slice none 0 0, []⟩, rfl, HSt1.out, none, 0, rfl, fun e => absurd rfl e⟩⟩
    · skip
      have hsm1 := rsm_is HS0.out.rd 15 ⟨by omega, by omega⟩
      cases hr1 : smR bs a 15 with
      | flt c y bf =>
        rw [hr1] at hsm1
        have HRF : Hid (res = .flt c y bf) := by
          show _ = _
          rw [← HRS.out]
          show opsR .one 10 bs a = _
          rw [opsR_one, hr1]
          rfl
        have hc : (c == 0) = false := by simpa using smR_flt c y bf hr1
        clear hr1
        go_wp2_with fail
        refine hsm1.mono ?_
        rintro e wf ⟨rfl, hgf, hrf⟩
        have Sf := HS0.out.call hql hgf hrf
        have x0 := Sf.r6.cell 0
        have x1 := Sf.r6.cell 1
        have x2 := Sf.r6.cell 2
        have x3 := Sf.r6.cell 3
        have x4 := Sf.r6.cell 4
        have x5 := Sf.r6.cell 5
        have f0 := Sf.r6.frozen 0
        have f1 := Sf.r6.frozen 1
        have f2 := Sf.r6.frozen 2
        have f3 := Sf.r6.frozen 3
        have f4 := Sf.r6.frozen 4
        have f5 := Sf.r6.frozen 5
        have y0 := Sf.r7.cell 0
        have y1 := Sf.r7.cell 1
        have g0 := Sf.r7.frozen 0
        have g1 := Sf.r7.frozen 1
        have HSf := Lib.hid Sf
        clear Sf hgf hrf hsm1
        go_wp2_with fail
        go_meet
        exact .inl ⟨rfl, by rw [HRF.out]; exact ⟨⟨0, 0, 0, 0, .slice none 0 0, []⟩, 10, none, 0, 0, rfl, (HSf.out.fld hql 2 (.int .i64 0)).flt hql c (y : Int)⟩⟩
      | ok v1 b1 =>
        rw [hr1] at hsm1
        have HHr1 := Lib.hid hr1
        clear hr1
        go_wp2_with fail
        refine hsm1.mono ?_
        rintro e wk1 ⟨he, hgf, hrf⟩
        have he' : e = .returned (.tuple #[.int .i64 v1, .agg #[.int .i64 0, .int .i64 0]]) := he
        subst he'
        clear he
        have Sk1 := HS0.out.call hql hgf hrf
        have x0 := Sk1.r6.cell 0
        have x1 := Sk1.r6.cell 1
        have x2 := Sk1.r6.cell 2
        have x3 := Sk1.r6.cell 3
        have x4 := Sk1.r6.cell 4
        have x5 := Sk1.r6.cell 5
        have f0 := Sk1.r6.frozen 0
        have f1 := Sk1.r6.frozen 1
        have f2 := Sk1.r6.frozen 2
        have f3 := Sk1.r6.frozen 3
        have f4 := Sk1.r6.frozen 4
        have f5 := Sk1.r6.frozen 5
        have y0 := Sk1.r7.cell 0
        have y1 := Sk1.r7.cell 1
        have g0 := Sk1.r7.frozen 0
        have g1 := Sk1.r7.frozen 1
        have St1 := (Sk1.fld hql 2 (.int .i64 v1)).flt hql 0 0
        have HSt1 := Lib.hid St1
        clear St1 Sk1 hgf hrf hsm1
        have HRK : Hid (res = .ok ⟨10, 0, v1, 0, 0, []⟩ b1) := by
          show _ = _
          rw [← HRS.out]
          show opsR .one 10 bs a = _
          rw [opsR_one, HHr1.out, Rs.bind_ok]
        go_wp2_with fail
        go_meet
        exact .inl ⟨rfl, by rw [HRK.out]; exact ⟨⟨0, v1, 0, 0, .slice none 0 0, []⟩, rfl, HSt1.out, none, 0, rfl, fun e => absurd rfl e⟩⟩
    · skip
      have hsm1 := rsm_is HS0.out.rd 15 ⟨by omega, by omega⟩
      cases hr1 : smR bs a 15 with
      | flt c y bf =>
        rw [hr1] at hsm1
        have HRF : Hid (res = .flt c y bf) := by
          show _ = _
          rw [← HRS.out]
          show opsR .one 14 bs a = _
          rw [opsR_one, hr1]
          rfl
        have hc : (c == 0) = false := by simpa using smR_flt c y bf hr1
        clear hr1
        go_wp2_with fail
        refine hsm1.mono ?_
        rintro e wf ⟨rfl, hgf, hrf⟩
        have Sf := HS0.out.call hql hgf hrf
        have x0 := Sf.r6.cell 0
        have x1 := Sf.r6.cell 1
        have x2 := Sf.r6.cell 2
        have x3 := Sf.r6.cell 3
        have x4 := Sf.r6.cell 4
        have x5 := Sf.r6.cell 5
        have f0 := Sf.r6.frozen 0
        have f1 := Sf.r6.frozen 1
        have f2 := Sf.r6.frozen 2
        have f3 := Sf.r6.frozen 3
        have f4 := Sf.r6.frozen 4
        have f5 := Sf.r6.frozen 5
        have y0 := Sf.r7.cell 0
        have y1 := Sf.r7.cell 1
        have g0 := Sf.r7.frozen 0
        have g1 := Sf.r7.frozen 1
        have HSf := Lib.hid Sf
        clear Sf hgf hrf hsm1
        go_wp2_with fail
        go_meet
        exact .inl ⟨rfl, by rw [HRF.out]; exact ⟨⟨0, 0, 0, 0, .slice none 0 0, []⟩, 14, none, 0, 0, rfl, (HSf.out.fld hql 2 (.int .i64 0)).flt hql c (y : Int)⟩⟩
      | ok v1 b1 =>
        rw [hr1] at hsm1
        have HHr1 := Lib.hid hr1
        clear hr1
        go_wp2_with fail
        refine hsm1.mono ?_
        rintro e wk1 ⟨he, hgf, hrf⟩
        have he' : e = .returned (.tuple #[.int .i64 v1, .agg #[.int .i64 0, .int .i64 0]]) := he
        subst he'
        clear he
        have Sk1 := HS0.out.call hql hgf hrf
        have x0 := Sk1.r6.cell 0
        have x1 := Sk1.r6.cell 1
        have x2 := Sk1.r6.cell 2
        have x3 := Sk1.r6.cell 3
        have x4 := Sk1.r6.cell 4
        have x5 := Sk1.r6.cell 5
        have f0 := Sk1.r6.frozen 0
        have f1 := Sk1.r6.frozen 1
        have f2 := Sk1.r6.frozen 2
        have f3 := Sk1.r6.frozen 3
        have f4 := Sk1.r6.frozen 4
        have f5 := Sk1.r6.frozen 5
        have y0 := Sk1.r7.cell 0
        have y1 := Sk1.r7.cell 1
        have g0 := Sk1.r7.frozen 0
        have g1 := Sk1.r7.frozen 1
        have St1 := (Sk1.fld hql 2 (.int .i64 v1)).flt hql 0 0
        have HSt1 := Lib.hid St1
        clear St1 Sk1 hgf hrf hsm1
        have HRK : Hid (res = .ok ⟨14, 0, v1, 0, 0, []⟩ b1) := by
          show _ = _
          rw [← HRS.out]
          show opsR .one 14 bs a = _
          rw [opsR_one, HHr1.out, Rs.bind_ok]
        go_wp2_with fail
        go_meet
        exact .inl ⟨rfl, by rw [HRK.out]; exact ⟨⟨0, v1, 0, 0, .slice none 0 0, []⟩, rfl, HSt1.out, none, 0, rfl, fun e => absurd rfl e⟩⟩
    · skip
      have hsm1 := rsm_is HS0.out.rd 15 ⟨by omega, by omega⟩
      cases hr1 : smR bs a 15 with
      | flt c y bf =>
        rw [hr1] at hsm1
        have HRF : Hid (res = .flt c y bf) := by
          show _ = _
          rw [← HRS.out]
          show opsR .one 15 bs a = _
          rw [opsR_one, hr1]
          rfl
        have hc : (c == 0) = false := by simpa using smR_flt c y bf hr1
        clear hr1
        go_wp2_with fail
        refine hsm1.mono ?_
        rintro e wf ⟨rfl, hgf, hrf⟩
        have Sf := HS0.out.call hql hgf hrf
        have x0 := Sf.r6.cell 0
        have x1 := Sf.r6.cell 1
        have x2 := Sf.r6.cell 2
        have x3 := Sf.r6.cell 3
        have x4 := Sf.r6.cell 4
        have x5 := Sf.r6.cell 5
        have f0 := Sf.r6.frozen 0
        have f1 := Sf.r6.frozen 1
        have f2 := Sf.r6.frozen 2
        have f3 := Sf.r6.frozen 3
        have f4 := Sf.r6.frozen 4
        have f5 := Sf.r6.frozen 5
        have y0 := Sf.r7.cell 0
        have y1 := Sf.r7.cell 1
        have g0 := Sf.r7.frozen 0
        have g1 := Sf.r7.frozen 1
        have HSf := Lib.hid Sf
        clear Sf hgf hrf hsm1
        go_wp2_with fail
        go_meet
        exact .inl ⟨rfl, by rw [HRF.out]; exact ⟨⟨0, 0, 0, 0, .slice none 0 0, []⟩, 15, none, 0, 0, rfl, (HSf.out.fld hql 2 (.int .i64 0)).flt hql c (y : Int)⟩⟩
      | ok v1 b1 =>
        rw [hr1] at hsm1
        have HHr1 := Lib.hid hr1
        clear hr1
        go_wp2_with fail
        refine hsm1.mono ?_
        rintro e wk1 ⟨he, hgf, hrf⟩
        have he' : e = .returned (.tuple #[.int .i64 v1, .agg #[.int .i64 0, .int .i64 0]]) := he
        subst he'
        clear he
        have Sk1 := HS0.out.call hql hgf hrf
        have x0 := Sk1.r6.cell 0
        have x1 := Sk1.r6.cell 1
        have x2 := Sk1.r6.cell 2
        have x3 := Sk1.r6.cell 3
        have x4 := Sk1.r6.cell 4
        have x5 := Sk1.r6.cell 5
        have f0 := Sk1.r6.frozen 0
        have f1 := Sk1.r6.frozen 1
        have f2 := Sk1.r6.frozen 2
        have f3 := Sk1.r6.frozen 3
        have f4 := Sk1.r6.frozen 4
        have f5 := Sk1.r6.frozen 5
        have y0 := Sk1.r7.cell 0
        have y1 := Sk1.r7.cell 1
        have g0 := Sk1.r7.frozen 0
        have g1 := Sk1.r7.frozen 1
        have St1 := (Sk1.fld hql 2 (.int .i64 v1)).flt hql 0 0
        have HSt1 := Lib.hid St1
        clear St1 Sk1 hgf hrf hsm1
        have HRK : Hid (res = .ok ⟨15, 0, v1, 0, 0, []⟩ b1) := by
          show _ = _
          rw [← HRS.out]
          show opsR .one 15 bs a = _
          rw [opsR_one, HHr1.out, Rs.bind_ok]
        go_wp2_with fail
        go_meet
        exact .inl ⟨rfl, by rw [HRK.out]; exact ⟨⟨0, v1, 0, 0, .slice none 0 0, []⟩, rfl, HSt1.out, none, 0, rfl, fun e => absurd rfl e⟩⟩
    · skip
      have hsm1 := rsm_is HS0.out.rd 15 ⟨by omega, by omega⟩
      cases hr1 : smR bs a 15 with
      | flt c y bf =>
        rw [hr1] at hsm1
        have HRF : Hid (res = .flt c y bf) := by
          show _ = _
          rw [← HRS.out]
          show opsR .one 22 bs a = _
          rw [opsR_one, hr1]
          rfl
        have hc : (c == 0) = false := by simpa using smR_flt c y bf hr1
        clear hr1
        go_wp2_with fail
        refine hsm1.mono ?_
        rintro e wf ⟨rfl, hgf, hrf⟩
        have Sf := HS0.out.call hql hgf hrf
        have x0 := Sf.r6.cell 0
        have x1 := Sf.r6.cell 1
        have x2 := Sf.r6.cell 2
        have x3 := Sf.r6.cell 3
        have x4 := Sf.r6.cell 4
        have x5 := Sf.r6.cell 5
        have f0 := Sf.r6.frozen 0
        have f1 := Sf.r6.frozen 1
        have f2 := Sf.r6.frozen 2
        have f3 := Sf.r6.frozen 3
        have f4 := Sf.r6.frozen 4
        have f5 := Sf.r6.frozen 5
        have y0 := Sf.r7.cell 0
        have y1 := Sf.r7.cell 1
        have g0 := Sf.r7.frozen 0
        have g1 := Sf.r7.frozen 1
        have HSf := Lib.hid Sf
        clear Sf hgf hrf hsm1
        go_wp2_with fail
        go_meet
        exact .inl ⟨rfl, by rw [HRF.out]; exact ⟨⟨0, 0, 0, 0, .slice none 0 0, []⟩, 22, none, 0, 0, rfl, (HSf.out.fld hql 2 (.int .i64 0)).flt hql c (y : Int)⟩⟩
      | ok v1 b1 =>
        rw [hr1] at hsm1
        have HHr1 := Lib.hid hr1
        clear hr1
        go_wp2_with fail
        refine hsm1.mono ?_
        rintro e wk1 ⟨he, hgf, hrf⟩
        have he' : e = .returned (.tuple #[.int .i64 v1, .agg #[.int .i64 0, .int .i64 0]]) := he
        subst he'
        clear he
        have Sk1 := HS0.out.call hql hgf hrf
        have x0 := Sk1.r6.cell 0
        have x1 := Sk1.r6.cell 1
        have x2 := Sk1.r6.cell 2
        have x3 := Sk1.r6.cell 3
        have x4 := Sk1.r6.cell 4
        have x5 := Sk1.r6.cell 5
        have f0 := Sk1.r6.frozen 0
        have f1 := Sk1.r6.frozen 1
        have f2 := Sk1.r6.frozen 2
        have f3 := Sk1.r6.frozen 3
        have f4 := Sk1.r6.frozen 4
        have f5 := Sk1.r6.frozen 5
        have y0 := Sk1.r7.cell 0
        have y1 := Sk1.r7.cell 1
        have g0 := Sk1.r7.frozen 0
        have g1 := Sk1.r7.frozen 1
        have St1 := (Sk1.fld hql 2 (.int .i64 v1)).flt hql 0 0
        have HSt1 := Lib.hid St1
        clear St1 Sk1 hgf hrf hsm1
        have HRK : Hid (res = .ok ⟨22, 0, v1, 0, 0, []⟩ b1) := by
          show _ = _
          rw [← HRS.out]
          show opsR .one 22 bs a = _
          rw [opsR_one, HHr1.out, Rs.bind_ok]
        go_wp2_with fail
        go_meet
        exact .inl ⟨rfl, by rw [HRK.out]; exact ⟨⟨0, v1, 0, 0, .slice none 0 0, []⟩, rfl, HSt1.out, none, 0, rfl, fun e => absurd rfl e⟩⟩
    · skip
      have hsm1 := rlist_any HS0.out.rd 2 (by omega) 15 ⟨by omega, by omega⟩
      have hbig := HS0.out.r7.lt
      cases hr1 : rdE 15 bs 2 a with
      | flt c y bf =>
        rw [hr1] at hsm1
        have HRF : Hid (res = .flt c y bf) := by
          show _ = _
          rw [← HRS.out]
          show opsR .two 16 bs a = _
          rw [opsR_twoL, hr1]
          rfl
        have hc : (c == 0) = false := by simpa using rdE_flt _ _ c y bf hr1
        clear hr1
        go_wp2_with fail
        refine hsm1.mono ?_
        rintro e wf ⟨rfl, hgf, hrf⟩
        have Sf := HS0.out.call hql hgf hrf
        have x0 := Sf.r6.cell 0
        have x1 := Sf.r6.cell 1
        have x2 := Sf.r6.cell 2
        have x3 := Sf.r6.cell 3
        have x4 := Sf.r6.cell 4
        have x5 := Sf.r6.cell 5
        have f0 := Sf.r6.frozen 0
        have f1 := Sf.r6.frozen 1
        have f2 := Sf.r6.frozen 2
        have f3 := Sf.r6.frozen 3
        have f4 := Sf.r6.frozen 4
        have f5 := Sf.r6.frozen 5
        have y0 := Sf.r7.cell 0
        have y1 := Sf.r7.cell 1
        have g0 := Sf.r7.frozen 0
        have g1 := Sf.r7.frozen 1
        have HSf := Lib.hid Sf
        clear Sf hgf hrf hsm1 hbig
        go_wp2_with fail
        go_meet
        exact .inl ⟨rfl, by rw [HRF.out]; exact ⟨⟨0, 0, 0, 0, .slice none 0 0, []⟩, 16, none, 0, 0, rfl, HSf.out.flt hql c (y : Int)⟩⟩
      | ok l b1 =>
        rw [hr1] at hsm1
        obtain ⟨hl2, _⟩ := rdE_is 2 a l b1 (ref_le HS0.out.rd) hr1
        match l, hl2 with
        | [z1, z2], _ =>
          have HRK : Hid (res = .ok ⟨16, 0, z1, z2, 0, []⟩ b1) := by
            show _ = _
            rw [← HRS.out]
            show opsR .two 16 bs a = _
            rw [opsR_twoL, hr1]
            rfl
          clear hr1
          go_wp2_with fail
          refine hsm1.mono ?_
          rintro e wk ⟨vl, rfl, hl, hgf, hrf⟩
          have Sk := HS0.out.call hql hgf hrf
          have hL : IntsA (fun k => w.heap.size + 1 + 1 + 1 < k) wk vl [z1, z2] := ints_more hl (by omega)
          obtain ⟨Av, cv, hv, hcl⟩ := hL
          obtain ⟨bl, off, rfl, hbl, hcell⟩ := hcl (by simp)
          subst hv
          have z0 : wk.cell? ⟨bl, off, none⟩ = some (.int .i64 z1) := hcell 0 z1 rfl
          have z1' : wk.cell? ⟨bl, off + 1, none⟩ = some (.int .i64 z2) := hcell 1 z2 rfl
          have hg7 : wk.grownBy ((wk.setCell ⟨w.heap.size + 1 + 1 + 1, 0, none⟩ (.int .i64 0)).setCell ⟨w.heap.size + 1 + 1 + 1, 1, none⟩ (.int .i64 0)) (some (w.heap.size + 1 + 1 + 1)) := only_setCell (p := ⟨w.heap.size + 1 + 1 + 1, 1, none⟩) (only_setCell (p := ⟨w.heap.size + 1 + 1 + 1, 0, none⟩) (only_refl _ _) rfl _) rfl _
          have hne : some bl ≠ some (w.heap.size + 1 + 1 + 1) := fun e => by injection e with e; have hb' : w.heap.size + 1 + 1 + 1 < bl := hbl; omega
          have HZ0 := Lib.hid (cell_row z0 hg7 hne)
          have HZ1 := Lib.hid (cell_row z1' hg7 hne)
          have HBL : Hid (w.heap.size + 1 + 1 + 1 < bl) := hbl
          have x0 := Sk.r6.cell 0
          have x1 := Sk.r6.cell 1
          have x2 := Sk.r6.cell 2
          have x3 := Sk.r6.cell 3
          have x4 := Sk.r6.cell 4
          have x5 := Sk.r6.cell 5
          have f0 := Sk.r6.frozen 0
          have f1 := Sk.r6.frozen 1
          have f2 := Sk.r6.frozen 2
          have f3 := Sk.r6.frozen 3
          have f4 := Sk.r6.frozen 4
          have f5 := Sk.r6.frozen 5
          have y0 := Sk.r7.cell 0
          have y1 := Sk.r7.cell 1
          have g0 := Sk.r7.frozen 0
          have g1 := Sk.r7.frozen 1
          have HSk := Lib.hid Sk
          clear Sk hgf hrf hsm1 hl hbig z0 z1' hg7 hne hbl hcell hcl
          go_wp2_with fail
          go_meet
          exact .inr ⟨z1, z2, bl, off, _, b1, rfl, HBL.out, HZ0.out, HZ1.out, HSk.out.flt hql 0 0, HRK.out⟩
    · skip
      have hsm1 := rlist_any HS0.out.rd 2 (by omega) 15 ⟨by omega, by omega⟩
      have hbig := HS0.out.r7.lt
      cases hr1 : rdE 15 bs 2 a with
      | flt c y bf =>
        rw [hr1] at hsm1
        have HRF : Hid (res = .flt c y bf) := by
          show _ = _
          rw [← HRS.out]
          show opsR .two 17 bs a = _
          rw [opsR_twoL, hr1]
          rfl
        have hc : (c == 0) = false := by simpa using rdE_flt _ _ c y bf hr1
        clear hr1
        go_wp2_with fail
        refine hsm1.mono ?_
        rintro e wf ⟨rfl, hgf, hrf⟩
        have Sf := HS0.out.call hql hgf hrf
        have x0 := Sf.r6.cell 0
        have x1 := Sf.r6.cell 1
        have x2 := Sf.r6.cell 2
        have x3 := Sf.r6.cell 3
        have x4 := Sf.r6.cell 4
        have x5 := Sf.r6.cell 5
        have f0 := Sf.r6.frozen 0
        have f1 := Sf.r6.frozen 1
        have f2 := Sf.r6.frozen 2
        have f3 := Sf.r6.frozen 3
        have f4 := Sf.r6.frozen 4
        have f5 := Sf.r6.frozen 5
        have y0 := Sf.r7.cell 0
        have y1 := Sf.r7.cell 1
        have g0 := Sf.r7.frozen 0
        have g1 := Sf.r7.frozen 1
        have HSf := Lib.hid Sf
        clear Sf hgf hrf hsm1 hbig
        go_wp2_with fail
        go_meet
        exact .inl ⟨rfl, by rw [HRF.out]; exact ⟨⟨0, 0, 0, 0, .slice none 0 0, []⟩, 17, none, 0, 0, rfl, HSf.out.flt hql c (y : Int)⟩⟩
      | ok l b1 =>
        rw [hr1] at hsm1
        obtain ⟨hl2, _⟩ := rdE_is 2 a l b1 (ref_le HS0.out.rd) hr1
        match l, hl2 with
        | [z1, z2], _ =>
          have HRK : Hid (res = .ok ⟨17, 0, z1, z2, 0, []⟩ b1) := by
            show _ = _
            rw [← HRS.out]
            show opsR .two 17 bs a = _
            rw [opsR_twoL, hr1]
            rfl
          clear hr1
          go_wp2_with fail
          refine hsm1.mono ?_
          rintro e wk ⟨vl, rfl, hl, hgf, hrf⟩
          have Sk := HS0.out.call hql hgf hrf
          have hL : IntsA (fun k => w.heap.size + 1 + 1 + 1 < k) wk vl [z1, z2] := ints_more hl (by omega)
          obtain ⟨Av, cv, hv, hcl⟩ := hL
          obtain ⟨bl, off, rfl, hbl, hcell⟩ := hcl (by simp)
          subst hv
          have z0 : wk.cell? ⟨bl, off, none⟩ = some (.int .i64 z1) := hcell 0 z1 rfl
          have z1' : wk.cell? ⟨bl, off + 1, none⟩ = some (.int .i64 z2) := hcell 1 z2 rfl
          have hg7 : wk.grownBy ((wk.setCell ⟨w.heap.size + 1 + 1 + 1, 0, none⟩ (.int .i64 0)).setCell ⟨w.heap.size + 1 + 1 + 1, 1, none⟩ (.int .i64 0)) (some (w.heap.size + 1 + 1 + 1)) := only_setCell (p := ⟨w.heap.size + 1 + 1 + 1, 1, none⟩) (only_setCell (p := ⟨w.heap.size + 1 + 1 + 1, 0, none⟩) (only_refl _ _) rfl _) rfl _
          have hne : some bl ≠ some (w.heap.size + 1 + 1 + 1) := fun e => by injection e with e; have hb' : w.heap.size + 1 + 1 + 1 < bl := hbl; omega
          have HZ0 := Lib.hid (cell_row z0 hg7 hne)
          have HZ1 := Lib.hid (cell_row z1' hg7 hne)
          have HBL : Hid (w.heap.size + 1 + 1 + 1 < bl) := hbl
          have x0 := Sk.r6.cell 0
          have x1 := Sk.r6.cell 1
          have x2 := Sk.r6.cell 2
          have x3 := Sk.r6.cell 3
          have x4 := Sk.r6.cell 4
          have x5 := Sk.r6.cell 5
          have f0 := Sk.r6.frozen 0
          have f1 := Sk.r6.frozen 1
          have f2 := Sk.r6.frozen 2
          have f3 := Sk.r6.frozen 3
          have f4 := Sk.r6.frozen 4
          have f5 := Sk.r6.frozen 5
          have y0 := Sk.r7.cell 0
          have y1 := Sk.r7.cell 1
          have g0 := Sk.r7.frozen 0
          have g1 := Sk.r7.frozen 1
          have HSk := Lib.hid Sk
          clear Sk hgf hrf hsm1 hl hbig z0 z1' hg7 hne hbl hcell hcl
          go_wp2_with fail
          go_meet
          exact .inr ⟨z1, z2, bl, off, _, b1, rfl, HBL.out, HZ0.out, HZ1.out, HSk.out.flt hql 0 0, HRK.out⟩
    · skip
      have hsm1 := rlist_any HS0.out.rd 2 (by omega) 15 ⟨by omega, by omega⟩
      have hbig := HS0.out.r7.lt
      cases hr1 : rdE 15 bs 2 a with
      | flt c y bf =>
        rw [hr1] at hsm1
        have HRF : Hid (res = .flt c y bf) := by
          show _ = _
          rw [← HRS.out]
          show opsR .two 23 bs a = _
          rw [opsR_twoL, hr1]
          rfl
        have hc : (c == 0) = false := by simpa using rdE_flt _ _ c y bf hr1
        clear hr1
        go_wp2_with fail
        refine hsm1.mono ?_
        rintro e wf ⟨rfl, hgf, hrf⟩
        have Sf := HS0.out.call hql hgf hrf
        have x0 := Sf.r6.cell 0
        have x1 := Sf.r6.cell 1
        have x2 := Sf.r6.cell 2
        have x3 := Sf.r6.cell 3
        have x4 := Sf.r6.cell 4
        have x5 := Sf.r6.cell 5
        have f0 := Sf.r6.frozen 0
        have f1 := Sf.r6.frozen 1
        have f2 := Sf.r6.frozen 2
        have f3 := Sf.r6.frozen 3
        have f4 := Sf.r6.frozen 4
        have f5 := Sf.r6.frozen 5
        have y0 := Sf.r7.cell 0
        have y1 := Sf.r7.cell 1
        have g0 := Sf.r7.frozen 0
        have g1 := Sf.r7.frozen 1
        have HSf := Lib.hid Sf
        clear Sf hgf hrf hsm1 hbig
        go_wp2_with fail
        go_meet
        exact .inl ⟨rfl, by rw [HRF.out]; exact ⟨⟨0, 0, 0, 0, .slice none 0 0, []⟩, 23, none, 0, 0, rfl, HSf.out.flt hql c (y : Int)⟩⟩
      | ok l b1 =>
        rw [hr1] at hsm1
        obtain ⟨hl2, _⟩ := rdE_is 2 a l b1 (ref_le HS0.out.rd) hr1
        match l, hl2 with
        | [z1, z2], _ =>
          have HRK : Hid (res = .ok ⟨23, 0, z1, z2, 0, []⟩ b1) := by
            show _ = _
            rw [← HRS.out]
            show opsR .two 23 bs a = _
            rw [opsR_twoL, hr1]
            rfl
          clear hr1
          go_wp2_with fail
          refine hsm1.mono ?_
          rintro e wk ⟨vl, rfl, hl, hgf, hrf⟩
          have Sk := HS0.out.call hql hgf hrf
          have hL : IntsA (fun k => w.heap.size + 1 + 1 + 1 < k) wk vl [z1, z2] := ints_more hl (by omega)
          obtain ⟨Av, cv, hv, hcl⟩ := hL
          obtain ⟨bl, off, rfl, hbl, hcell⟩ := hcl (by simp)
          subst hv
          have z0 : wk.cell? ⟨bl, off, none⟩ = some (.int .i64 z1) := hcell 0 z1 rfl
          have z1' : wk.cell? ⟨bl, off + 1, none⟩ = some (.int .i64 z2) := hcell 1 z2 rfl
          have hg7 : wk.grownBy ((wk.setCell ⟨w.heap.size + 1 + 1 + 1, 0, none⟩ (.int .i64 0)).setCell ⟨w.heap.size + 1 + 1 + 1, 1, none⟩ (.int .i64 0)) (some (w.heap.size + 1 + 1 + 1)) := only_setCell (p := ⟨w.heap.size + 1 + 1 + 1, 1, none⟩) (only_setCell (p := ⟨w.heap.size + 1 + 1 + 1, 0, none⟩) (only_refl _ _) rfl _) rfl _
          have hne : some bl ≠ some (w.heap.size + 1 + 1 + 1) := fun e => by injection e with e; have hb' : w.heap.size + 1 + 1 + 1 < bl := hbl; omega
          have HZ0 := Lib.hid (cell_row z0 hg7 hne)
          have HZ1 := Lib.hid (cell_row z1' hg7 hne)
          have HBL : Hid (w.heap.size + 1 + 1 + 1 < bl) := hbl
          have x0 := Sk.r6.cell 0
          have x1 := Sk.r6.cell 1
          have x2 := Sk.r6.cell 2
          have x3 := Sk.r6.cell 3
          have x4 := Sk.r6.cell 4
          have x5 := Sk.r6.cell 5
          have f0 := Sk.r6.frozen 0
          have f1 := Sk.r6.frozen 1
          have f2 := Sk.r6.frozen 2
          have f3 := Sk.r6.frozen 3
          have f4 := Sk.r6.frozen 4
          have f5 := Sk.r6.frozen 5
          have y0 := Sk.r7.cell 0
          have y1 := Sk.r7.cell 1
          have g0 := Sk.r7.frozen 0
          have g1 := Sk.r7.frozen 1
          have HSk := Lib.hid Sk
          clear Sk hgf hrf hsm1 hl hbig z0 z1' hg7 hne hbl hcell hcl
          go_wp2_with fail
          go_meet
          exact .inr ⟨z1, z2, bl, off, _, b1, rfl, HBL.out, HZ0.out, HZ1.out, HSk.out.flt hql 0 0, HRK.out⟩
    · skip
      have hsm1 := rlist_any HS0.out.rd 1 (by omega) 127 ⟨by omega, by omega⟩
      have hbig := HS0.out.r7.lt
      cases hr1 : rdE 127 bs 1 a with
      | flt c y bf =>
        rw [hr1] at hsm1
        have HRF : Hid (res = .flt c y bf) := by
          show _ = _
          rw [← HRS.out]
          show opsR .jump 11 bs a = _
          rw [opsR_jump, hr1]
          rfl
        have hc : (c == 0) = false := by simpa using rdE_flt _ _ c y bf hr1
        clear hr1
        go_wp2_with fail
        refine hsm1.mono ?_
        rintro e wf ⟨rfl, hgf, hrf⟩
        have Sf := HS0.out.call hql hgf hrf
        have x0 := Sf.r6.cell 0
        have x1 := Sf.r6.cell 1
        have x2 := Sf.r6.cell 2
        have x3 := Sf.r6.cell 3
        have x4 := Sf.r6.cell 4
        have x5 := Sf.r6.cell 5
        have f0 := Sf.r6.frozen 0
        have f1 := Sf.r6.frozen 1
        have f2 := Sf.r6.frozen 2
        have f3 := Sf.r6.frozen 3
        have f4 := Sf.r6.frozen 4
        have f5 := Sf.r6.frozen 5
        have y0 := Sf.r7.cell 0
        have y1 := Sf.r7.cell 1
        have g0 := Sf.r7.frozen 0
        have g1 := Sf.r7.frozen 1
        have HSf := Lib.hid Sf
        clear Sf hgf hrf hsm1 hbig
        go_wp2_with fail
        go_meet
        exact .inl ⟨rfl, by rw [HRF.out]; exact ⟨⟨0, 0, 0, 0, .slice none 0 0, []⟩, 11, none, 0, 0, rfl, (HSf.out.fld hql 5 (.slice none 0 0)).flt hql c (y : Int)⟩⟩
      | ok l b1 =>
        rw [hr1] at hsm1
        have HRK : Hid (res = .ok ⟨11, 0, 0, 0, 0, l⟩ b1) := by
          show _ = _
          rw [← HRS.out]
          show opsR .jump 11 bs a = _
          rw [opsR_jump, hr1]
          rfl
        clear hr1
        go_wp2_with fail
        refine hsm1.mono ?_
        rintro e wk ⟨vl, rfl, hl, hgf, hrf⟩
        have Sk := HS0.out.call hql hgf hrf
        have hL : IntsA (fun k => w.heap.size + 1 + 1 + 1 < k) wk vl l := ints_more hl (by omega)
        obtain ⟨Av, cv, hv, _⟩ := id hl
        subst hv
        have x0 := Sk.r6.cell 0
        have x1 := Sk.r6.cell 1
        have x2 := Sk.r6.cell 2
        have x3 := Sk.r6.cell 3
        have x4 := Sk.r6.cell 4
        have x5 := Sk.r6.cell 5
        have f0 := Sk.r6.frozen 0
        have f1 := Sk.r6.frozen 1
        have f2 := Sk.r6.frozen 2
        have f3 := Sk.r6.frozen 3
        have f4 := Sk.r6.frozen 4
        have f5 := Sk.r6.frozen 5
        have y0 := Sk.r7.cell 0
        have y1 := Sk.r7.cell 1
        have g0 := Sk.r7.frozen 0
        have g1 := Sk.r7.frozen 1
        have HSk := Lib.hid Sk
        have HL := Lib.hid hL
        clear Sk hgf hrf hsm1 hl hL hbig
        go_wp2_with fail
        go_meet
        exact .inl ⟨rfl, by rw [HRK.out]; exact ⟨⟨0, 0, 0, 0, .slice Av l.length cv, l⟩, rfl, (HSk.out.fld hql 5 (.slice Av l.length cv)).flt hql 0 0, ints_set (ints_set (ints_set HL.out ⟨w.heap.size + 1 + 1, 5, none⟩ _ (Nat.le_succ _)) ⟨w.heap.size + 1 + 1 + 1, 0, none⟩ _ (Nat.le_refl _)) ⟨w.heap.size + 1 + 1 + 1, 1, none⟩ _ (Nat.le_refl _)⟩⟩
    · skip
      have hsm1 := rlist_any HS0.out.rd 1 (by omega) 127 ⟨by omega, by omega⟩
      have hbig := HS0.out.r7.lt
      cases hr1 : rdE 127 bs 1 a with
      | flt c y bf =>
        rw [hr1] at hsm1
        have HRF : Hid (res = .flt c y bf) := by
          show _ = _
          rw [← HRS.out]
          show opsR .jump 12 bs a = _
          rw [opsR_jump, hr1]
          rfl
        have hc : (c == 0) = false := by simpa using rdE_flt _ _ c y bf hr1
        clear hr1
        go_wp2_with fail
        refine hsm1.mono ?_
        rintro e wf ⟨rfl, hgf, hrf⟩
        have Sf := HS0.out.call hql hgf hrf
        have x0 := Sf.r6.cell 0
        have x1 := Sf.r6.cell 1
        have x2 := Sf.r6.cell 2
        have x3 := Sf.r6.cell 3
        have x4 := Sf.r6.cell 4
        have x5 := Sf.r6.cell 5
        have f0 := Sf.r6.frozen 0
        have f1 := Sf.r6.frozen 1
        have f2 := Sf.r6.frozen 2
        have f3 := Sf.r6.frozen 3
        have f4 := Sf.r6.frozen 4
        have f5 := Sf.r6.frozen 5
        have y0 := Sf.r7.cell 0
        have y1 := Sf.r7.cell 1
        have g0 := Sf.r7.frozen 0
        have g1 := Sf.r7.frozen 1
        have HSf := Lib.hid Sf
        clear Sf hgf hrf hsm1 hbig
        go_wp2_with fail
        go_meet
        exact .inl ⟨rfl, by rw [HRF.out]; exact ⟨⟨0, 0, 0, 0, .slice none 0 0, []⟩, 12, none, 0, 0, rfl, (HSf.out.fld hql 5 (.slice none 0 0)).flt hql c (y : Int)⟩⟩
      | ok l b1 =>
        rw [hr1] at hsm1
        have HRK : Hid (res = .ok ⟨12, 0, 0, 0, 0, l⟩ b1) := by
          show _ = _
          rw [← HRS.out]
          show opsR .jump 12 bs a = _
          rw [opsR_jump, hr1]
          rfl
        clear hr1
        go_wp2_with fail
        refine hsm1.mono ?_
        rintro e wk ⟨vl, rfl, hl, hgf, hrf⟩
        have Sk := HS0.out.call hql hgf hrf
        have hL : IntsA (fun k => w.heap.size + 1 + 1 + 1 < k) wk vl l := ints_more hl (by omega)
        obtain ⟨Av, cv, hv, _⟩ := id hl
        subst hv
        have x0 := Sk.r6.cell 0
        have x1 := Sk.r6.cell 1
        have x2 := Sk.r6.cell 2
        have x3 := Sk.r6.cell 3
        have x4 := Sk.r6.cell 4
        have x5 := Sk.r6.cell 5
        have f0 := Sk.r6.frozen 0
        have f1 := Sk.r6.frozen 1
        have f2 := Sk.r6.frozen 2
        have f3 := Sk.r6.frozen 3
        have f4 := Sk.r6.frozen 4
        have f5 := Sk.r6.frozen 5
        have y0 := Sk.r7.cell 0
        have y1 := Sk.r7.cell 1
        have g0 := Sk.r7.frozen 0
        have g1 := Sk.r7.frozen 1
        have HSk := Lib.hid Sk
        have HL := Lib.hid hL
        clear Sk hgf hrf hsm1 hl hL hbig
        go_wp2_with fail
        go_meet
        exact .inl ⟨rfl, by rw [HRK.out]; exact ⟨⟨0, 0, 0, 0, .slice Av l.length cv, l⟩, rfl, (HSk.out.fld hql 5 (.slice Av l.length cv)).flt hql 0 0, ints_set (ints_set (ints_set HL.out ⟨w.heap.size + 1 + 1, 5, none⟩ _ (Nat.le_succ _)) ⟨w.heap.size + 1 + 1 + 1, 0, none⟩ _ (Nat.le_refl _)) ⟨w.heap.size + 1 + 1 + 1, 1, none⟩ _ (Nat.le_refl _)⟩⟩
    · skip
      have hsm1 := rsm_is HS0.out.rd 15 ⟨by omega, by omega⟩
      cases hr1 : smR bs a 15 with
      | flt c y bf =>
        rw [hr1] at hsm1
        have HRF : Hid (res = .flt c y bf) := by
          show _ = _
          rw [← HRS.out]
          show opsR .select 18 bs a = _
          rw [opsR_select, hr1]
          rfl
        have hc : (c == 0) = false := by simpa using smR_flt c y bf hr1
        clear hr1
        go_wp2_with fail
        refine hsm1.mono ?_
        rintro e wf ⟨rfl, hgf, hrf⟩
        have Sf := HS0.out.call hql hgf hrf
        have x0 := Sf.r6.cell 0
        have x1 := Sf.r6.cell 1
        have x2 := Sf.r6.cell 2
        have x3 := Sf.r6.cell 3
        have x4 := Sf.r6.cell 4
        have x5 := Sf.r6.cell 5
        have f0 := Sf.r6.frozen 0
        have f1 := Sf.r6.frozen 1
        have f2 := Sf.r6.frozen 2
        have f3 := Sf.r6.frozen 3
        have f4 := Sf.r6.frozen 4
        have f5 := Sf.r6.frozen 5
        have y0 := Sf.r7.cell 0
        have y1 := Sf.r7.cell 1
        have g0 := Sf.r7.frozen 0
        have g1 := Sf.r7.frozen 1
        have HSf := Lib.hid Sf
        clear Sf hgf hrf hsm1
        go_wp2_with fail
        go_meet
        exact .inl ⟨rfl, by rw [HRF.out]; exact ⟨⟨0, 0, 0, 0, .slice none 0 0, []⟩, 18, none, 0, 0, rfl, (HSf.out.fld hql 2 (.int .i64 0)).flt hql c (y : Int)⟩⟩
      | ok v1 b1 =>
        rw [hr1] at hsm1
        have HHr1 := Lib.hid hr1
        clear hr1
        go_wp2_with fail
        refine hsm1.mono ?_
        rintro e wk1 ⟨he, hgf, hrf⟩
        have he' : e = .returned (.tuple #[.int .i64 v1, .agg #[.int .i64 0, .int .i64 0]]) := he
        subst he'
        clear he
        have Sk1 := HS0.out.call hql hgf hrf
        have x0 := Sk1.r6.cell 0
        have x1 := Sk1.r6.cell 1
        have x2 := Sk1.r6.cell 2
        have x3 := Sk1.r6.cell 3
        have x4 := Sk1.r6.cell 4
        have x5 := Sk1.r6.cell 5
        have f0 := Sk1.r6.frozen 0
        have f1 := Sk1.r6.frozen 1
        have f2 := Sk1.r6.frozen 2
        have f3 := Sk1.r6.frozen 3
        have f4 := Sk1.r6.frozen 4
        have f5 := Sk1.r6.frozen 5
        have y0 := Sk1.r7.cell 0
        have y1 := Sk1.r7.cell 1
        have g0 := Sk1.r7.frozen 0
        have g1 := Sk1.r7.frozen 1
        have St1 := (Sk1.fld hql 2 (.int .i64 v1)).flt hql 0 0
        have HSt1 := Lib.hid St1
        clear St1 Sk1 hgf hrf hsm1
        go_upto_region 20 with fail
        have hsm2 := rsm_is HSt1.out.rd 7 ⟨by omega, by omega⟩
        cases hr2 : smR bs b1 7 with
        | flt c y bf =>
          rw [hr2] at hsm2
          have HRF : Hid (res = .flt c y bf) := by
            show _ = _
            rw [← HRS.out]
            show opsR .select 18 bs a = _
            rw [opsR_select, HHr1.out, Rs.bind_ok, hr2]
            rfl
          have hc : (c == 0) = false := by simpa using smR_flt c y bf hr2
          clear hr2
          go_wp2_with fail
          refine hsm2.mono ?_
          rintro e wf ⟨rfl, hgf, hrf⟩
          have Sf := HSt1.out.call hql hgf hrf
          clear x0 x1 x2 x3 x4 x5 f0 f1 f2 f3 f4 f5 y0 y1 g0 g1
          have x0 := Sf.r6.cell 0
          have x1 := Sf.r6.cell 1
          have x2 := Sf.r6.cell 2
          have x3 := Sf.r6.cell 3
          have x4 := Sf.r6.cell 4
          have x5 := Sf.r6.cell 5
          have f0 := Sf.r6.frozen 0
          have f1 := Sf.r6.frozen 1
          have f2 := Sf.r6.frozen 2
          have f3 := Sf.r6.frozen 3
          have f4 := Sf.r6.frozen 4
          have f5 := Sf.r6.frozen 5
          have y0 := Sf.r7.cell 0
          have y1 := Sf.r7.cell 1
          have g0 := Sf.r7.frozen 0
          have g1 := Sf.r7.frozen 1
          have HSf := Lib.hid Sf
          clear Sf hgf hrf hsm2
          go_wp2_with fail
          go_meet
          exact .inl ⟨rfl, by rw [HRF.out]; exact ⟨⟨0, v1, 0, 0, .slice none 0 0, []⟩, 18, none, 0, 0, rfl, (HSf.out.fld hql 3 (.int .i64 0)).flt hql c (y : Int)⟩⟩
        | ok v2 b2 =>
          rw [hr2] at hsm2
          have HHr2 := Lib.hid hr2
          clear hr2
          go_wp2_with fail
          refine hsm2.mono ?_
          rintro e wk2 ⟨he, hgf, hrf⟩
          have he' : e = .returned (.tuple #[.int .i64 v2, .agg #[.int .i64 0, .int .i64 0]]) := he
          subst he'
          clear he
          have Sk2 := HSt1.out.call hql hgf hrf
          clear x0 x1 x2 x3 x4 x5 f0 f1 f2 f3 f4 f5 y0 y1 g0 g1
          have x0 := Sk2.r6.cell 0
          have x1 := Sk2.r6.cell 1
          have x2 := Sk2.r6.cell 2
          have x3 := Sk2.r6.cell 3
          have x4 := Sk2.r6.cell 4
          have x5 := Sk2.r6.cell 5
          have f0 := Sk2.r6.frozen 0
          have f1 := Sk2.r6.frozen 1
          have f2 := Sk2.r6.frozen 2
          have f3 := Sk2.r6.frozen 3
          have f4 := Sk2.r6.frozen 4
          have f5 := Sk2.r6.frozen 5
          have y0 := Sk2.r7.cell 0
          have y1 := Sk2.r7.cell 1
          have g0 := Sk2.r7.frozen 0
          have g1 := Sk2.r7.frozen 1
          have St2 := (Sk2.fld hql 3 (.int .i64 v2)).flt hql 0 0
          have HSt2 := Lib.hid St2
          clear St2 Sk2 hgf hrf hsm2
          have HRK : Hid (res = .ok ⟨18, 0, v1, v2, 0, []⟩ b2) := by
            show _ = _
            rw [← HRS.out]
            show opsR .select 18 bs a = _
            rw [opsR_select, HHr1.out, Rs.bind_ok, HHr2.out, Rs.bind_ok]
          go_wp2_with fail
          go_meet
          exact .inl ⟨rfl, by rw [HRK.out]; exact ⟨⟨0, v1, v2, 0, .slice none 0 0, []⟩, rfl, HSt2.out, none, 0, rfl, fun e => absurd rfl e⟩⟩
    · skip
      have hsm1 := rsm_is HS0.out.rd 15 ⟨by omega, by omega⟩
      cases hr1 : smR bs a 15 with
      | flt c y bf =>
        rw [hr1] at hsm1
        have HRF : Hid (res = .flt c y bf) := by
          show _ = _
          rw [← HRS.out]
          show opsR .branch 19 bs a = _
          rw [opsR_branch, hr1]
          rfl
        have hc : (c == 0) = false := by simpa using smR_flt c y bf hr1
        clear hr1
        go_wp2_with fail
        refine hsm1.mono ?_
        rintro e wf ⟨rfl, hgf, hrf⟩
        have Sf := HS0.out.call hql hgf hrf
        have x0 := Sf.r6.cell 0
        have x1 := Sf.r6.cell 1
        have x2 := Sf.r6.cell 2
        have x3 := Sf.r6.cell 3
        have x4 := Sf.r6.cell 4
        have x5 := Sf.r6.cell 5
        have f0 := Sf.r6.frozen 0
        have f1 := Sf.r6.frozen 1
        have f2 := Sf.r6.frozen 2
        have f3 := Sf.r6.frozen 3
        have f4 := Sf.r6.frozen 4
        have f5 := Sf.r6.frozen 5
        have y0 := Sf.r7.cell 0
        have y1 := Sf.r7.cell 1
        have g0 := Sf.r7.frozen 0
        have g1 := Sf.r7.frozen 1
        have HSf := Lib.hid Sf
        clear Sf hgf hrf hsm1
        go_wp2_with fail
        go_meet
        exact .inl ⟨rfl, by rw [HRF.out]; exact ⟨⟨0, 0, 0, 0, .slice none 0 0, []⟩, 19, none, 0, 0, rfl, (HSf.out.fld hql 2 (.int .i64 0)).flt hql c (y : Int)⟩⟩
      | ok v1 b1 =>
        rw [hr1] at hsm1
        have HHr1 := Lib.hid hr1
        clear hr1
        go_wp2_with fail
        refine hsm1.mono ?_
        rintro e wk1 ⟨he, hgf, hrf⟩
        have he' : e = .returned (.tuple #[.int .i64 v1, .agg #[.int .i64 0, .int .i64 0]]) := he
        subst he'
        clear he
        have Sk1 := HS0.out.call hql hgf hrf
        have x0 := Sk1.r6.cell 0
        have x1 := Sk1.r6.cell 1
        have x2 := Sk1.r6.cell 2
        have x3 := Sk1.r6.cell 3
        have x4 := Sk1.r6.cell 4
        have x5 := Sk1.r6.cell 5
        have f0 := Sk1.r6.frozen 0
        have f1 := Sk1.r6.frozen 1
        have f2 := Sk1.r6.frozen 2
        have f3 := Sk1.r6.frozen 3
        have f4 := Sk1.r6.frozen 4
        have f5 := Sk1.r6.frozen 5
        have y0 := Sk1.r7.cell 0
        have y1 := Sk1.r7.cell 1
        have g0 := Sk1.r7.frozen 0
        have g1 := Sk1.r7.frozen 1
        have St1 := (Sk1.fld hql 2 (.int .i64 v1)).flt hql 0 0
        have HSt1 := Lib.hid St1
        clear St1 Sk1 hgf hrf hsm1
        go_upto_region 27 with fail
        have hsm2 := rcounted_any HSt1.out.rd 8 127 (by omega) (by omega) ⟨by omega, by omega⟩
        have hbig := HSt1.out.r7.lt
        cases hr2 : (smR bs b1 8).bind (fun v b => rdE 127 bs v.toNat b) with
        | flt c y bf =>
          rw [hr2] at hsm2
          have HRF : Hid (res = .flt c y bf) := by
            show _ = _
            rw [← HRS.out]
            show opsR .branch 19 bs a = _
            rw [opsR_branch, HHr1.out, Rs.bind_ok, hr2]
            rfl
          have hc : (c == 0) = false := by simpa using bind_flt_is (P := fun c => c ≠ 0) (fun c y b h => smR_flt c y b h) (fun v b c y d h => rdE_flt _ _ c y d h) hr2
          clear hr2
          go_wp2_with fail
          refine hsm2.mono ?_
          rintro e wf ⟨rfl, hgf, hrf⟩
          have Sf := HSt1.out.call hql hgf hrf
          clear x0 x1 x2 x3 x4 x5 f0 f1 f2 f3 f4 f5 y0 y1 g0 g1
          have x0 := Sf.r6.cell 0
          have x1 := Sf.r6.cell 1
          have x2 := Sf.r6.cell 2
          have x3 := Sf.r6.cell 3
          have x4 := Sf.r6.cell 4
          have x5 := Sf.r6.cell 5
          have f0 := Sf.r6.frozen 0
          have f1 := Sf.r6.frozen 1
          have f2 := Sf.r6.frozen 2
          have f3 := Sf.r6.frozen 3
          have f4 := Sf.r6.frozen 4
          have f5 := Sf.r6.frozen 5
          have y0 := Sf.r7.cell 0
          have y1 := Sf.r7.cell 1
          have g0 := Sf.r7.frozen 0
          have g1 := Sf.r7.frozen 1
          have HSf := Lib.hid Sf
          clear Sf hgf hrf hsm2 hbig
          go_wp2_with fail
          go_meet
          exact .inl ⟨rfl, by rw [HRF.out]; exact ⟨⟨0, v1, 0, 0, .slice none 0 0, []⟩, 19, none, 0, 0, rfl, (HSf.out.fld hql 5 (.slice none 0 0)).flt hql c (y : Int)⟩⟩
        | ok l b2 =>
          rw [hr2] at hsm2
          have HRK : Hid (res = .ok ⟨19, 0, v1, 0, 0, l⟩ b2) := by
            show _ = _
            rw [← HRS.out]
            show opsR .branch 19 bs a = _
            rw [opsR_branch, HHr1.out, Rs.bind_ok, hr2]
            rfl
          clear hr2
          go_wp2_with fail
          refine hsm2.mono ?_
          rintro e wk ⟨vl, rfl, hl, hgf, hrf⟩
          have Sk := HSt1.out.call hql hgf hrf
          clear x0 x1 x2 x3 x4 x5 f0 f1 f2 f3 f4 f5 y0 y1 g0 g1
          have hL : IntsA (fun k => w.heap.size + 1 + 1 + 1 < k) wk vl l := ints_more hl (by omega)
          obtain ⟨Av, cv, hv, _⟩ := id hl
          subst hv
          have x0 := Sk.r6.cell 0
          have x1 := Sk.r6.cell 1
          have x2 := Sk.r6.cell 2
          have x3 := Sk.r6.cell 3
          have x4 := Sk.r6.cell 4
          have x5 := Sk.r6.cell 5
          have f0 := Sk.r6.frozen 0
          have f1 := Sk.r6.frozen 1
          have f2 := Sk.r6.frozen 2
          have f3 := Sk.r6.frozen 3
          have f4 := Sk.r6.frozen 4
          have f5 := Sk.r6.frozen 5
          have y0 := Sk.r7.cell 0
          have y1 := Sk.r7.cell 1
          have g0 := Sk.r7.frozen 0
          have g1 := Sk.r7.frozen 1
          have HSk := Lib.hid Sk
          have HL := Lib.hid hL
          clear Sk hgf hrf hsm2 hl hL hbig
          go_wp2_with fail
          go_meet
          exact .inl ⟨rfl, by rw [HRK.out]; exact ⟨⟨0, v1, 0, 0, .slice Av l.length cv, l⟩, rfl, (HSk.out.fld hql 5 (.slice Av l.length cv)).flt hql 0 0, ints_set (ints_set (ints_set HL.out ⟨w.heap.size + 1 + 1, 5, none⟩ _ (Nat.le_succ _)) ⟨w.heap.size + 1 + 1 + 1, 0, none⟩ _ (Nat.le_refl _)) ⟨w.heap.size + 1 + 1 + 1, 1, none⟩ _ (Nat.le_refl _)⟩⟩
    · skip
      have hsm1 := rsm_is HS0.out.rd 63 ⟨by omega, by omega⟩
      cases hr1 : smR bs a 63 with
      | flt c y bf =>
        rw [hr1] at hsm1
        have HRF : Hid (res = .flt c y bf) := by
          show _ = _
          rw [← HRS.out]
          show opsR .new_ 20 bs a = _
          rw [opsR_new, hr1]
          rfl
        have hc : (c == 0) = false := by simpa using smR_flt c y bf hr1
        clear hr1
        go_wp2_with fail
        refine hsm1.mono ?_
        rintro e wf ⟨rfl, hgf, hrf⟩
        have Sf := HS0.out.call hql hgf hrf
        have x0 := Sf.r6.cell 0
        have x1 := Sf.r6.cell 1
        have x2 := Sf.r6.cell 2
        have x3 := Sf.r6.cell 3
        have x4 := Sf.r6.cell 4
        have x5 := Sf.r6.cell 5
        have f0 := Sf.r6.frozen 0
        have f1 := Sf.r6.frozen 1
        have f2 := Sf.r6.frozen 2
        have f3 := Sf.r6.frozen 3
        have f4 := Sf.r6.frozen 4
        have f5 := Sf.r6.frozen 5
        have y0 := Sf.r7.cell 0
        have y1 := Sf.r7.cell 1
        have g0 := Sf.r7.frozen 0
        have g1 := Sf.r7.frozen 1
        have HSf := Lib.hid Sf
        clear Sf hgf hrf hsm1
        go_wp2_with fail
        go_meet
        exact .inl ⟨rfl, by rw [HRF.out]; exact ⟨⟨0, 0, 0, 0, .slice none 0 0, []⟩, 20, none, 0, 0, rfl, (HSf.out.fld hql 2 (.int .i64 0)).flt hql c (y : Int)⟩⟩
      | ok v1 b1 =>
        rw [hr1] at hsm1
        have HHr1 := Lib.hid hr1
        clear hr1
        go_wp2_with fail
        refine hsm1.mono ?_
        rintro e wk1 ⟨he, hgf, hrf⟩
        have he' : e = .returned (.tuple #[.int .i64 v1, .agg #[.int .i64 0, .int .i64 0]]) := he
        subst he'
        clear he
        have Sk1 := HS0.out.call hql hgf hrf
        have x0 := Sk1.r6.cell 0
        have x1 := Sk1.r6.cell 1
        have x2 := Sk1.r6.cell 2
        have x3 := Sk1.r6.cell 3
        have x4 := Sk1.r6.cell 4
        have x5 := Sk1.r6.cell 5
        have f0 := Sk1.r6.frozen 0
        have f1 := Sk1.r6.frozen 1
        have f2 := Sk1.r6.frozen 2
        have f3 := Sk1.r6.frozen 3
        have f4 := Sk1.r6.frozen 4
        have f5 := Sk1.r6.frozen 5
        have y0 := Sk1.r7.cell 0
        have y1 := Sk1.r7.cell 1
        have g0 := Sk1.r7.frozen 0
        have g1 := Sk1.r7.frozen 1
        have St1 := (Sk1.fld hql 2 (.int .i64 v1)).flt hql 0 0
        have HSt1 := Lib.hid St1
        clear St1 Sk1 hgf hrf hsm1
        go_upto_region 35 with fail
        have hsm2 := rsm_is HSt1.out.rd 1000 ⟨by omega, by omega⟩
        cases hr2 : smR bs b1 1000 with
        | flt c y bf =>
          rw [hr2] at hsm2
          have HRF : Hid (res = .flt c y bf) := by
            show _ = _
            rw [← HRS.out]
            show opsR .new_ 20 bs a = _
            rw [opsR_new, HHr1.out, Rs.bind_ok, hr2]
            rfl
          have hc : (c == 0) = false := by simpa using smR_flt c y bf hr2
          clear hr2
          go_wp2_with fail
          refine hsm2.mono ?_
          rintro e wf ⟨rfl, hgf, hrf⟩
          have Sf := HSt1.out.call hql hgf hrf
          clear x0 x1 x2 x3 x4 x5 f0 f1 f2 f3 f4 f5 y0 y1 g0 g1
          have x0 := Sf.r6.cell 0
          have x1 := Sf.r6.cell 1
          have x2 := Sf.r6.cell 2
          have x3 := Sf.r6.cell 3
          have x4 := Sf.r6.cell 4
          have x5 := Sf.r6.cell 5
          have f0 := Sf.r6.frozen 0
          have f1 := Sf.r6.frozen 1
          have f2 := Sf.r6.frozen 2
          have f3 := Sf.r6.frozen 3
          have f4 := Sf.r6.frozen 4
          have f5 := Sf.r6.frozen 5
          have y0 := Sf.r7.cell 0
          have y1 := Sf.r7.cell 1
          have g0 := Sf.r7.frozen 0
          have g1 := Sf.r7.frozen 1
          have HSf := Lib.hid Sf
          clear Sf hgf hrf hsm2
          go_wp2_with fail
          go_meet
          exact .inl ⟨rfl, by rw [HRF.out]; exact ⟨⟨0, v1, 0, 0, .slice none 0 0, []⟩, 20, none, 0, 0, rfl, (HSf.out.fld hql 4 (.int .i64 0)).flt hql c (y : Int)⟩⟩
        | ok v2 b2 =>
          rw [hr2] at hsm2
          have HHr2 := Lib.hid hr2
          clear hr2
          go_wp2_with fail
          refine hsm2.mono ?_
          rintro e wk2 ⟨he, hgf, hrf⟩
          have he' : e = .returned (.tuple #[.int .i64 v2, .agg #[.int .i64 0, .int .i64 0]]) := he
          subst he'
          clear he
          have Sk2 := HSt1.out.call hql hgf hrf
          clear x0 x1 x2 x3 x4 x5 f0 f1 f2 f3 f4 f5 y0 y1 g0 g1
          have x0 := Sk2.r6.cell 0
          have x1 := Sk2.r6.cell 1
          have x2 := Sk2.r6.cell 2
          have x3 := Sk2.r6.cell 3
          have x4 := Sk2.r6.cell 4
          have x5 := Sk2.r6.cell 5
          have f0 := Sk2.r6.frozen 0
          have f1 := Sk2.r6.frozen 1
          have f2 := Sk2.r6.frozen 2
          have f3 := Sk2.r6.frozen 3
          have f4 := Sk2.r6.frozen 4
          have f5 := Sk2.r6.frozen 5
          have y0 := Sk2.r7.cell 0
          have y1 := Sk2.r7.cell 1
          have g0 := Sk2.r7.frozen 0
          have g1 := Sk2.r7.frozen 1
          have St2 := (Sk2.fld hql 4 (.int .i64 v2)).flt hql 0 0
          have HSt2 := Lib.hid St2
          clear St2 Sk2 hgf hrf hsm2
          go_upto_region 37 with fail
          have hsm3 := rlist_any HSt2.out.rd 2 (by omega) 15 ⟨by omega, by omega⟩
          have hbig := HSt2.out.r7.lt
          cases hr3 : rdE 15 bs 2 b2 with
          | flt c y bf =>
            rw [hr3] at hsm3
            have HRF : Hid (res = .flt c y bf) := by
              show _ = _
              rw [← HRS.out]
              show opsR .new_ 20 bs a = _
              rw [opsR_new, HHr1.out, Rs.bind_ok, HHr2.out, Rs.bind_ok, hr3]
              rfl
            have hc : (c == 0) = false := by simpa using rdE_flt _ _ c y bf hr3
            clear hr3
            go_wp2_with fail
            refine hsm3.mono ?_
            rintro e wf ⟨rfl, hgf, hrf⟩
            have Sf := HSt2.out.call hql hgf hrf
            clear x0 x1 x2 x3 x4 x5 f0 f1 f2 f3 f4 f5 y0 y1 g0 g1
            have x0 := Sf.r6.cell 0
            have x1 := Sf.r6.cell 1
            have x2 := Sf.r6.cell 2
            have x3 := Sf.r6.cell 3
            have x4 := Sf.r6.cell 4
            have x5 := Sf.r6.cell 5
            have f0 := Sf.r6.frozen 0
            have f1 := Sf.r6.frozen 1
            have f2 := Sf.r6.frozen 2
            have f3 := Sf.r6.frozen 3
            have f4 := Sf.r6.frozen 4
            have f5 := Sf.r6.frozen 5
            have y0 := Sf.r7.cell 0
            have y1 := Sf.r7.cell 1
            have g0 := Sf.r7.frozen 0
            have g1 := Sf.r7.frozen 1
            have HSf := Lib.hid Sf
            clear Sf hgf hrf hsm3 hbig
            go_wp2_with fail
            go_meet
            exact .inl ⟨rfl, by rw [HRF.out]; exact ⟨⟨0, v1, 0, v2, .slice none 0 0, []⟩, 20, none, 0, 0, rfl, (HSf.out.fld hql 5 (.slice none 0 0)).flt hql c (y : Int)⟩⟩
          | ok l b3 =>
            rw [hr3] at hsm3
            have HRK : Hid (res = .ok ⟨20, 0, v1, 0, v2, l⟩ b3) := by
              show _ = _
              rw [← HRS.out]
              show opsR .new_ 20 bs a = _
              rw [opsR_new, HHr1.out, Rs.bind_ok, HHr2.out, Rs.bind_ok, hr3]
              rfl
            clear hr3
            go_wp2_with fail
            refine hsm3.mono ?_
            rintro e wk ⟨vl, rfl, hl, hgf, hrf⟩
            have Sk := HSt2.out.call hql hgf hrf
            clear x0 x1 x2 x3 x4 x5 f0 f1 f2 f3 f4 f5 y0 y1 g0 g1
            have hL : IntsA (fun k => w.heap.size + 1 + 1 + 1 < k) wk vl l := ints_more hl (by omega)
            obtain ⟨Av, cv, hv, _⟩ := id hl
            subst hv
            have x0 := Sk.r6.cell 0
            have x1 := Sk.r6.cell 1
            have x2 := Sk.r6.cell 2
            have x3 := Sk.r6.cell 3
            have x4 := Sk.r6.cell 4
            have x5 := Sk.r6.cell 5
            have f0 := Sk.r6.frozen 0
            have f1 := Sk.r6.frozen 1
            have f2 := Sk.r6.frozen 2
            have f3 := Sk.r6.frozen 3
            have f4 := Sk.r6.frozen 4
            have f5 := Sk.r6.frozen 5
            have y0 := Sk.r7.cell 0
            have y1 := Sk.r7.cell 1
            have g0 := Sk.r7.frozen 0
            have g1 := Sk.r7.frozen 1
            have HSk := Lib.hid Sk
            have HL := Lib.hid hL
            clear Sk hgf hrf hsm3 hl hL hbig
            go_wp2_with fail
            go_meet
            exact .inl ⟨rfl, by rw [HRK.out]; exact ⟨⟨0, v1, 0, v2, .slice Av l.length cv, l⟩, rfl, (HSk.out.fld hql 5 (.slice Av l.length cv)).flt hql 0 0, ints_set (ints_set (ints_set HL.out ⟨w.heap.size + 1 + 1, 5, none⟩ _ (Nat.le_succ _)) ⟨w.heap.size + 1 + 1 + 1, 0, none⟩ _ (Nat.le_refl _)) ⟨w.heap.size + 1 + 1 + 1, 1, none⟩ _ (Nat.le_refl _)⟩⟩
    · skip
      have hsm1 := rsm_is HS0.out.rd 15 ⟨by omega, by omega⟩
      cases hr1 : smR bs a 15 with
      | flt c y bf =>
        rw [hr1] at hsm1
        have HRF : Hid (res = .flt c y bf) := by
          show _ = _
          rw [← HRS.out]
          show opsR .spawn 21 bs a = _
          rw [opsR_spawn, hr1]
          rfl
        have hc : (c == 0) = false := by simpa using smR_flt c y bf hr1
        clear hr1
        go_wp2_with fail
        refine hsm1.mono ?_
        rintro e wf ⟨rfl, hgf, hrf⟩
        have Sf := HS0.out.call hql hgf hrf
        have x0 := Sf.r6.cell 0
        have x1 := Sf.r6.cell 1
        have x2 := Sf.r6.cell 2
        have x3 := Sf.r6.cell 3
        have x4 := Sf.r6.cell 4
        have x5 := Sf.r6.cell 5
        have f0 := Sf.r6.frozen 0
        have f1 := Sf.r6.frozen 1
        have f2 := Sf.r6.frozen 2
        have f3 := Sf.r6.frozen 3
        have f4 := Sf.r6.frozen 4
        have f5 := Sf.r6.frozen 5
        have y0 := Sf.r7.cell 0
        have y1 := Sf.r7.cell 1
        have g0 := Sf.r7.frozen 0
        have g1 := Sf.r7.frozen 1
        have HSf := Lib.hid Sf
        clear Sf hgf hrf hsm1
        go_wp2_with fail
        go_meet
        exact .inl ⟨rfl, by rw [HRF.out]; exact ⟨⟨0, 0, 0, 0, .slice none 0 0, []⟩, 21, none, 0, 0, rfl, (HSf.out.fld hql 2 (.int .i64 0)).flt hql c (y : Int)⟩⟩
      | ok v1 b1 =>
        rw [hr1] at hsm1
        have HHr1 := Lib.hid hr1
        clear hr1
        go_wp2_with fail
        refine hsm1.mono ?_
        rintro e wk1 ⟨he, hgf, hrf⟩
        have he' : e = .returned (.tuple #[.int .i64 v1, .agg #[.int .i64 0, .int .i64 0]]) := he
        subst he'
        clear he
        have Sk1 := HS0.out.call hql hgf hrf
        have x0 := Sk1.r6.cell 0
        have x1 := Sk1.r6.cell 1
        have x2 := Sk1.r6.cell 2
        have x3 := Sk1.r6.cell 3
        have x4 := Sk1.r6.cell 4
        have x5 := Sk1.r6.cell 5
        have f0 := Sk1.r6.frozen 0
        have f1 := Sk1.r6.frozen 1
        have f2 := Sk1.r6.frozen 2
        have f3 := Sk1.r6.frozen 3
        have f4 := Sk1.r6.frozen 4
        have f5 := Sk1.r6.frozen 5
        have y0 := Sk1.r7.cell 0
        have y1 := Sk1.r7.cell 1
        have g0 := Sk1.r7.frozen 0
        have g1 := Sk1.r7.frozen 1
        have St1 := (Sk1.fld hql 2 (.int .i64 v1)).flt hql 0 0
        have HSt1 := Lib.hid St1
        clear St1 Sk1 hgf hrf hsm1
        go_upto_region 31 with fail
        have hsm2 := rcounted_any HSt1.out.rd 8 15 (by omega) (by omega) ⟨by omega, by omega⟩
        have hbig := HSt1.out.r7.lt
        cases hr2 : (smR bs b1 8).bind (fun v b => rdE 15 bs v.toNat b) with
        | flt c y bf =>
          rw [hr2] at hsm2
          have HRF : Hid (res = .flt c y bf) := by
            show _ = _
            rw [← HRS.out]
            show opsR .spawn 21 bs a = _
            rw [opsR_spawn, HHr1.out, Rs.bind_ok, hr2]
            rfl
          have hc : (c == 0) = false := by simpa using bind_flt_is (P := fun c => c ≠ 0) (fun c y b h => smR_flt c y b h) (fun v b c y d h => rdE_flt _ _ c y d h) hr2
          clear hr2
          go_wp2_with fail
          refine hsm2.mono ?_
          rintro e wf ⟨rfl, hgf, hrf⟩
          have Sf := HSt1.out.call hql hgf hrf
          clear x0 x1 x2 x3 x4 x5 f0 f1 f2 f3 f4 f5 y0 y1 g0 g1
          have x0 := Sf.r6.cell 0
          have x1 := Sf.r6.cell 1
          have x2 := Sf.r6.cell 2
          have x3 := Sf.r6.cell 3
          have x4 := Sf.r6.cell 4
          have x5 := Sf.r6.cell 5
          have f0 := Sf.r6.frozen 0
          have f1 := Sf.r6.frozen 1
          have f2 := Sf.r6.frozen 2
          have f3 := Sf.r6.frozen 3
          have f4 := Sf.r6.frozen 4
          have f5 := Sf.r6.frozen 5
          have y0 := Sf.r7.cell 0
          have y1 := Sf.r7.cell 1
          have g0 := Sf.r7.frozen 0
          have g1 := Sf.r7.frozen 1
          have HSf := Lib.hid Sf
          clear Sf hgf hrf hsm2 hbig
          go_wp2_with fail
          go_meet
          exact .inl ⟨rfl, by rw [HRF.out]; exact ⟨⟨0, v1, 0, 0, .slice none 0 0, []⟩, 21, none, 0, 0, rfl, (HSf.out.fld hql 5 (.slice none 0 0)).flt hql c (y : Int)⟩⟩
        | ok l b2 =>
          rw [hr2] at hsm2
          have HRK : Hid (res = .ok ⟨21, 0, v1, 0, 0, l⟩ b2) := by
            show _ = _
            rw [← HRS.out]
            show opsR .spawn 21 bs a = _
            rw [opsR_spawn, HHr1.out, Rs.bind_ok, hr2]
            rfl
          clear hr2
          go_wp2_with fail
          refine hsm2.mono ?_
          rintro e wk ⟨vl, rfl, hl, hgf, hrf⟩
          have Sk := HSt1.out.call hql hgf hrf
          clear x0 x1 x2 x3 x4 x5 f0 f1 f2 f3 f4 f5 y0 y1 g0 g1
          have hL : IntsA (fun k => w.heap.size + 1 + 1 + 1 < k) wk vl l := ints_more hl (by omega)
          obtain ⟨Av, cv, hv, _⟩ := id hl
          subst hv
          have x0 := Sk.r6.cell 0
          have x1 := Sk.r6.cell 1
          have x2 := Sk.r6.cell 2
          have x3 := Sk.r6.cell 3
          have x4 := Sk.r6.cell 4
          have x5 := Sk.r6.cell 5
          have f0 := Sk.r6.frozen 0
          have f1 := Sk.r6.frozen 1
          have f2 := Sk.r6.frozen 2
          have f3 := Sk.r6.frozen 3
          have f4 := Sk.r6.frozen 4
          have f5 := Sk.r6.frozen 5
          have y0 := Sk.r7.cell 0
          have y1 := Sk.r7.cell 1
          have g0 := Sk.r7.frozen 0
          have g1 := Sk.r7.frozen 1
          have HSk := Lib.hid Sk
          have HL := Lib.hid hL
          clear Sk hgf hrf hsm2 hl hL hbig
          go_wp2_with fail
          go_meet
          exact .inl ⟨rfl, by rw [HRK.out]; exact ⟨⟨0, v1, 0, 0, .slice Av l.length cv, l⟩, rfl, (HSk.out.fld hql 5 (.slice Av l.length cv)).flt hql 0 0, ints_set (ints_set (ints_set HL.out ⟨w.heap.size + 1 + 1, 5, none⟩ _ (Nat.le_succ _)) ⟨w.heap.size + 1 + 1 + 1, 0, none⟩ _ (Nat.le_refl _)) ⟨w.heap.size + 1 + 1 + 1, 1, none⟩ _ (Nat.le_refl _)⟩⟩
  case rest =>
    rcases hcut with ⟨rfl, hos⟩ | ⟨z1, z2, bl, off, cp, b, rfl, hbl, h1, h2, S, hres2⟩
    · cases res with
      | ok x b =>
        obtain ⟨s, hs, S, hI⟩ := hos
        obtain ⟨a1, b1, c1, d1, lv, l⟩ := s
        obtain ⟨Al, cl, hlv, _⟩ := id hI
        dsimp only at hlv
        subst hlv
        obtain ⟨op2, hop⟩ : ∃ op2 : Int, x.op = op2 := ⟨_, rfl⟩
        rw [hop] at S hs
        unfold Sg.cells at S
        dsimp only at S
        have HS := Lib.hid S
        have HI := Lib.hid hI
        have HH := Lib.hid hs
        have HOP := Lib.hid hop
        have x0 := S.r6.cell 0
        have x1 := S.r6.cell 1
        have x2 := S.r6.cell 2
        have x3 := S.r6.cell 3
        have x4 := S.r6.cell 4
        have x5 := S.r6.cell 5
        have f0 := S.r6.frozen 0
        have f1 := S.r6.frozen 1
        have f2 := S.r6.frozen 2
        have f3 := S.r6.frozen 3
        have f4 := S.r6.frozen 4
        have f5 := S.r6.frozen 5
        have y0 := S.r7.cell 0
        have y1 := S.r7.cell 1
        have g0 := S.r7.frozen 0
        have g1 := S.r7.frozen 1
        have m0 := S.r4.frozen 0
        have m1 := S.r4.frozen 1
        have m2 := S.r4.frozen 2
        have m3 := S.r4.frozen 3
        have m4 := S.r4.frozen 4
        have m5 := S.r4.frozen 5
        have p0 : (wc).cell? ⟨w.heap.size, 0, none⟩ = some (.int .i64 0) := S.r4.cell 0
        have p1 : (wc).cell? ⟨w.heap.size, 1, none⟩ = some (.int .i64 0) := S.r4.cell 1
        have p2 : (wc).cell? ⟨w.heap.size, 2, none⟩ = some (.int .i64 0) := S.r4.cell 2
        have p3 : (wc).cell? ⟨w.heap.size, 3, none⟩ = some (.int .i64 0) := S.r4.cell 3
        have p4 : (wc).cell? ⟨w.heap.size, 4, none⟩ = some (.int .i64 0) := S.r4.cell 4
        have p5 : (wc).cell? ⟨w.heap.size, 5, none⟩ = some (.slice none 0 0) := S.r4.cell 5
        have n0 := S.r5.frozen 0
        have n1 := S.r5.frozen 1
        have k0 := S.r5.cell 0
        have k1 := S.r5.cell 1
        clear S hI hs hop HS0 HRS
        go_wp2_with fail
        go_region
        all_goals go_wp2
        obtain ⟨e4, e5, eg, er, ei⟩ := HS.out.end_ hql (.int .i64 op2) (.int .i64 a1) (.int .i64 b1) (.int .i64 c1) (.int .i64 d1) (.slice Al l.length cl) (0) (0)
        unfold setI at e4 e5 eg er ei
        have q0 := e4.cell 0
        have q1 := e4.cell 1
        have q2 := e4.cell 2
        have q3 := e4.cell 3
        have q4 := e4.cell 4
        have q5 := e4.cell 5
        have s0 := e5.cell 0
        have s1 := e5.cell 1
        exact bodyPost_ret (v := .tuple #[.agg #[.int .i64 op2, .int .i64 a1, .int .i64 b1, .int .i64 c1, .int .i64 d1, .slice Al l.length cl], .agg #[.int .i64 (0), .int .i64 (0)]]) (by simp [results, Tryd.results46, go_sem, q0, q1, q2, q3, q4, q5, s0, s1]) rfl ⟨⟨a1, b1, c1, d1, .slice Al l.length cl, l⟩, by rw [HOP.out]; exact HH.out, by rw [HOP.out]; rfl, ei _ _ HI.out, eg, er⟩
      | flt c y b =>
        obtain ⟨s, op2, Al, nl, cl, hlv, S⟩ := hos
        obtain ⟨a1, b1, c1, d1, lv, l⟩ := s
        dsimp only at hlv
        subst hlv
        unfold Sg.cells at S
        dsimp only at S
        have HS := Lib.hid S
        have x0 := S.r6.cell 0
        have x1 := S.r6.cell 1
        have x2 := S.r6.cell 2
        have x3 := S.r6.cell 3
        have x4 := S.r6.cell 4
        have x5 := S.r6.cell 5
        have f0 := S.r6.frozen 0
        have f1 := S.r6.frozen 1
        have f2 := S.r6.frozen 2
        have f3 := S.r6.frozen 3
        have f4 := S.r6.frozen 4
        have f5 := S.r6.frozen 5
        have y0' := S.r7.cell 0
        have y1' := S.r7.cell 1
        have g0 := S.r7.frozen 0
        have g1 := S.r7.frozen 1
        have m0 := S.r4.frozen 0
        have m1 := S.r4.frozen 1
        have m2 := S.r4.frozen 2
        have m3 := S.r4.frozen 3
        have m4 := S.r4.frozen 4
        have m5 := S.r4.frozen 5
        have p0 : (wc).cell? ⟨w.heap.size, 0, none⟩ = some (.int .i64 0) := S.r4.cell 0
        have p1 : (wc).cell? ⟨w.heap.size, 1, none⟩ = some (.int .i64 0) := S.r4.cell 1
        have p2 : (wc).cell? ⟨w.heap.size, 2, none⟩ = some (.int .i64 0) := S.r4.cell 2
        have p3 : (wc).cell? ⟨w.heap.size, 3, none⟩ = some (.int .i64 0) := S.r4.cell 3
        have p4 : (wc).cell? ⟨w.heap.size, 4, none⟩ = some (.int .i64 0) := S.r4.cell 4
        have p5 : (wc).cell? ⟨w.heap.size, 5, none⟩ = some (.slice none 0 0) := S.r4.cell 5
        have n0 := S.r5.frozen 0
        have n1 := S.r5.frozen 1
        have k0 := S.r5.cell 0
        have k1 := S.r5.cell 1
        clear S HS0 HRS
        go_wp2_with fail
        go_region
        all_goals go_wp2
        obtain ⟨e4, e5, eg, er, ei⟩ := HS.out.end_ hql (.int .i64 op2) (.int .i64 a1) (.int .i64 b1) (.int .i64 c1) (.int .i64 d1) (.slice Al nl cl) (c) ((y : Int))
        unfold setI at e4 e5 eg er ei
        have q0 := e4.cell 0
        have q1 := e4.cell 1
        have q2 := e4.cell 2
        have q3 := e4.cell 3
        have q4 := e4.cell 4
        have q5 := e4.cell 5
        have s0 := e5.cell 0
        have s1 := e5.cell 1
        exact bodyPost_ret (v := .tuple #[.agg #[.int .i64 op2, .int .i64 a1, .int .i64 b1, .int .i64 c1, .int .i64 d1, .slice Al nl cl], .agg #[.int .i64 (c), .int .i64 ((y : Int))]]) (by simp [results, Tryd.results46, go_sem, q0, q1, q2, q3, q4, q5, s0, s1]) rfl ⟨⟨a1, b1, c1, d1, .slice Al nl cl, l⟩, op2, Al, nl, cl, rfl, rfl, eg, er⟩
    · have HS := Lib.hid S
      have HH := Lib.hid hres2
      have x0 := S.r6.cell 0
      have x1 := S.r6.cell 1
      have x2 := S.r6.cell 2
      have x3 := S.r6.cell 3
      have x4 := S.r6.cell 4
      have x5 := S.r6.cell 5
      have f0 := S.r6.frozen 0
      have f1 := S.r6.frozen 1
      have f2 := S.r6.frozen 2
      have f3 := S.r6.frozen 3
      have f4 := S.r6.frozen 4
      have f5 := S.r6.frozen 5
      have y0 := S.r7.cell 0
      have y1 := S.r7.cell 1
      have g0 := S.r7.frozen 0
      have g1 := S.r7.frozen 1
      clear S hres2 HS0 HRS
      go_upto_region 41 with fail
      clear x0 x1 x2 x3 x4 x5 f0 f1 f2 f3 f4 f5 y0 y1 g0 g1
      have S2 := (HS.out.fld hql 2 (.int .i64 z1)).fld hql 3 (.int .i64 z2)
      have HS2 := Lib.hid S2
      have x0 := S2.r6.cell 0
      have x1 := S2.r6.cell 1
      have x2 := S2.r6.cell 2
      have x3 := S2.r6.cell 3
      have x4 := S2.r6.cell 4
      have x5 := S2.r6.cell 5
      have f0 := S2.r6.frozen 0
      have f1 := S2.r6.frozen 1
      have f2 := S2.r6.frozen 2
      have f3 := S2.r6.frozen 3
      have f4 := S2.r6.frozen 4
      have f5 := S2.r6.frozen 5
      have y0 := S2.r7.cell 0
      have y1 := S2.r7.cell 1
      have g0 := S2.r7.frozen 0
      have g1 := S2.r7.frozen 1
      have m0 := S2.r4.frozen 0
      have m1 := S2.r4.frozen 1
      have m2 := S2.r4.frozen 2
      have m3 := S2.r4.frozen 3
      have m4 := S2.r4.frozen 4
      have m5 := S2.r4.frozen 5
      have p0 : ((wc.setCell ⟨w.heap.size + 1 + 1, 2, none⟩ (.int .i64 z1)).setCell ⟨w.heap.size + 1 + 1, 3, none⟩ (.int .i64 z2)).cell? ⟨w.heap.size, 0, none⟩ = some (.int .i64 0) := S2.r4.cell 0
      have p1 : ((wc.setCell ⟨w.heap.size + 1 + 1, 2, none⟩ (.int .i64 z1)).setCell ⟨w.heap.size + 1 + 1, 3, none⟩ (.int .i64 z2)).cell? ⟨w.heap.size, 1, none⟩ = some (.int .i64 0) := S2.r4.cell 1
      have p2 : ((wc.setCell ⟨w.heap.size + 1 + 1, 2, none⟩ (.int .i64 z1)).setCell ⟨w.heap.size + 1 + 1, 3, none⟩ (.int .i64 z2)).cell? ⟨w.heap.size, 2, none⟩ = some (.int .i64 0) := S2.r4.cell 2
      have p3 : ((wc.setCell ⟨w.heap.size + 1 + 1, 2, none⟩ (.int .i64 z1)).setCell ⟨w.heap.size + 1 + 1, 3, none⟩ (.int .i64 z2)).cell? ⟨w.heap.size, 3, none⟩ = some (.int .i64 0) := S2.r4.cell 3
      have p4 : ((wc.setCell ⟨w.heap.size + 1 + 1, 2, none⟩ (.int .i64 z1)).setCell ⟨w.heap.size + 1 + 1, 3, none⟩ (.int .i64 z2)).cell? ⟨w.heap.size, 4, none⟩ = some (.int .i64 0) := S2.r4.cell 4
      have p5 : ((wc.setCell ⟨w.heap.size + 1 + 1, 2, none⟩ (.int .i64 z1)).setCell ⟨w.heap.size + 1 + 1, 3, none⟩ (.int .i64 z2)).cell? ⟨w.heap.size, 5, none⟩ = some (.slice none 0 0) := S2.r4.cell 5
      have n0 := S2.r5.frozen 0
      have n1 := S2.r5.frozen 1
      have k0 := S2.r5.cell 0
      have k1 := S2.r5.cell 1
      clear S2 h1 h2
      go_wp2_with fail
      go_region
      all_goals go_wp2
      obtain ⟨e4, e5, eg, er, ei⟩ := HS2.out.end_ hql (.int .i64 op) (.int .i64 0) (.int .i64 z1) (.int .i64 z2) (.int .i64 0) (.slice none 0 0) (0) (0)
      unfold setI at e4 e5 eg er ei
      have q0 := e4.cell 0
      have q1 := e4.cell 1
      have q2 := e4.cell 2
      have q3 := e4.cell 3
      have q4 := e4.cell 4
      have q5 := e4.cell 5
      have s0 := e5.cell 0
      have s1 := e5.cell 1
      exact bodyPost_ret (v := .tuple #[.agg #[.int .i64 op, .int .i64 0, .int .i64 z1, .int .i64 z2, .int .i64 0, .slice none 0 0], .agg #[.int .i64 (0), .int .i64 (0)]]) (by simp [results, Tryd.results46, go_sem, q0, q1, q2, q3, q4, q5, s0, s1]) rfl (by rw [HH.out]; exact ⟨⟨0, z1, z2, 0, .slice none 0 0, []⟩, rfl, rfl, ⟨none, 0, rfl, fun e => absurd rfl e⟩, eg, er⟩)
end Go.Proofs.YtmbdaenjeeklfaaDoor

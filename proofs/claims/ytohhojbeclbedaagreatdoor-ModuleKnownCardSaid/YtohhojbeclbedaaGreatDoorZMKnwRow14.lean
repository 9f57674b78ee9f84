/- Texts joined for the claim's sake: IOpr. -/
import Derived.Test.YtohhojbeclbedaaGreatDoorZMKnwRow13
import Derived.Sort.QuietIn
namespace Go.Proofs.YtohhojbeclbedaaGreatDoor
open Go.RowKit Go.Shelf
attribute [local go_sem] Oper.semAt_some

theorem fm_parts (f : Fm) : ∃ (ha : Bool) (bm : Int) (br : Bool) (cm : Int) (cr : Bool) (dm : Int) (dr : Bool) (le mo : Nat) (em : Int) (er : Bool), f = ⟨ha, ⟨bm, br⟩, ⟨cm, cr⟩, ⟨dm, dr⟩, le, mo, ⟨em, er⟩⟩ := by
  obtain ⟨ha, ⟨bm, br⟩, ⟨cm, cr⟩, ⟨dm, dr⟩, le, mo, ⟨em, er⟩⟩ := f
  exact ⟨ha, bm, br, cm, cr, dm, dr, le, mo, em, er, rfl⟩

section
variable (v0 v1 v2 v3 v4 v5 v6 v7 v8 v9 va vb : Value) (w : World)
theorem op_at0 : (Instr.index 258 (.agg #[v0, v1, v2, v3, v4, v5, v6, v7, v8, v9, va, vb]) (.int .i64 0)).run Tryz.prog w = .ok (.agg #[v0, v1, v2, v3]) w := by kernel_rfl
theorem op_at1 : (Instr.index 258 (.agg #[v0, v1, v2, v3, v4, v5, v6, v7, v8, v9, va, vb]) (.int .i64 1)).run Tryz.prog w = .ok (.agg #[v4, v5, v6, v7]) w := by kernel_rfl
theorem op_at2 : (Instr.index 258 (.agg #[v0, v1, v2, v3, v4, v5, v6, v7, v8, v9, va, vb]) (.int .i64 2)).run Tryz.prog w = .ok (.agg #[v8, v9, va, vb]) w := by kernel_rfl
end

theorem i64_info : (Tryz.prog.info? 3).map (fun i => (i.zero, i.size, i.bytes)) = some (some (.int .i64 0), 1, 8) := by kernel_rfl
def icells (n : Nat) : Array Value := madeCells #[.int .i64 0] n
theorem icells_eq (n : Nat) : icells n = Array.replicate n (.int .i64 0) := by
  unfold icells madeCells
  refine Array.ext (by simp) (fun i h1 h2 => ?_)
  simp [Nat.mod_one]
theorem make_ints (n : Nat) (hn : n ≤ 1000) (w : World) :
    (Instr.makeSlice 26 (.int .i64 (n : Int)) (.int .i64 (n : Int))).run Tryz.prog w = .ok (.slice (some ⟨w.heap.size, 0, none⟩) n n) (w.alloc (.cells (icells n) 3)) := by
  obtain ⟨i0, hi, hz0, hz1, hz2⟩ := info_parts i64_info
  have := run_make w 26 3 i0 (.int .i64 0) Tryz.underlying26 hi hz0 .i64 .i64 (n : Int) (n : Int) (by omega) (by omega) (by rw [hz2]; omega) (by omega)
  rw [hz1, Nat.mul_one, Int.toNat_natCast] at this
  exact this

theorem ans_one {G : World → Prop} {Jx : List Ev → World → Prop} {e : Ending} {Y : World} (h : Ans G Jx e Y) : ∃ q, e = .returned (.bool q) ∧ (q = true → G Y) ∧ (q = false → ∃ pre, Jx pre Y) := by
  rcases h with ⟨h1, h2⟩ | ⟨h1, h2⟩
  · exact ⟨true, h1, fun _ => h2, fun h => (by cases h)⟩
  · exact ⟨false, h1, fun h => (by cases h), fun _ => h2⟩
theorem made_end {I : Its} {B : Nat} (ok : I.Ok B) {J : List Ev → World → Prop} (hJ : ∀ s X Y, J s X → I.Sp X Y → J s Y) {fb n : Nat} {s : Sg} {pre : List Ev} {W : World} (h1 : J pre W) (h2 : I.M s W) (h4 : I.RH [] n s W) (hb : Blk W fb 253 (fmC I.f)) (hn8 : n ≤ 8) (hne : n ≠ s.l.length) :
    ItE I J fb (.slice (some ⟨W.heap.size, 0, none⟩) n n) n 0 ((W.alloc (.cells (icells n) 3)).setCell ⟨I.xb, 5, none⟩ (.slice (some ⟨W.heap.size, 0, none⟩) n n)).drew := by
  have hg : W.grownBy ((W.alloc (.cells (icells n) 3)).setCell ⟨I.xb, 5, none⟩ (.slice (some ⟨W.heap.size, 0, none⟩) n n)).drew (some I.xb) := only_drew (only_setCell (only_alloc (only_refl _ _) _) rfl _)
  have hs : I.Sp W _ := ⟨hg, _, h2.x⟩
  have hl : Blk ((W.alloc (.cells (icells n) 3)).setCell ⟨I.xb, 5, none⟩ (.slice (some ⟨W.heap.size, 0, none⟩) n n)).drew W.heap.size 3 (Array.replicate n (.int .i64 0)) := by
    rw [← icells_eq]
    exact ((Blk.new W 3 (icells n)).far (p := ⟨I.xb, 5, none⟩) (by have := h2.x.lt; show W.heap.size ≠ I.xb; omega) _).drew
  have hbx := Blk.ne_ h2.p h2.x (by decide)
  have hfx := Blk.ne_ hb h2.x (by decide)
  obtain ⟨k1, k2⟩ := ok.made n s W _ _ h2 hn8 hne h4 hs (Nat.le_refl _) hl
  refine ⟨⟨pre, { s with lv := .slice (some ⟨W.heap.size, 0, none⟩) n n, l := List.replicate n 0 }, hJ _ _ _ h1 hs, ⟨?_, ?_, ?_, ?_⟩, rfl, by simp, k2⟩, hb.grown hg (fun e => hfx (by injection e))⟩
  · exact h2.p.grown hg (fun e => hbx (by injection e))
  · have := ((h2.x.alloc (.cells (icells n) 3)).set_ 5 (.slice (some ⟨W.heap.size, 0, none⟩) n n)).drew
    exact this
  · refine ⟨_, n, by simp, fun _ => ⟨W.heap.size, 0, rfl, k1, fun i z hz => ?_⟩⟩
    have h3 := hl.cell i
    have hi : i < n := by have := (List.getElem?_eq_some_iff.1 hz).1; simpa using this
    rw [Nat.zero_add, h3]
    simp only [List.getElem?_replicate, hi, if_true, Option.some.injEq] at hz
    subst hz
    simp [hi]
  · simp; omega

set_option maxRecDepth 100000 in
set_option maxHeartbeats 4000000 in
theorem operands_in (I : Its) (B : Nat) (ok : I.Ok B) :
    HandsW Fence.wide 2 Tryz.prog 176 #[.pointer (some ⟨I.b0, 0, none⟩)] evA I.Sp I.T I.Tm I.E := fun l J Jx W hJ hY h0 t0 => by
  refine callsIn_of_wp Tryz.func176 rfl trivial ?_ rfl
  simp only [Tryz.ntmps176, List.size_toArray, List.length_cons, List.length_nil, Nat.reduceAdd, Nat.reduceSub, Array.replicate_succ, Array.replicate_zero, List.push_toArray, List.append_toArray, List.nil_append, List.cons_append]
  have HF := fun w => formOf_any I.op w
  obtain ⟨ha, bm, br, cm, cr, dm, dr, le, mo, em, er, hp⟩ := fm_parts I.f
  have htd : I.td0 = tdA I.f ++ tdB I.f := by rw [ok.td_, ok.f_]; exact td_is _
  have hk0 : ((bm = 0 ∧ br = false) ∨ ¬ bm = 0) ∧ ((cm = 0 ∧ cr = false) ∨ ¬ cm = 0) ∧ ((dm = 0 ∧ dr = false) ∨ ¬ dm = 0) := by
    have h1 : ((I.f.b.most = 0 ∧ I.f.b.reg = false) ∨ ¬ I.f.b.most = 0) ∧ ((I.f.c.most = 0 ∧ I.f.c.reg = false) ∨ ¬ I.f.c.most = 0) ∧ ((I.f.d.most = 0 ∧ I.f.d.reg = false) ∨ ¬ I.f.d.most = 0) := by rw [ok.f_]; cases clI I.op <;> simp [fmOf, k0, kR]
    rw [hp] at h1; exact h1
  have hmo : mo ≤ 8 := by
    have h1 : I.f.most ≤ 8 := by rw [ok.f_]; cases clI I.op <;> simp [fmOf]
    rw [hp] at h1; exact h1
  have hfc : fmC I.f = #[.bool ha, .int .i64 bm, .bool br, .int .i64 cm, .bool cr, .int .i64 dm, .bool dr, .int .i64 (le : Int), .int .i64 (mo : Int), .int .i64 em, .bool er] := by rw [hp]; rfl
  unfold FormIs at HF
  rw [← ok.f_, hfc] at HF
  obtain ⟨s, hM, hlv, hR⟩ := t0
  have c0 := hM.p.cell 0
  have x0 := hM.x.cell 0
  simp only [Sg.cells] at x0
  have HS := Lib.hid (fun (Z : World) (hg : W.grownBy Z none) => hJ [] W Z h0 ⟨only_weak hg _, _, hM.x⟩)
  have HM := Lib.hid hM
  have HR := Lib.hid hR
  have HY : Hid (Asked I l J Jx) := hY
  have HJ := Lib.hid hJ
  have HP := Lib.hid hp
  have HT := Lib.hid htd
  have HC := Lib.hid hfc
  clear hY hJ hM hR hp htd hfc
  gi_upto_region 1 with (refine ⟨trivial, ?_⟩; gi_at_call 173; refine (callsIn_wide.2 (HF _)).mono ?_; rintro e w1 ⟨rfl, hg1⟩)
  have H2 : ItH I J w1.heap.size I.td0 (w1.alloc (.cells #[.bool ha, .int .i64 bm, .bool br, .int .i64 cm, .bool cr, .int .i64 dm, .bool dr, .int .i64 (le : Int), .int .i64 (mo : Int), .int .i64 em, .bool er] 253)) := by
    have hg2 := only_alloc hg1 (.cells #[.bool ha, .int .i64 bm, .bool br, .int .i64 cm, .bool cr, .int .i64 dm, .bool dr, .int .i64 (le : Int), .int .i64 (mo : Int), .int .i64 em, .bool er] 253)
    have hs : I.Sp W _ := ⟨only_weak hg2 _, _, HM.out.x⟩
    exact ⟨⟨[], s, HS.out _ hg2, HM.out.none_ hg2, hlv, ok.spH _ _ _ _ _ hs HR.out⟩, by rw [HC.out]; exact Blk.new _ _ _⟩
  clear HF HM HS HR c0 x0 h0 hlv hg1
  generalize w1.heap.size = fb at *
  generalize w1.alloc _ = W2 at *
  gi_cut [27] from 5 (fun s27 wx => ∃ stop, s27 = .bool stop ∧ (stop = false → ItH I J fb (tdB I.f) wx) ∧ (stop = true → ∃ pre, Jx pre wx))
  case first =>
    rw [HT.out] at H2
    have f0 := H2.b.cell 0
    rw [HC.out] at f0
    cases ha with
    | false =>
      have hA : tdA I.f = [] := by rw [HP.out]; rfl
      rw [hA] at H2
      gi_wp2_with fail
      refine ⟨fun _ h => (by cases h), ?_⟩
      gi_wp2_with fail
      gi_meet
      exact ⟨false, rfl, fun _ => H2, fun h => (by cases h)⟩
    | true =>
      have hA : tdA I.f = [.A] := by rw [HP.out]; rfl
      rw [hA] at H2
      obtain ⟨fn, tmps, assign, body, hy, hRd⟩ := tell_A HY.out H2
      have c0 : W2.cell? ⟨I.b0, 0, none⟩ = some (.pointer (some ⟨I.xb, 0, none⟩)) := by obtain ⟨_, _, _, hm, _⟩ := H2.h; exact hm.p.cell 0
      simp only [opA] at hy
      gi_wp2_with fail
      refine hRd.mono ?_
      rintro e Y (⟨rfl, hG⟩ | ⟨rfl, hX⟩)
      · gi_wp2_with fail
        gi_meet
        exact ⟨false, rfl, fun _ => hG, fun h => (by cases h)⟩
      · gi_wp2_with fail
        gi_meet
        exact ⟨true, rfl, fun h => (by cases h), fun _ => hX⟩
  case rest =>
    obtain ⟨stop, rfl, hGo, hSt⟩ := hcut
    clear H2
    cases stop with
    | true =>
      have hX := Lib.hid (hSt rfl)
      clear hGo hSt
      gi_wp2_with fail
      refine bodyPost_ret (results_none rfl _ _ _) rfl ?_
      exact ⟨⟨_, rfl⟩, .inr hX.out⟩
    | false =>
      have H3 := hGo rfl
      clear hGo hSt
      have f1 := H3.b.cell 1
      have f2 := H3.b.cell 2
      have f3 := H3.b.cell 3
      have f4 := H3.b.cell 4
      have f5 := H3.b.cell 5
      have f6 := H3.b.cell 6
      rw [HC.out] at f1 f2 f3 f4 f5 f6
      have c0 : wc.cell? ⟨I.b0, 0, none⟩ = some (.pointer (some ⟨I.xb, 0, none⟩)) := by obtain ⟨_, _, _, hm, _⟩ := H3.h; exact hm.p.cell 0
      have hq := Lib.hid hk0
      clear hk0
      gi_upto_region 2 with fail
      gi_cut [46, 47] from 5 (fun s46 s47 wx => s47 = .int .i64 0 ∧ (∀ w, (Instr.index 258 s46 (.int .i64 0)).run Tryz.prog w = .ok (.agg #[.pointer none, .pointer (some ⟨I.xb, 2, none⟩), .int .i64 bm, .bool br]) w) ∧
        (∀ w, (Instr.index 258 s46 (.int .i64 1)).run Tryz.prog w = .ok (.agg #[.pointer none, .pointer (some ⟨I.xb, 3, none⟩), .int .i64 cm, .bool cr]) w) ∧
        (∀ w, (Instr.index 258 s46 (.int .i64 2)).run Tryz.prog w = .ok (.agg #[.pointer none, .pointer (some ⟨I.xb, 4, none⟩), .int .i64 dm, .bool dr]) w) ∧ ItH I J fb (tdB I.f) wx)
      case first =>
        gi_big_quiet_th (fail)
        gi_wp2_with fail
        gi_meet
        exact ⟨rfl, fun w => op_at0 _ _ _ _ _ _ _ _ _ _ _ _ w, fun w => op_at1 _ _ _ _ _ _ _ _ _ _ _ _ w, fun w => op_at2 _ _ _ _ _ _ _ _ _ _ _ _ w, H3.none_ HJ.out ok (only_drewN (only_refl _ _) nq)⟩
      case rest =>
        obtain ⟨rfl, hV0, hV1, hV2, H4⟩ := hcut
        have HV0 := Lib.hid hV0
        have HV1 := Lib.hid hV1
        have HV2 := Lib.hid hV2
        clear H3 f1 f2 f3 f4 f5 f6 c0 hV0 hV1 hV2
        gi_wp2_with fail
        gi_loopw [47] (fun v wr => ∃ (i : Nat) (td : List Fld), v = .int .i64 (i : Int) ∧ i ≤ 3 ∧ td = (if i = 0 then tdB I.f else if i = 1 then tdC I.f else if i = 2 then tdD I.f else tdN I.f) ∧ ItH I J fb td wr) (fun v _ => (3 - intOf v).toNat)
        case atStart => exact ⟨0, _, rfl, by omega, rfl, H4⟩
        case round =>
          obtain ⟨i, td, rfl, hi, htd, H5⟩ := hrel
          have h4 : i = 0 ∨ i = 1 ∨ i = 2 ∨ i = 3 := by omega
          clear H4
          rcases h4 with rfl | rfl | rfl | rfl
          · have hz := hq.out.1
            have hx := HV0.out
            simp only [if_true] at htd
            simp only [Int.cast_ofNat_Int]
            subst htd
            have H6 := H5.none_ HJ.out ok (only_alloc (only_refl wr none) (.cells #[.pointer none, .pointer (some ⟨I.xb, 2, none⟩), .int .i64 bm, .bool br] 201))
            have hfx : I.f.b = ⟨bm, br⟩ := by rw [HP.out]
            clear H5
            rcases hz with ⟨rfl, rfl⟩ | hz
            · have e0 : tdB I.f = tdC I.f := by unfold tdB; rw [hfx]; rfl
              rw [e0] at H6
              have H7 := Lib.hid H6
              clear H6 hfx e0
              gi_wp2_with fail
              refine ⟨fun _ h => (by cases h), ?_⟩
              gi_wp2_with fail
              go_roundw
              case rel => exact ⟨1, _, rfl, by omega, rfl, H7.out⟩
              case measure => simp [intOf]
            · have e0 : tdB I.f = .B :: tdC I.f := by
                unfold tdB
                rw [hfx]
                have : Kd.is0 ⟨bm, br⟩ = false := by simp [Kd.is0, hz]
                rw [this]; rfl
              rw [e0] at H6
              obtain ⟨fn, tmps, assign, body, hy, hRd⟩ := tell_B HY.out H6 hfx
              simp only [opA] at hy
              clear H6 hfx e0
              gi_wp2_with fail
              refine hRd.mono ?_
              clear hRd hy
              rintro e Y (⟨rfl, hG⟩ | ⟨rfl, hX⟩)
              · have H7 := Lib.hid hG
                clear hG
                gi_wp2_with fail
                go_roundw
                case rel => exact ⟨1, _, rfl, by omega, rfl, H7.out⟩
                case measure => simp [intOf]
              · have H7 := Lib.hid hX
                clear hX
                gi_wp2_with fail
                refine bodyPost_ret (results_none rfl _ _ _) rfl ?_
                exact ⟨⟨_, rfl⟩, .inr H7.out⟩
          · have hz := hq.out.2.1
            have hx := HV1.out
            simp only [Nat.reduceEqDiff, if_true, if_false, Nat.one_ne_zero] at htd
            simp only [Int.cast_ofNat_Int]
            subst htd
            have H6 := H5.none_ HJ.out ok (only_alloc (only_refl wr none) (.cells #[.pointer none, .pointer (some ⟨I.xb, 3, none⟩), .int .i64 cm, .bool cr] 201))
            have hfx : I.f.c = ⟨cm, cr⟩ := by rw [HP.out]
            clear H5
            rcases hz with ⟨rfl, rfl⟩ | hz
            · have e0 : tdC I.f = tdD I.f := by unfold tdC; rw [hfx]; rfl
              rw [e0] at H6
              have H7 := Lib.hid H6
              clear H6 hfx e0
              gi_wp2_with fail
              refine ⟨fun _ h => (by cases h), ?_⟩
              gi_wp2_with fail
              go_roundw
              case rel => exact ⟨2, _, rfl, by omega, rfl, H7.out⟩
              case measure => simp [intOf]
            · have e0 : tdC I.f = .C :: tdD I.f := by
                unfold tdC
                rw [hfx]
                have : Kd.is0 ⟨cm, cr⟩ = false := by simp [Kd.is0, hz]
                rw [this]; rfl
              rw [e0] at H6
              obtain ⟨fn, tmps, assign, body, hy, hRd⟩ := tell_C HY.out H6 hfx
              simp only [opA] at hy
              clear H6 hfx e0
              gi_wp2_with fail
              refine hRd.mono ?_
              clear hRd hy
              rintro e Y (⟨rfl, hG⟩ | ⟨rfl, hX⟩)
              · have H7 := Lib.hid hG
                clear hG
                gi_wp2_with fail
                go_roundw
                case rel => exact ⟨2, _, rfl, by omega, rfl, H7.out⟩
                case measure => simp [intOf]
              · have H7 := Lib.hid hX
                clear hX
                gi_wp2_with fail
                refine bodyPost_ret (results_none rfl _ _ _) rfl ?_
                exact ⟨⟨_, rfl⟩, .inr H7.out⟩
          · have hz := hq.out.2.2
            have hx := HV2.out
            simp only [Nat.reduceEqDiff, if_true, if_false] at htd
            simp only [Int.cast_ofNat_Int]
            subst htd
            have H6 := H5.none_ HJ.out ok (only_alloc (only_refl wr none) (.cells #[.pointer none, .pointer (some ⟨I.xb, 4, none⟩), .int .i64 dm, .bool dr] 201))
            have hfx : I.f.d = ⟨dm, dr⟩ := by rw [HP.out]
            clear H5
            rcases hz with ⟨rfl, rfl⟩ | hz
            · have e0 : tdD I.f = tdN I.f := by unfold tdD; rw [hfx]; rfl
              rw [e0] at H6
              have H7 := Lib.hid H6
              clear H6 hfx e0
              gi_wp2_with fail
              refine ⟨fun _ h => (by cases h), ?_⟩
              gi_wp2_with fail
              go_roundw
              case rel => exact ⟨3, _, rfl, by omega, rfl, H7.out⟩
              case measure => simp [intOf]
            · have e0 : tdD I.f = .D :: tdN I.f := by
                unfold tdD
                rw [hfx]
                have : Kd.is0 ⟨dm, dr⟩ = false := by simp [Kd.is0, hz]
                rw [this]; rfl
              rw [e0] at H6
              obtain ⟨fn, tmps, assign, body, hy, hRd⟩ := tell_D HY.out H6 hfx
              simp only [opA] at hy
              clear H6 hfx e0
              gi_wp2_with fail
              refine hRd.mono ?_
              clear hRd hy
              rintro e Y (⟨rfl, hG⟩ | ⟨rfl, hX⟩)
              · have H7 := Lib.hid hG
                clear hG
                gi_wp2_with fail
                go_roundw
                case rel => exact ⟨3, _, rfl, by omega, rfl, H7.out⟩
                case measure => simp [intOf]
              · have H7 := Lib.hid hX
                clear hX
                gi_wp2_with fail
                refine bodyPost_ret (results_none rfl _ _ _) rfl ?_
                exact ⟨⟨_, rfl⟩, .inr H7.out⟩
          · simp only [Nat.reduceEqDiff, if_false] at htd
            simp only [Int.cast_ofNat_Int]
            subst htd
            clear HV0 HV1 HV2 hq
            have f7 := (H5.b.alloc (.cells #[.int .i64 (mo : Int)] 3)).cell 7
            have f8 := (H5.b.alloc (.cells #[.int .i64 (mo : Int)] 3)).cell 8
            have f8' := H5.b.cell 8
            rw [HC.out] at f7 f8 f8'
            gi_upto_if 67 with fail
            gi_cut [7] from 5 (fun s7 wx => s7 = .pointer (some ⟨wr.heap.size, 0, none⟩) ∧ ∃ n, ItN I J fb wr.heap.size n wx)
            case first =>
              by_cases hlt : le < mo
              · have e0 : tdN I.f = [.N] := by unfold tdN; rw [HP.out]; exact if_pos hlt
                rw [e0] at H5
                obtain ⟨⟨pre, s, h1, h2, h3, h4⟩, hb⟩ := H5
                have hg : wr.grownBy (wr.alloc (.cells #[.int .i64 (s.l.length : Int)] 3)) none := only_alloc (only_refl _ _) _
                have hs : I.Sp wr (wr.alloc (.cells #[.int .i64 (s.l.length : Int)] 3)) := ⟨only_weak hg _, _, h2.x⟩
                have hmo2 : (I.f.most : Int) = (mo : Int) := by rw [HP.out]
                have HN := tell_N HY.out (HJ.out _ _ _ h1 hs) (h2.none_ hg) h3 (ok.spH _ _ _ _ _ hs h4) (hb.kept hg) h2.p.lt (Blk.new _ _ _)
                rw [hmo2] at HN
                obtain ⟨fn, tmps, assign, body, hy, hRd⟩ := HN
                simp only [opA] at hy
                have c0 : (wr.alloc (.cells #[.int .i64 (mo : Int)] 3)).cell? ⟨I.b0, 0, none⟩ = some (.pointer (some ⟨I.xb, 0, none⟩)) := (h2.p.alloc _).cell 0
                have x5 := (h2.x.alloc (.cells #[.int .i64 (mo : Int)] 3)).cell 5
                have g8 := (hb.alloc (.cells #[.int .i64 (s.l.length : Int)] 3)).cell 8
                rw [HC.out] at g8
                obtain ⟨A, c, hA, _⟩ := h2.l
                simp only [Sg.cells] at x5
                rw [hA] at x5
                have hle := h2.le
                have hb0 := h2.p.lt
                have hxb := h2.x.lt
                have hfb := hb.lt
                have d1 : (le : Int) < (mo : Int) := by omega
                clear h1 h2 h3 h4 hb hg hs hmo2 e0 hlt
                gi_wp2_with fail
                refine hRd.mono ?_
                clear hRd hy
                rintro e Y (⟨rfl, hG⟩ | ⟨rfl, hX⟩)
                · have H7 := Lib.hid hG
                  clear hG
                  gi_wp2_with fail
                  gi_meet
                  exact ⟨rfl, H7.out⟩
                · have H7 := Lib.hid hX
                  clear hX
                  gi_wp2_with fail
                  refine bodyPost_ret (results_none rfl _ _ _) rfl ?_
                  exact ⟨⟨_, rfl⟩, .inr H7.out⟩
              · have e0 : tdN I.f = [] := by unfold tdN; rw [HP.out]; exact if_neg hlt
                rw [e0] at H5
                have d1 : (mo : Int) ≤ (le : Int) := by omega
                have H6 := H5.none_ HJ.out ok (only_alloc (only_refl wr none) (.cells #[.int .i64 (mo : Int)] 3))
                have hm2 : I.f.most = mo := by rw [HP.out]
                have H7 : Hid (ItN I J fb wr.heap.size mo (wr.alloc (.cells #[.int .i64 (mo : Int)] 3))) := by
                  obtain ⟨⟨pre, s, h1, h2, h3, h4⟩, hb⟩ := H6
                  rw [hm2] at h4
                  exact ⟨⟨pre, s, h1, h2, h3, h4⟩, hb, Blk.new _ _ _, hmo⟩
                clear H5 H6 hlt hm2 e0
                gi_wp2_with fail
                gi_meet
                exact ⟨rfl, _, H7.out⟩
            case rest =>
              obtain ⟨rfl, n, HN⟩ := hcut
              clear f7 f8 f8' H5
              generalize wr.heap.size = cb at *
              obtain ⟨⟨pre, s, h1, h2, h3, h4⟩, hb, hc, hn8⟩ := HN
              obtain ⟨A, c, hA, _⟩ := h2.l
              have c0 : wc.cell? ⟨I.b0, 0, none⟩ = some (.pointer (some ⟨I.xb, 0, none⟩)) := h2.p.cell 0
              have x5 := h2.x.cell 5
              simp only [Sg.cells] at x5
              rw [hA] at x5
              have k0 := hc.cell 0
              have hmk := make_ints n (by omega)
              gi_upto_region 11 with fail
              gi_big_quiet_th (fail)
              gi_upto_if 86 with fail
              gi_cut [] from 5 (fun wx => ∃ lv m, ItE I J fb lv m 0 wx)
              case first =>
                by_cases he : n = s.l.length
                · subst he
                  have H7 : Hid (ItE I J fb s.lv s.l.length 0 (wc.drewN nq)) := (ItE.mk ⟨pre, s, h1, h2, rfl, rfl, ok.same _ _ h2 h4⟩ hb : ItE I J fb s.lv s.l.length 0 wc).none_ HJ.out ok (only_drewN (only_refl _ _) nq)
                  clear h1 h2 h4 hb hc h3
                  gi_wp2_with fail
                  gi_meet
                  exact ⟨_, _, H7.out⟩
                · have d1 : ¬ (n : Int) = (s.l.length : Int) := by omega
                  have hmx : Tryz.prog.follows .mixedOrders = true := by kernel_rfl
                  have h2' := h2.none_ (only_drewN (only_refl wc none) nq)
                  have hbq := hb.drewN nq
                  have hsp : I.Sp wc (wc.drewN nq) := ⟨only_drewN (only_refl _ _) nq, _, h2.x⟩
                  have h1' := HJ.out _ _ _ h1 hsp
                  have h4' := ok.spH _ _ _ _ _ hsp h4
                  have y5 := h2'.x.cell 5
                  have y0 := h2'.p.cell 0
                  have yk := (hc.drewN nq).cell 0
                  clear hmk c0 x5 k0 h1 h2 h4 hb hc hsp
                  generalize wc.drewN nq = W9 at *
                  have hmk := make_ints n (by omega)
                  have H7 := Lib.hid (made_end ok HJ.out h1' h2' h4' hbq hn8 he)
                  have x5' := (h2'.x.alloc (.cells (icells n) 3)).cell 5
                  have hfz := (h2'.x.alloc (.cells (icells n) 3)).frozen 5
                  have c0' : (W9.alloc (.cells (icells n) 3)).cell? ⟨I.b0, 0, none⟩ = some (.pointer (some ⟨I.xb, 0, none⟩)) := (h2'.p.alloc _).cell 0
                  simp only [Sg.cells] at x5' y5
                  rw [hA] at x5' y5
                  gi_wp2_with fail
                  clear h1' h2' h4' hbq he
                  gi_region_with_o fail
                  all_goals gi_wp2_with fail
                  all_goals gi_meet
                  all_goals exact ⟨_, _, H7.out⟩
              case rest =>
                obtain ⟨lv, m, HE⟩ := hcut
                clear h1 h2 h3 h4 hb hc c0 x5 k0 hmk hA hn8
                obtain ⟨A, c, rfl, hm12⟩ : ∃ A c, lv = .slice A m c ∧ m ≤ 12 := by
                  obtain ⟨_, s, _, h2, h3, h4, _⟩ := HE.h
                  obtain ⟨A, c, hA, _⟩ := h2.l
                  have := h2.le
                  exact ⟨A, c, by rw [← h3, hA, h4], by omega⟩
                have hHE : ∀ i wr, ItE I J fb (.slice A m c) m i wr → wr.cell? ⟨I.b0, 0, none⟩ = some (.pointer (some ⟨I.xb, 0, none⟩)) ∧ wr.cell? ⟨I.xb, 5, none⟩ = some (.slice A m c) ∧ wr.cell? ⟨fb, 9, none⟩ = some (.int .i64 em) ∧ wr.cell? ⟨fb, 10, none⟩ = some (.bool er) := by
                  intro i wr h
                  obtain ⟨_, s, _, h2, h3, h4, _⟩ := h.h
                  have x5 := h2.x.cell 5
                  simp only [Sg.cells] at x5
                  rw [h3] at x5
                  have f9 := h.b.cell 9
                  have fa := h.b.cell 10
                  rw [HC.out] at f9 fa
                  exact ⟨h2.p.cell 0, x5, f9, fa⟩
                have HHE := Lib.hid hHE
                clear hHE
                obtain ⟨c0, x5, _, _⟩ := HHE.out _ _ HE
                gi_wp2_with fail
                gi_loopw [97] (fun v wr => ∃ i : Nat, v = .int .i64 (i : Int) ∧ i ≤ m ∧ ItE I J fb (.slice A m c) m i wr) (fun v _ => m - (intOf v).toNat)
                case atStart => exact ⟨0, rfl, by omega, HE⟩
                case round =>
                  obtain ⟨i, rfl, hi, H5⟩ := hrel
                  clear HE c0 x5
                  obtain ⟨c0, x5, f9, fa⟩ := HHE.out _ _ H5
                  by_cases hlt : i < m
                  · obtain ⟨b, off, rfl⟩ : ∃ b off, A = some ⟨b, off, none⟩ := by
                      obtain ⟨_, s, _, h2, h3, h4, _⟩ := H5.h
                      obtain ⟨A', c', hA, hx⟩ := h2.l
                      obtain ⟨b, off, h5, _⟩ := hx (by intro e; rw [e] at h4; simp at h4; omega)
                      rw [h3] at hA
                      injection hA with e1 _ _
                      exact ⟨b, off, by rw [e1, h5]⟩
                    have hmx : Tryz.prog.follows .mixedOrders = true := by kernel_rfl
                    have hex : I.f.each = ⟨em, er⟩ := by rw [HP.out]
                    have HQ := tell_E HY.out (H5.none_ HJ.out ok (only_drew (only_refl wr none))) hlt
                    rw [hex] at HQ
                    obtain ⟨fn, tmps, assign, body, hy, hRd⟩ := HQ
                    simp only [opA] at hy
                    have i0 : (0 : Int) ≤ (i : Int) := by omega
                    have i1 : (i : Int) < (m : Int) := by omega
                    clear H5 hex
                    gi_wp2_with fail
                    gi_region_with_o (refine hRd.mono ?_; rintro e Y hA; obtain ⟨q, rfl, hG, hX⟩ := ans_one hA; clear hA)
                    all_goals
                      clear hRd hy
                      cases q with
                      | true =>
                        have H7 := Lib.hid (hG rfl)
                        clear hG hX
                        gi_wp2_with fail
                        go_roundw
                        case rel => exact ⟨i + 1, by go_num, by omega, H7.out⟩
                        case measure => simp [intOf]; omega
                      | false =>
                        have H7 := Lib.hid (hX rfl)
                        clear hG hX
                        gi_wp2_with fail
                        refine bodyPost_ret (results_none rfl _ _ _) rfl ?_
                        exact ⟨⟨_, rfl⟩, .inr H7.out⟩
                  · have i1 : (m : Int) ≤ (i : Int) := by omega
                    have hie : i = m := by omega
                    subst hie
                    have H7 : Hid (I.E [] wr) := by
                      obtain ⟨_, s, _, h2, h3, h4, h5⟩ := H5.h
                      exact ⟨s, h2, by rw [h4]; exact h5⟩
                    have H8 : Hid (∃ pre, J pre wr) := by
                      obtain ⟨pre, _, h1, _⟩ := H5.h
                      exact ⟨pre, h1⟩
                    clear H5
                    gi_wp2_with fail
                    go_end0
                    obtain ⟨pre, h1⟩ := H8.out
                    exact ⟨⟨_, rfl⟩, .inl ⟨pre, H7.out, h1⟩⟩
end Go.Proofs.YtohhojbeclbedaaGreatDoor

/- OrderRises: the walk. -/
import Derived.Test.YtablbgfleopbfaaOChecks
import Derived.Test.YtablbgfleopbfaaOOpB
import Derived.Deep.QuietTactic
import Derived.BigQuiet
namespace Go.Proofs.Ytablbgfleopbfaa
open Go.RowKit Go.Shelf

theorem ill_at {n : Nat} : ∀ {l : List Nd} {k : Nat}, (firstIll n l k).2 ≠ 0 → (k : Int) ≤ (firstIll n l k).1 ∧ (firstIll n l k).1 < k + l.length
  | [], _, h => absurd rfl h
  | y :: l, k, h => by
    by_cases hy : illN n y = 0
    · simp only [firstIll, hy, if_true] at h ⊢
      have := ill_at h
      simp only [List.length_cons]
      omega
    · simp only [firstIll, hy, if_false, List.length_cons]
      omega
theorem low_at {xs : List Nd} : ∀ {l : List Nd} {k : Nat}, (firstLow xs l k).2 ≠ 0 → (k : Int) ≤ (firstLow xs l k).1 ∧ (firstLow xs l k).1 < k + l.length
  | [], _, h => absurd rfl h
  | y :: l, k, h => by
    by_cases hy : lowB xs y = true
    · simp only [firstLow, hy, if_true, List.length_cons]
      omega
    · simp only [firstLow, hy, if_false, Bool.false_eq_true] at h ⊢
      have := low_at h
      simp only [List.length_cons]
      omega
theorem order_at {xs : List Nd} (h : (orderL xs).2 ≠ 0) : -1 ≤ (orderL xs).1 ∧ (orderL xs).1 < xs.length := by
  unfold orderL at h ⊢
  by_cases hc : (checkL xs).2 = 0
  · rw [if_pos hc] at h ⊢
    have := low_at h
    omega
  · rw [if_neg hc] at h ⊢
    by_cases h0 : xs.length = 0
    · rw [check_0 h0]; simp only; omega
    · by_cases h1 : 64 < xs.length
      · rw [check_1 h1]; simp only; omega
      · by_cases hi : (firstIll xs.length xs 0).2 = 0
        · rcases least_lost xs xs.length with hn | ⟨k, hk, h3, h4⟩
          · exact absurd (check_3 (by omega) (by omega) hi (by rw [firstLost_none hn]; decide)) (fun e => hc (by rw [e]))
          · have hf := firstLost_here hk h4 h3
            rw [check_4 (by omega) (by omega) hi (by rw [hf]; omega), hf]
            simp only
            omega
        · rw [check_2 (by omega) (by omega) hi]
          have := ill_at hi
          omega

/-- The table as it stood ahead of the type's box, B. -/
structure FSB (w W3 : World) (B : Nat) (v : Value) (zs : List Nd) (W : World) : Prop where
  step : w.grownBy W none
  size : W3.heap.size = B
  bel : Below B W3 W
  old : Tbl W3 v zs
  low : w.heap.size ≤ B
theorem FSB.tab {w W3 W : World} {B : Nat} {v : Value} {zs : List Nd} (h : FSB w W3 B v zs W) : Tbl W v zs := h.old.keep (.below (by rw [h.size]; exact h.bel))
theorem FSB.none_ {w W3 W W' : World} {B : Nat} {v : Value} {zs : List Nd} (h : FSB w W3 B v zs W) (hg : W.grownBy W' none) : FSB w W3 B v zs W' :=
  ⟨only_trans h.step hg, h.size, h.bel.trans ((below_of_only hg).mono (by rw [← h.size]; exact h.bel.size)), h.old, h.low⟩
theorem FSB.set_ {w W3 W : World} {B : Nat} {v : Value} {zs : List Nd} (h : FSB w W3 B v zs W) (p q : Value) : FSB w W3 B v zs ((W.setCell ⟨B, 0, none⟩ p).setCell ⟨B, 1, none⟩ q) :=
  ⟨only_setNew (only_setNew h.step (p := ⟨B, 0, none⟩) h.low _) (p := ⟨B, 1, none⟩) h.low _, h.size, (h.bel.setCell (p := ⟨B, 0, none⟩) (Nat.le_refl _) _).setCell (p := ⟨B, 1, none⟩) (Nat.le_refl _) _, h.old, h.low⟩
theorem FSB.at_ {w W3 W : World} {B : Nat} {zs : List Nd} {b off c i : Nat} {x : Nd} (h : FSB w W3 B (.slice (some ⟨b, off, none⟩) zs.length c) zs W) (hi : zs[i]? = some x) : W.cell? ⟨b, off + i * 6, none⟩ = some (.int .i64 x.kind) ∧ W.cell? ⟨b, off + i * 6 + 1, none⟩ = some (.int .i64 x.prio) := by
  obtain ⟨A', c', hA, hcl⟩ := h.tab
  have hl := (List.getElem?_eq_some_iff.1 hi).1
  obtain ⟨b', off', hb, hcl2⟩ := hcl (by intro e; rw [e] at hl; simp at hl)
  simp only [Value.slice.injEq, true_and] at hA
  obtain ⟨hA, rfl⟩ := hA
  rw [← hA] at hb
  simp only [Option.some.injEq, Addr.mk.injEq, and_true] at hb
  obtain ⟨rfl, rfl⟩ := hb
  obtain ⟨_, _, h0, h1, _⟩ := hcl2 i x hi
  exact ⟨h0, h1⟩
theorem only_drewN_ {w w' : World} (h : w.grownBy w' none) : ∀ n, w.grownBy (w'.drewN n) none
  | 0 => h
  | n + 1 => only_drew (only_drewN_ h n)
/-- What stands on the way: the type at hand, how far it rose. -/
def RI1 (w W3 : World) (zs : List Nd) (v : Value) (B m0 : Nat) (F0 : Int) (k : Nat) (L : Int) (W : World) : Prop := ∃ (a : Nat) (x : Nd) (off : Int), zs[a]? = some x ∧ actB x.kind = true ∧ 0 ≤ off ∧ off ≤ 64000 + 65000 * k ∧ L = x.prio + off ∧ Wk zs k m0 a (L - F0) ∧ FSB w W3 B v zs W ∧ Blk W B 37 (edCells ((a : Int), off))
/-- What stands in a round. -/
structure RS (w W3 : World) (zs : List Nd) (v : Value) (B9 a : Nat) (off : Int) (BN : Nat) (x : Nd) (ev vb : Value) (bs : List Int) (W : World) : Prop where
  fs : FSB w W3 B9 v zs W
  tb : Blk W B9 37 (edCells ((a : Int), off))
  nb : Blk W BN 41 (ndCells x ev)
  bb : BytesA W vb bs
  ed : Edges W ev x.next
theorem RS.none_ {w W3 W W' : World} {zs : List Nd} {v : Value} {B9 a : Nat} {off : Int} {BN : Nat} {x : Nd} {ev vb : Value} {bs : List Int} (h : RS w W3 zs v B9 a off BN x ev vb bs W) (hg : W.grownBy W' none) : RS w W3 zs v B9 a off BN x ev vb bs W' :=
  ⟨h.fs.none_ hg, h.tb.kept hg, h.nb.kept hg, h.bb.keep (.grown hg), h.ed.keep (.grown hg)⟩
set_option maxRecDepth 100000 in
set_option maxHeartbeats 4000000 in
theorem orises_any (xs : List Nd) (A : Option Addr) (c : Nat) (first : Int) (hf0 : 0 ≤ first) (hf1 : first ≤ 255) (bs : List Int) (A2 : Option Addr) (c2 : Nat) (w : World) (hT : TblC w (.slice A xs.length c) xs) (hB : BytesA w (.slice A2 bs.length c2) bs) :
    Calls Try.prog 5 #[.slice A xs.length c, .int .u8 first, .slice A2 bs.length c2] w fun en w' => en = .returned (.bool true) ∧ w.grownBy w' none := by
  have HT := Lib.hid hT
  have HB := Lib.hid hB
  clear hB
  have HZ : Hid ((fewL xs).length ≤ 16) := fewL_len xs
  generalize hzs : fewL xs = zs at *
  have HZS := Lib.hid hzs
  have HZ2 : Hid (zs.length ≤ 1000) := Nat.le_trans HZ.out (by decide)
  clear hT hzs
  go_enter Try.func5, Try.ntmps5
  go_wp2_with (go_at_call 13; go_must (refine (oworks_any _).mono ?_; rintro en W0 ⟨rfl, hg0⟩; have HG0 := Lib.hid hg0; clear hg0))
  refine (few_any xs A c _ (HT.out.keep (.grown HG0.out))).mono ?_
  rintro en W1 ⟨⟨v, ns, rfl, hot, hns⟩, hg⟩
  have s : FS1 w v zs W1 := ⟨only_trans HG0.out hg, by rw [← HZS.out, ← hns]; exact hot.tbl⟩
  have hv : ∃ A3 c3, v = .slice A3 zs.length c3 := by
    obtain ⟨A3, c3, h, _⟩ := s.tab
    exact ⟨A3, c3, h⟩
  obtain ⟨A3, c3, rfl⟩ := hv
  have S := Lib.hid s
  clear hot hns hg s
  by_cases hc : (orderL zs).2 = 0
  · have HO := Lib.hid (ord_of hc)
    have HC := Lib.hid (ord_of hc).order
    clear hc
    have hlp : 0 < zs.length := HO.out.ok.pos
    obtain ⟨q, hq⟩ : ∃ q : Nat, first % (zs.length : Int) = (q : Int) := ⟨(first % (zs.length : Int)).toNat, by have := Int.emod_nonneg first (by omega : (zs.length : Int) ≠ 0); omega⟩
    have hql : (q : Int) < zs.length := by rw [← hq]; exact Int.emod_lt_of_pos _ (by omega)
    obtain ⟨m0, y0, s0, hy0, hk0, hs0, hs1, hm0, hr0⟩ := HO.out.ok.goal (t := (q : Int)) (by omega) hql
    have hr := hr0 0 (by omega) (by omega)
    rw [Int.add_zero] at hr
    have HR := Lib.hid hr
    have HY0 := Lib.hid hy0
    obtain ⟨b3, off3, rfl, hcl⟩ : ∃ b off, A3 = some ⟨b, off, none⟩ ∧ ∀ i x, zs[i]? = some x → NdAt W1 b (off + i * 6) x := by
      obtain ⟨A', c', hA, h⟩ := S.out.tab
      obtain ⟨b, off, h1, h2⟩ := h (by intro e0; rw [e0] at hlp; simp at hlp)
      obtain ⟨rfl, rfl⟩ : A3 = A' ∧ c3 = c' := by simpa using hA
      exact ⟨b, off, h1, h2⟩
    have HCL := Lib.hid hcl
    obtain ⟨_, _, n0, n1, _⟩ := hcl m0 y0 hy0
    have hbl := cell_lt n0
    have hln : (zs.length : Int) ≠ 0 := by omega
    have hne : ¬ zs = [] := by intro e0; rw [e0] at hlp; simp at hlp
    have hln2 : ((zs.length : Int) == 0) = false := beq_eq_false_iff_ne.2 hln
    have hmI : (m0 : Int) < (zs.length : Int) := by omega
    have hl16 : (zs.length : Int) ≤ 16 := by have := HZ.out; omega
    have hp0 := (HO.out.ok.end_ hy0).2.1
    obtain ⟨hp0, hp1⟩ := hp0
    clear hr hr0 hy0 hcl hlp
    by_cases hend : y0.kind = 0
    · rw [hend] at n0
      go_wp2_with (first | (go_at_call 9; go_must (refine (ocheck_any zs _ _ S.out.tab HZ2.out).mono ?_; rw [HC.out]; rintro en W2 ⟨rfl, hg⟩; replace S := Lib.hid (S.out.none_ hg); replace n0 := Keeps.grown hg _ _ n0; replace hbl := cell_lt n0; clear hg)) | (go_at_call 16; go_must (refine (resolve_any zs _ ((q : Int), 0) _ S.out.tab (by have := HZ2.out; omega)).mono ?_; rw [HR.out]; rintro en W3 ⟨rfl, hg⟩; replace S := Lib.hid (S.out.none_ hg); replace n0 := Keeps.grown hg _ _ n0; replace hbl := cell_lt n0; clear hg)))
      go_ret
      exact ⟨rfl, only_alloc S.out.step _⟩
    · have hend2 : (y0.kind == 0) = false := beq_eq_false_iff_ne.2 hend
      have ha0 : actB y0.kind = true := by simp [actB, hend, hk0]
      have HBI := Lib.hid (back_is HO.out HY0.out ha0)
      have hb1 : (backL zs (m0 : Int)).2 = true → 1 ≤ (backL zs (m0 : Int)).1 := fun h => by
        rcases HBI.out with ⟨_, ⟨k, hk, hw⟩, _⟩ | ⟨h1, _⟩
        · have := hw.pos HO.out; omega
        · rw [h1] at h; cases h
      obtain ⟨⟨bk, is⟩, hbk⟩ : ∃ p, backL zs (m0 : Int) = p := ⟨_, rfl⟩
      have HBK := Lib.hid hbk
      rw [hbk] at hb1 HBI
      clear hbk
      simp only at hb1
      go_wp2_with (first | (go_at_call 9; go_must (refine (ocheck_any zs _ _ S.out.tab HZ2.out).mono ?_; rw [HC.out]; rintro en W2 ⟨rfl, hg⟩; replace S := Lib.hid (S.out.none_ hg); replace n0 := Keeps.grown hg _ _ n0; replace n1 := Keeps.grown hg _ _ n1; replace hbl := cell_lt n0; clear hg)) | (go_at_call 16; go_must (refine (resolve_any zs _ ((q : Int), 0) _ S.out.tab (by have := HZ2.out; omega)).mono ?_; rw [HR.out]; rintro en W3 ⟨rfl, hg⟩; replace S := Lib.hid (S.out.none_ hg); replace n0 := Keeps.grown hg _ _ n0; replace n1 := Keeps.grown hg _ _ n1; replace hbl := cell_lt n0; clear hg)))
      have hbx := Blk.drew (Blk.new W3 37 (edCells ((m0 : Int), s0)))
      have k2 := (Keeps.alloc W3 (.cells (edCells ((m0 : Int), s0)) 37)).drew
      have SD : Hid (FSB w W3 W3.heap.size (.slice (some ⟨b3, off3, none⟩) zs.length c3) zs (W3.alloc (.cells (edCells ((m0 : Int), s0)) 37)).drew) := ⟨(S.out.none_ (only_drew (only_alloc (only_refl _ _) _))).step, rfl, below_of_only (only_drew (only_alloc (only_refl _ _) _)), S.out.tab, S.out.step.size⟩
      have n1d := k2 _ _ n1
      have HBX := Lib.hid hbx
      clear n0 n1 k2
      have hB9 : w.heap.size ≤ W3.heap.size := S.out.step.size
      generalize W3.heap.size = B9 at *
      generalize (W3.alloc (.cells (edCells ((m0 : Int), s0)) 37)) = W4 at *
      go_region_held3 (fun w' => w'.cell? ⟨B9, 0, none⟩ = some (.int .i64 (m0 : Int)) ∧ w'.cell? ⟨B9, 1, none⟩ = some (.int .i64 s0) ∧ w'.cell? ⟨b3, off3 + m0 * 6 + 1, none⟩ = some (.int .i64 y0.prio)) (exact ⟨hbx.cell 0, hbx.cell 1, n1d⟩) (fail)
      have hw1 : IntKind.i64.wrap (y0.prio + s0) = y0.prio + s0 := IntWalk.i64_in _ ⟨by omega, by omega⟩
      generalize IntKind.i64.wrap (y0.prio + s0) = F0 at *
      have HF0 := Lib.hid hw1.symm
      have hF1 : 0 ≤ F0 := by omega
      have hF2 : F0 ≤ 65000 := by omega
      clear hbx n1d hbl hw1 S
      cases is
      all_goals (try have hb3 : 1 ≤ bk := hb1 rfl)
      all_goals clear hb1
      all_goals
        (go_wp2_with (go_at_call 14; go_must (refine (oback_any zs _ (m0 : Int) _ SD.out.tab HZ2.out).mono ?_; rw [HBK.out]; rintro en W5 ⟨rfl, hg⟩; replace SD := Lib.hid (SD.out.none_ hg); replace HBX := Lib.hid (HBX.out.kept hg); clear hg))
         have H0 : Hid (RI1 w W3 zs (.slice (some ⟨b3, off3, none⟩) zs.length c3) B9 m0 F0 0 F0 W5) := ⟨m0, y0, s0, HY0.out, ha0, by omega, by omega, HF0.out.symm, by rw [Int.sub_self]; exact .zero _, SD.out, HBX.out⟩
         clear HBX SD
         go_loopw [11, 15] (fun le i wr => ∃ (k : Nat) (L : Int), k ≤ 60 ∧ k ≤ bs.length ∧ i = .int .i64 (k : Int) ∧ le = .int .i64 L ∧ RI1 w W3 zs (.slice (some ⟨b3, off3, none⟩) zs.length c3) B9 m0 F0 k L wr) (fun _ i _ => 60 - (intOf i).toNat)
         case atStart => exact ⟨0, F0, by omega, Nat.zero_le _, rfl, rfl, H0.out⟩
         case round =>
           clear H0
           obtain ⟨k, L, hk60, hkb, rfl, rfl, a, x, off, hx, hax, ho0, ho1, hL, hwk, hs, hbx⟩ := hrel
           have hlb : (bs.length : Int) ≤ 9223372036854775807 := by
             obtain ⟨_, _, _, h, _⟩ := HB.out
             omega
           have hal : a < zs.length := (List.getElem?_eq_some_iff.1 hx).1
           have hal2 : (a : Int) < (zs.length : Int) := by omega
           have hoI : off ≤ 4000000 := by omega
           have d0 : wr.cell? ⟨B9, 0, none⟩ = some (.int .i64 (a : Int)) := hbx.cell 0
           have d1 : wr.cell? ⟨B9, 1, none⟩ = some (.int .i64 off) := hbx.cell 1
           have hB9l := hbx.lt
           obtain ⟨A', c', hA, hcl⟩ := hs.tab
           obtain ⟨b', off', hAb, hcl2⟩ := hcl (by intro e0; rw [e0] at hal; simp at hal)
           simp only [Value.slice.injEq, true_and] at hA
           obtain ⟨hA1, rfl⟩ := hA
           rw [← hA1] at hAb
           simp only [Option.some.injEq, Addr.mk.injEq, and_true] at hAb
           obtain ⟨rfl, rfl⟩ := hAb
           obtain ⟨vx, hE, m0c, m1c, m2c, m3c, m4c, m5c⟩ := hcl2 a x hx
           have HE := Lib.hid hE
           obtain ⟨A4, c4, rfl, _, _⟩ := hE
           have hpx := (HO.out.ok.end_ hx).2.1
           obtain ⟨hpx0, hpx1⟩ := hpx
           have hbb := cell_lt m0c
           have HX := Lib.hid hx
           have HAX := Lib.hid hax
           have HWK := Lib.hid hwk
           have HS := Lib.hid hs
           have HBX := Lib.hid hbx
           have HLL := Lib.hid hL
           have hL0 : 0 ≤ L := by omega
           have hL1 : L ≤ 4001000 := by omega
           clear hA1 hcl hcl2 hx hax hwk hs hbx hL
           by_cases hk1 : k < bs.length
           · by_cases hk2 : k < 60
             · have hk0 : (0 : Int) ≤ (k : Int) := by omega
               have hk1' : (k : Int) < (bs.length : Int) := by omega
               have hk2' : (k : Int) < 60 := by omega
               obtain ⟨kind, prio, chan, ⟨pa, ps⟩, next⟩ := x
               dsimp only at *
               have hmem : chan = true → (pa, ps) ∈ allE ⟨kind, prio, chan, (pa, ps), next⟩ := fun h => by simp [allE, h]
               have HMEM := Lib.hid hmem
               clear hmem
               go_upto_if 104 with fail
               have hS6 : RS w W3 zs (.slice (some ⟨b3, off3, none⟩) zs.length c3) B9 a off wr.heap.size ⟨kind, prio, chan, (pa, ps), next⟩ (.slice A4 next.length c4) (.slice A2 bs.length c2) bs (wr.alloc (.cells (ndCells ⟨kind, prio, chan, (pa, ps), next⟩ (.slice A4 next.length c4)) 41)) :=
                 ⟨HS.out.none_ (only_alloc (only_refl _ _) _), HBX.out.alloc _, Blk.new _ _ _, (HB.out.keep (.grown HS.out.step)).keep (.alloc _ _), HE.out.keep (.alloc _ _)⟩
               have S6 := Lib.hid hS6
               have hB96 : B9 < wr.heap.size := hB9l
               have hBNl := hS6.nb.lt
               have p0 : (wr.alloc (.cells (ndCells ⟨kind, prio, chan, (pa, ps), next⟩ (.slice A4 next.length c4)) 41)).cell? ⟨wr.heap.size, 1, none⟩ = some (.int .i64 prio) := hS6.nb.cell 1
               have p3 : (wr.alloc (.cells (ndCells ⟨kind, prio, chan, (pa, ps), next⟩ (.slice A4 next.length c4)) 41)).cell? ⟨wr.heap.size, 3, none⟩ = some (.int .i64 pa) := hS6.nb.cell 3
               have p4 : (wr.alloc (.cells (ndCells ⟨kind, prio, chan, (pa, ps), next⟩ (.slice A4 next.length c4)) 41)).cell? ⟨wr.heap.size, 4, none⟩ = some (.int .i64 ps) := hS6.nb.cell 4
               have t1 : (wr.alloc (.cells (ndCells ⟨kind, prio, chan, (pa, ps), next⟩ (.slice A4 next.length c4)) 41)).cell? ⟨B9, 1, none⟩ = some (.int .i64 off) := hS6.tb.cell 1
               clear d0 d1 m0c m1c m2c m3c m4c m5c hbb hB9l hS6
               generalize wr.heap.size = BN at *
               generalize (wr.alloc (.cells (ndCells ⟨kind, prio, chan, (pa, ps), next⟩ (.slice A4 next.length c4)) 41)) = W6 at *
               go_cut [17] from 105 to 140 (fun p wx => W6.grownBy wx none)
               case first =>
                 cases chan
                 · go_wp2_with fail
                   go_meet
                   exact only_refl _ _
                 · obtain ⟨mp, z, sp, hz, hz5, hml, hsp0, hsp1, hrr, _, hjp⟩ := HO.out.ok.jump HX.out (HMEM.out rfl)
                   obtain ⟨_, _, hps0, hps1⟩ := HO.out.ok.edge HX.out (HMEM.out rfl)
                   have hrr2 := hrr off ho0 (by omega)
                   have HRR := Lib.hid hrr2
                   have HZ9 := Lib.hid hz
                   obtain ⟨hzp0, hzp1⟩ := (HO.out.ok.end_ hz).2.1
                   have hmlI : (mp : Int) < (zs.length : Int) := by omega
                   dsimp only at hps0 hps1
                   have hwA : IntKind.i64.wrap (z.prio + (sp + off)) = z.prio + (sp + off) := IntWalk.i64_in _ ⟨by omega, by omega⟩
                   have hwB : IntKind.i64.wrap (prio + off) = prio + off := IntWalk.i64_in _ ⟨by omega, by omega⟩
                   have hjz : z.kind = 0 ∨ ((z.kind == 0) = false ∧ prio + 1 ≤ z.prio + sp) := by
                     by_cases hzk : z.kind = 0
                     · exact .inl hzk
                     · rw [if_neg hzk] at hjp
                       have := (HO.out.rise HX.out HAX.out (HMEM.out rfl) hjp).1
                       exact .inr ⟨beq_eq_false_iff_ne.2 hzk, by dsimp only at this; omega⟩
                   clear hjp hrr hrr2 hz
                   go_wp2_with (go_at_call 16; go_must (refine (resolve_any zs _ (pa, off + ps) _ S6.out.fs.tab (by have := HZ2.out; omega)).mono ?_; rw [HRR.out]; rintro en W7 ⟨rfl, hg7⟩; have HG7 := Lib.hid hg7; clear hg7))
                   have hbp := Blk.drew (Blk.new W7 37 (edCells ((mp : Int), sp + off)))
                   have s8 := S6.out.none_ (only_drew (only_alloc HG7.out (.cells (edCells ((mp : Int), sp + off)) 37)))
                   obtain ⟨z0, z1⟩ := s8.fs.at_ HZ9.out
                   have p0d : (W7.alloc (.cells (edCells ((mp : Int), sp + off)) 37)).drew.cell? ⟨BN, 1, none⟩ = some (.int .i64 prio) := s8.nb.cell 1
                   have t1d : (W7.alloc (.cells (edCells ((mp : Int), sp + off)) 37)).drew.cell? ⟨B9, 1, none⟩ = some (.int .i64 off) := s8.tb.cell 1
                   have HG8 : Hid (W6.grownBy (W7.alloc (.cells (edCells ((mp : Int), sp + off)) 37)) none) := only_alloc HG7.out _
                   clear s8
                   rcases hjz with hzk | ⟨hzk, hrise⟩
                   · rw [hzk] at z0
                     clear hzk
                     have hb0 := hbp.cell 0
                     have hb1 := hbp.cell 1
                     have hq0 : (W7.alloc (.cells (edCells ((mp : Int), sp + off)) 37)).cell? ⟨W7.heap.size, 0, none⟩ = some (.int .i64 (mp : Int)) := hb0
                     have hq1 : (W7.alloc (.cells (edCells ((mp : Int), sp + off)) 37)).cell? ⟨W7.heap.size, 1, none⟩ = some (.int .i64 (sp + off)) := hb1
                     have zz0 : (W7.alloc (.cells (edCells ((mp : Int), sp + off)) 37)).cell? ⟨b3, off3 + mp * 6, none⟩ = some (.int .i64 0) := z0
                     clear hb0 hb1 z0
                     generalize (W7.alloc (.cells (edCells ((mp : Int), sp + off)) 37)) = W8 at *
                     go_quiet (fail)
                     all_goals go_wp2
                     all_goals go_meet
                     all_goals exact only_drewN_ HG8.out _
                   · have hleF : decide (z.prio + (sp + off) ≤ prio + off) = false := decide_eq_false (by omega)
                     have hq0 : (W7.alloc (.cells (edCells ((mp : Int), sp + off)) 37)).cell? ⟨W7.heap.size, 0, none⟩ = some (.int .i64 (mp : Int)) := hbp.cell 0
                     have hq1 : (W7.alloc (.cells (edCells ((mp : Int), sp + off)) 37)).cell? ⟨W7.heap.size, 1, none⟩ = some (.int .i64 (sp + off)) := hbp.cell 1
                     have zz0 : (W7.alloc (.cells (edCells ((mp : Int), sp + off)) 37)).cell? ⟨b3, off3 + mp * 6, none⟩ = some (.int .i64 z.kind) := z0
                     have zz1 : (W7.alloc (.cells (edCells ((mp : Int), sp + off)) 37)).cell? ⟨b3, off3 + mp * 6 + 1, none⟩ = some (.int .i64 z.prio) := z1
                     have zp : (W7.alloc (.cells (edCells ((mp : Int), sp + off)) 37)).cell? ⟨BN, 1, none⟩ = some (.int .i64 prio) := p0d
                     have zt : (W7.alloc (.cells (edCells ((mp : Int), sp + off)) 37)).cell? ⟨B9, 1, none⟩ = some (.int .i64 off) := t1d
                     have hzk2 : (z.kind != 0) = true := by simp [bne, hzk]
                     clear z0 z1 p0d t1d
                     generalize (W7.alloc (.cells (edCells ((mp : Int), sp + off)) 37)) = W8 at *
                     go_quiet (fail)
                     all_goals go_wp2
                     all_goals go_meet
                     all_goals exact only_drewN_ HG8.out _
               case rest =>
                 have S9 := Lib.hid (S6.out.none_ hcut)
                 clear S6 p0 p3 p4 t1 hBNl hcut
                 have hln8 := (HO.out.ok.end_ HX.out).2.2.1
                 have hln1 := (HO.out.ok.end_ HX.out).2.2.2 HAX.out
                 dsimp only at hln8 hln1
                 obtain ⟨xb, hxb⟩ : ∃ xb, bs[k]? = some xb := ⟨_, List.getElem?_eq_getElem hk1⟩
                 obtain ⟨Ab, cb, hAb, _, hbr, hbc⟩ := S9.out.bb
                 obtain ⟨bB, offB, hbB, hbc2⟩ := hbc (by intro e0; rw [e0] at hk1; simp at hk1)
                 obtain ⟨rfl, rfl⟩ : A2 = Ab ∧ c2 = cb := by simpa using hAb
                 subst hbB
                 have cb0 := hbc2 k xb hxb
                 obtain ⟨hxb0, hxb1⟩ := hbr xb (List.mem_of_getElem? hxb)
                 obtain ⟨qi, hqi⟩ : ∃ qi : Nat, xb % (next.length : Int) = (qi : Int) := ⟨(xb % (next.length : Int)).toNat, by have := Int.emod_nonneg xb (by omega : (next.length : Int) ≠ 0); omega⟩
                 have hqil : (qi : Int) < next.length := by rw [← hqi]; exact Int.emod_lt_of_pos _ (by omega)
                 have hqt : xb.tmod (next.length : Int) = (qi : Int) := by rw [Int.tmod_eq_emod_of_nonneg hxb0]; exact hqi
                 obtain ⟨⟨ea, es⟩, he⟩ : ∃ e, next[qi]? = some e := ⟨_, List.getElem?_eq_getElem (by omega)⟩
                 obtain ⟨A5, c5, hA5, _, hcl5⟩ := S9.out.ed
                 obtain ⟨b5, off5, hb5, hce5⟩ := hcl5 (by intro e0; dsimp only at e0; rw [e0] at hln1; simp at hln1)
                 obtain ⟨rfl, rfl⟩ : A4 = A5 ∧ c4 = c5 := by simpa using hA5
                 subst hb5
                 obtain ⟨e0, e1⟩ := hce5 qi _ he
                 have p5 : wc.cell? ⟨BN, 5, none⟩ = some (.slice (some ⟨b5, off5, none⟩) next.length c4) := S9.out.nb.cell 5
                 have hln : (next.length : Int) ≤ 8 := by omega
                 have hln0 : (next.length : Int) ≠ 0 := by omega
                 have HEQ := Lib.hid he
                 have hnn : ¬ next = [] := by intro e; rw [e] at hln1; simp at hln1
                 have hwx : IntKind.i64.wrap xb = xb := IntWalk.i64_in _ ⟨by omega, by omega⟩
                 have hln2 : ((next.length : Int) == 0) = false := beq_eq_false_iff_ne.2 hln0
                 have hqi0 : (0 : Int) ≤ (qi : Int) := by omega
                 clear hcl5 hce5 hA5 hbc hbc2 hbr hAb he hxb
                 have kz : ∀ o, Keeps wc (wc.alloc o).drew := fun o => (Keeps.alloc wc o).drew
                 go_upto_region 25 with fail
                 go_region_held3 (fun w' => w'.cell? ⟨BN, 5, none⟩ = some (.slice (some ⟨b5, off5, none⟩) next.length c4) ∧ w'.cell? ⟨bB, offB + k, none⟩ = some (.int .u8 xb) ∧ w'.cell? ⟨b5, off5 + qi * 2, none⟩ = some (.int .i64 ea) ∧ w'.cell? ⟨b5, off5 + qi * 2 + 1, none⟩ = some (.int .i64 es)) (first | exact ⟨kz _ _ _ p5, kz _ _ _ cb0, kz _ _ _ e0, kz _ _ _ e1⟩ | exact ⟨p5, cb0, e0, e1⟩) (fail)
                 have hS10 := S9.out.none_ (only_drew (only_alloc (only_refl _ _) (.cells (edCells (ea, es)) 24)))
                 have hbk10 := Blk.drew (Blk.new wc 24 (edCells (ea, es)))
                 obtain ⟨m2, y2, s2, hy2, hy25, hm2l, hs20, hs21, hrr2, _, hjp2⟩ := HO.out.ok.jump HX.out (List.mem_append_left _ (List.mem_of_getElem? HEQ.out))
                 obtain ⟨_, _, hes0, hes1⟩ := HO.out.ok.edge HX.out (List.mem_append_left _ (List.mem_of_getElem? HEQ.out))
                 have HRK := Lib.hid (hrr2 off ho0 (by omega))
                 have HY2 := Lib.hid hy2
                 obtain ⟨hyp0, hyp1⟩ := (HO.out.ok.end_ hy2).2.1
                 have hm2I : (m2 : Int) < (zs.length : Int) := by omega
                 dsimp only at hes0 hes1
                 have HJP2 := Lib.hid hjp2
                 clear hrr2 hy2 hjp2 p5 cb0 e0 e1 kz S9
                 have c10a : (wc.alloc (.cells (edCells (ea, es)) 24)).drew.cell? ⟨wc.heap.size, 0, none⟩ = some (.int .i64 ea) := hbk10.cell 0
                 have c10b : (wc.alloc (.cells (edCells (ea, es)) 24)).drew.cell? ⟨wc.heap.size, 1, none⟩ = some (.int .i64 es) := hbk10.cell 1
                 have c10c : (wc.alloc (.cells (edCells (ea, es)) 24)).drew.cell? ⟨B9, 1, none⟩ = some (.int .i64 off) := hS10.tb.cell 1
                 have S10 := Lib.hid hS10
                 clear hS10 hbk10
                 generalize (wc.alloc (.cells (edCells (ea, es)) 24)).drew = W10 at *
                 by_cases hy2k : y2.kind = 0
                 · go_upto_region 27 with (go_at_call 16; go_must (refine (resolve_any zs _ (ea, off + es) _ S10.out.fs.tab (by have := HZ2.out; omega)).mono ?_; rw [HRK.out]; rintro en W11 ⟨rfl, hg11⟩; have hS11 := S10.out.none_ hg11; have f0 : W11.frozen? ⟨B9, 0, none⟩ = false := hS11.tb.frozen 0; have f1 : W11.frozen? ⟨B9, 1, none⟩ = false := hS11.tb.frozen 1; have t0 : W11.cell? ⟨B9, 0, none⟩ = some (.int .i64 (a : Int)) := hS11.tb.cell 0; have t1 : W11.cell? ⟨B9, 1, none⟩ = some (.int .i64 off) := hS11.tb.cell 1; have S12 := Lib.hid (hS11.fs.set_ (.int .i64 (m2 : Int)) (.int .i64 (s2 + off))); have B12 : Hid (Blk ((W11.setCell ⟨B9, 0, none⟩ (.int .i64 (m2 : Int))).setCell ⟨B9, 1, none⟩ (.int .i64 (s2 + off))) B9 37 (edCells ((m2 : Int), s2 + off))) := (hS11.tb.set_ 0 (.int .i64 (m2 : Int))).set_ 1 (.int .i64 (s2 + off)); have hyc := S12.out.at_ HY2.out; clear hS11 hg11))
                   obtain ⟨y20, y21⟩ := hyc
                   rw [hy2k] at y20
                   generalize ((W11.setCell ⟨B9, 0, none⟩ (.int .i64 (m2 : Int))).setCell ⟨B9, 1, none⟩ (.int .i64 (s2 + off))) = W12 at *
                   have u0 : W12.cell? ⟨B9, 0, none⟩ = some (.int .i64 (m2 : Int)) := B12.out.cell 0
                   go_wp2_with fail
                   go_ret
                   exact ⟨rfl, S12.out.step⟩
                 · go_upto_region 27 with (go_at_call 16; go_must (refine (resolve_any zs _ (ea, off + es) _ S10.out.fs.tab (by have := HZ2.out; omega)).mono ?_; rw [HRK.out]; rintro en W11 ⟨rfl, hg11⟩; have hS11 := S10.out.none_ hg11; have f0 : W11.frozen? ⟨B9, 0, none⟩ = false := hS11.tb.frozen 0; have f1 : W11.frozen? ⟨B9, 1, none⟩ = false := hS11.tb.frozen 1; have t0 : W11.cell? ⟨B9, 0, none⟩ = some (.int .i64 (a : Int)) := hS11.tb.cell 0; have t1 : W11.cell? ⟨B9, 1, none⟩ = some (.int .i64 off) := hS11.tb.cell 1; have S12 := Lib.hid (hS11.fs.set_ (.int .i64 (m2 : Int)) (.int .i64 (s2 + off))); have B12 : Hid (Blk ((W11.setCell ⟨B9, 0, none⟩ (.int .i64 (m2 : Int))).setCell ⟨B9, 1, none⟩ (.int .i64 (s2 + off))) B9 37 (edCells ((m2 : Int), s2 + off))) := (hS11.tb.set_ 0 (.int .i64 (m2 : Int))).set_ 1 (.int .i64 (s2 + off)); have hyc := S12.out.at_ HY2.out; clear hS11 hg11))
                   obtain ⟨y20, y21⟩ := hyc
                   generalize ((W11.setCell ⟨B9, 0, none⟩ (.int .i64 (m2 : Int))).setCell ⟨B9, 1, none⟩ (.int .i64 (s2 + off))) = W12 at *
                   have u0 : W12.cell? ⟨B9, 0, none⟩ = some (.int .i64 (m2 : Int)) := B12.out.cell 0
                   have u1 : W12.cell? ⟨B9, 1, none⟩ = some (.int .i64 (s2 + off)) := B12.out.cell 1
                   have hy2b : (y2.kind == 0) = false := beq_eq_false_iff_ne.2 hy2k
                   have hjj := HJP2.out
                   rw [if_neg hy2k] at hjj
                   obtain ⟨hd1, hd2, _, _, _⟩ := HO.out.rise HX.out HAX.out (List.mem_append_left _ (List.mem_of_getElem? HEQ.out)) hjj
                   have hwk2 : Wk zs (k + 1) m0 m2 (y2.prio + (s2 + off) - F0) := by
                     have := HWK.out.snoc ⟨_, _, HX.out, HAX.out, List.mem_of_getElem? HEQ.out, hjj⟩
                     rw [show L - F0 + (y2.prio + s2 - prio) = y2.prio + (s2 + off) - F0 by have := HLL.out; omega] at this
                     exact this
                   have hpos := hwk2.pos HO.out
                   have HWK2 := Lib.hid hwk2
                   clear t0 t1 f0 f1 hjj hwk2 c10a c10b c10c
                   have hgt : L < y2.prio + (s2 + off) := by have := HLL.out; omega
                   have hge : F0 + (k : Int) + 1 ≤ y2.prio + (s2 + off) := by omega
                   have hle : y2.prio + (s2 + off) ≤ 5000000 := by omega
                   have hwN : IntKind.i64.wrap (y2.prio + (s2 + off)) = y2.prio + (s2 + off) := IntWalk.i64_in _ ⟨by omega, by omega⟩
                   have HS2 : Hid (0 ≤ s2 + off ∧ s2 + off ≤ 64000 + 65000 * ((k + 1 : Nat) : Int)) := by
                     refine Lib.hid ⟨by omega, ?_⟩
                     first | omega | exact by push_cast; omega
                   have HA2 : Hid (actB y2.kind = true) := by
                     refine Lib.hid ?_
                     obtain ⟨_, _, _, _, yy, h1, h2⟩ := HO.out.rise HX.out HAX.out (List.mem_append_left _ (List.mem_of_getElem? HEQ.out)) (by have := HJP2.out; rw [if_neg hy2k] at this; exact this)
                     have h3 : zs[m2]? = some yy := by simpa using h1
                     rw [HY2.out] at h3
                     obtain rfl := Option.some.inj h3
                     exact h2
                   have dL : decide (y2.prio + (s2 + off) ≤ L) = false := decide_eq_false (by omega)
                   have dF : decide (y2.prio + (s2 + off) < F0 + (k : Int) + 1) = false := decide_eq_false (by omega)
                   have wF1 : IntKind.i64.wrap (F0 + (k : Int)) = F0 + (k : Int) := IntWalk.i64_in _ ⟨by omega, by omega⟩
                   have wF2 : IntKind.i64.wrap (F0 + (k : Int) + 1) = F0 + (k : Int) + 1 := IntWalk.i64_in _ ⟨by omega, by omega⟩
                   have wNF : IntKind.i64.wrap (y2.prio + (s2 + off) - F0) = y2.prio + (s2 + off) - F0 := IntWalk.i64_in _ ⟨by omega, by omega⟩
                   clear hd1 hd2 hgt hge hpos
                   go_upto_region 29 with fail
                   go_quiet (fail)
                   by_cases hmm : m2 = m0
                   · subst hmm
                     have dm : ((m2 : Int) == (m2 : Int)) = true := beq_self_eq_true _
                     first
                       | (rcases HBI.out with ⟨h, _⟩ | ⟨_, h⟩
                          · cases h
                          · exact absurd HWK2.out (h _ _ (by omega)))
                       | (have dB : decide (y2.prio + (s2 + off) - F0 < bk) = false := by
                            rcases HBI.out with ⟨_, _, h⟩ | ⟨h, _⟩
                            · have := h _ _ (by omega) HWK2.out
                              exact decide_eq_false (by simp only at this; omega)
                            · cases h
                          go_wp2_with fail
                          go_roundw
                          · exact ⟨k + 1, _, by omega, by omega, rfl, rfl, m2, y2, s2 + off, HY2.out, HA2.out, HS2.out.1, HS2.out.2, rfl, HWK2.out, S12.out.none_ (only_drewN_ (only_refl _ _) _), B12.out.kept (only_drewN_ (only_refl _ _) _)⟩
                          · simp [intOf]; omega)
                   · have dm : ((m2 : Int) == (m0 : Int)) = false := beq_eq_false_iff_ne.2 (by omega)
                     go_wp2_with fail
                     go_roundw
                     · exact ⟨k + 1, _, by omega, by omega, rfl, rfl, m2, y2, s2 + off, HY2.out, HA2.out, HS2.out.1, HS2.out.2, rfl, HWK2.out, S12.out.none_ (only_drewN_ (only_refl _ _) _), B12.out.kept (only_drewN_ (only_refl _ _) _)⟩
                     · simp [intOf]; omega
             · go_wp2_with fail
               go_ret
               exact ⟨rfl, HS.out.step⟩
           · go_wp2_with fail
             go_ret
             exact ⟨rfl, HS.out.step⟩)
  · have HC := Lib.hid hc
    obtain ⟨ha1, ha2⟩ := order_at hc
    have hc' : ((orderL zs).2 == 0) = false := beq_eq_false_iff_ne.2 hc
    clear hc
    go_wp2_with (go_at_call 9; go_must (refine (ocheck_any zs _ _ S.out.tab HZ2.out).mono ?_; rintro en W2 ⟨rfl, hg⟩; replace S := Lib.hid (S.out.none_ hg); clear hg))
    all_goals go_ret
    all_goals exact ⟨by first | rfl | (simp [bne, hc']; done), S.out.step⟩
end Go.Proofs.Ytablbgfleopbfaa

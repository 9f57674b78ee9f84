/- The document's answer for order: Back. -/
import Derived.Test.YtablbgfleopbfaaOBck
import Derived.Test.YtablbgfleopbfaaORCh
import Derived.Deep.OwnRows
namespace Go.Proofs.Ytablbgfleopbfaa
open Go.RowKit Go.Shelf

/-- A row of numbers that is known whole. -/
def IB (W : World) (B : Nat) (ls : List Int) : Prop := Blk W B 3 (ls.map fun z => Value.int .i64 z).toArray
section
variable {W W' : World} {B : Nat} {ls : List Int}
theorem IB.kept (h : IB W B ls) (hg : W.grownBy W' none) : IB W' B ls := Blk.kept h hg
theorem IB.cell (h : IB W B ls) {k : Nat} (hk : k < ls.length) : W.cell? ⟨B, k, none⟩ = some (.int .i64 (valL ls k)) := by
  rw [Blk.cell h k]
  simp [valL, hk]
theorem IB.set (h : IB W B ls) (k : Nat) (a : Int) : IB (W.setCell ⟨B, k, none⟩ (.int .i64 a)) B (ls.set k a) := by
  have := Blk.set_ h k (.int .i64 a)
  unfold IB
  rw [List.map_set]
  simpa using this
theorem IB.made (W : World) (n : Nat) : IB (W.alloc (.cells (madeCells #[.int .i64 0] n) 3)) W.heap.size (List.replicate n 0) := by
  have : madeCells #[Value.int .i64 0] n = ((List.replicate n (0 : Int)).map fun z => Value.int .i64 z).toArray := by
    refine Array.ext (by simp [size_madeCells]) fun i h1 h2 => ?_
    simp [madeCells, Nat.mod_one]
  rw [this]
  exact Blk.new _ _ _
end
theorem all_neg {ls : List Int} {n : Nat} (hl : ls.length = n) (h : ∀ j, j < n → ls[j]? = some (-1)) : ls = List.replicate n (-1) := by
  apply List.ext_getElem?
  intro i
  rw [List.getElem?_replicate]
  by_cases hi : i < n
  · rw [if_pos hi]; exact h i hi
  · rw [if_neg hi]; exact List.getElem?_eq_none (by omega)
theorem neg_next {ls : List Int} {k : Nat} (hk : k < ls.length) (h : ∀ j, j < k → ls[j]? = some (-1)) : ∀ j, j < k + 1 → (ls.set k (-1))[j]? = some (-1) := fun j hj => by
  rw [List.getElem?_set]
  by_cases e : k = j
  · subst e; simp [hk]
  · simp only [e, if_false]; exact h j (by omega)
theorem relK_step {xs : List Nd} {p so : Int} {es : List Ed} {ls : List Int} {k : Nat} {e : Ed} (h : es[k]? = some e) : relK xs p so es ls (k + 1) = relE xs p so (relK xs p so es ls k) e := by
  show (match es[k]? with | some e => relE xs p so (relK xs p so es ls k) e | none => relK xs p so es ls k) = _
  rw [h]
theorem back_val {xs : List Nd} (ho : ORD xs) {u : Nat} {x : Nd} (hx : xs[u]? = some x) (ha : actB x.kind = true) : backL xs (u : Int) = (if lastL xs u < 0 then (0, false) else (lastL xs u, true)) := by
  unfold backL
  rw [ho.order]
  simp only [nodeAt_nat, hx, ha, if_true, Int.toNat_natCast]
theorem int_info : (Try.prog.info? 3).map (fun i => (i.zero, i.size, i.bytes)) = some (some (.int .i64 0), 1, 8) := by kernel_rfl
set_option maxRecDepth 100000 in
set_option maxHeartbeats 4000000 in
theorem rback_any (xs : List Nd) (v : Value) (i : Int) (w : World) (hT : Tbl w v xs) (hxs : xs.length ≤ 1000) :
    Calls Try.prog 15 #[v, .int .i64 i] w fun e w' => e = .returned (pairB (backL xs i)) ∧ w.grownBy w' none := by
  have HT := Lib.hid hT
  have HL := Lib.hid hxs
  obtain ⟨A, cap, rfl, hcl⟩ := hT
  have HCL := Lib.hid hcl
  clear hcl hxs
  by_cases hc : (orderL xs).2 = 0
  · have HO := Lib.hid (ord_of hc)
    have HC := Lib.hid (ord_of hc).order
    clear hc
    cases hf : nodeB xs.length i
    · have HR : Hid (backL xs i = (0, false)) := back_2 hf
      have hf2 : i < 0 ∨ (0 ≤ i ∧ (xs.length : Int) ≤ i) := by
        have := mt nodeB_true.2 (by rw [hf]; simp)
        omega
      clear hf
      rcases hf2 with hf2 | ⟨hf2, hf3⟩
      all_goals
        (go_enter Try.func15, Try.ntmps15
         go_wp2_with (go_at_call 10; go_must (refine (rCheck_any xs _ _ HT.out HL.out).mono ?_; rw [HC.out]; rintro e w1 ⟨rfl, hg1⟩; have HG1 := Lib.hid hg1; clear hg1))
         go_ret2
         exact ⟨by rw [HR.out]; rfl, HG1.out⟩)
    · obtain ⟨x, hx, hx2⟩ := nodeAt_of hf
      obtain ⟨h0, h1⟩ := nodeB_true.1 hf
      obtain ⟨u, rfl⟩ : ∃ u : Nat, i = u := ⟨i.toNat, by omega⟩
      simp only [Int.toNat_natCast] at hx2
      have hul : u < xs.length := by omega
      obtain ⟨bb, off, rfl, hcl2⟩ := HCL.out (by intro e0; rw [e0] at hul; simp at hul)
      obtain ⟨v', _, n0, n1, n2, n3, n4, n5⟩ := hcl2 u x hx2
      have HX := Lib.hid hx2
      have hxs' : (xs.length : Int) ≤ 64 := by have := HO.out.ok.le; omega
      have hact := HO.out.ok.act hx2
      cases ha : actB x.kind
      · have HR : Hid (backL xs (u : Int) = (0, false)) := back_3 hx ha
        have HA : Hid (actR x.kind = false) := hact.trans ha
        clear hf hx hx2 ha hact hcl2
        go_enter Try.func15, Try.ntmps15
        go_wp2_with (first | (go_at_call 10; go_must (refine (rCheck_any xs _ _ HT.out HL.out).mono ?_; rw [HC.out]; rintro e w1 ⟨rfl, hg1⟩; have HG1 := Lib.hid hg1; have a0 := Keeps.grown hg1 _ _ n0; have a1 := Keeps.grown hg1 _ _ n1; have a2 := Keeps.grown hg1 _ _ n2; have a3 := Keeps.grown hg1 _ _ n3; have a4 := Keeps.grown hg1 _ _ n4; have a5 := Keeps.grown hg1 _ _ n5; clear hg1)) | (go_at_call 23; go_must (refine (racts_any x v' _).mono ?_; rw [HA.out]; rintro e w3 ⟨rfl, hg3⟩; have HG3 := Lib.hid hg3; clear hg3)))
        go_ret2
        exact ⟨by rw [HR.out]; rfl, only_trans HG1.out HG3.out⟩
      · have HA : Hid (actR x.kind = true) := hact.trans ha
        have HA2 := Lib.hid ha
        clear hf hx hx2 ha hact hcl2
        have hdu : decide (xs.length ≤ u) = false := decide_eq_false (by omega)
        have hdu0 : decide ((u : Int) < 0) = false := decide_eq_false (by omega)
        have hmk := run_make_row' (P := Try.prog) 52 3 (.int .i64 0) 8 Try.underlying52 int_info rfl .i64 .i64 xs.length (by omega) (by omega)
        go_enter Try.func15, Try.ntmps15
        go_wp2_with (first | (go_at_call 10; go_must (refine (rCheck_any xs _ _ HT.out HL.out).mono ?_; rw [HC.out]; rintro e w1 ⟨rfl, hg1⟩; have HG1 := Lib.hid hg1; have a0 := Keeps.grown hg1 _ _ n0; have a1 := Keeps.grown hg1 _ _ n1; have a2 := Keeps.grown hg1 _ _ n2; have a3 := Keeps.grown hg1 _ _ n3; have a4 := Keeps.grown hg1 _ _ n4; have a5 := Keeps.grown hg1 _ _ n5; clear hg1)) | (go_at_call 23; go_must (refine (racts_any x v' _).mono ?_; rw [HA.out]; rintro e w3 ⟨rfl, hg3⟩; have HG3 := Lib.hid (only_trans HG1.out hg3); clear hg3)))
        have hIB := IB.made w3 xs.length
        have hBw : w.heap.size ≤ w3.heap.size := HG3.out.size
        have HG0 := Lib.hid (only_alloc HG3.out (.cells (madeCells #[.int .i64 0] xs.length) 3))
        have HIB := Lib.hid hIB
        generalize w3.heap.size = B at *
        generalize w3.alloc (.cells (madeCells #[.int .i64 0] xs.length) 3) = w5 at *
        clear hIB n0 n1 n2 n3 n4 n5 a0 a1 a2 a3 a4 a5 hmk
        go_loopw [9] (fun i wr => ∃ (k : Nat) (ls : List Int), k ≤ xs.length ∧ i = .int .i64 (k : Int) ∧ IB wr B ls ∧ ls.length = xs.length ∧ (∀ j, j < k → ls[j]? = some (-1)) ∧ w.grownBy wr none) (fun i _ => xs.length - (intOf i).toNat)
        case atStart => exact ⟨0, _, Nat.zero_le _, rfl, HIB.out, by simp, fun j h => by omega, HG0.out⟩
        case round =>
          clear HIB HG0
          obtain ⟨k, ls, hk, rfl, hib, hln, hneg, hg⟩ := hrel
          have HIB := Lib.hid hib
          have HG := Lib.hid hg
          have HNG := Lib.hid hneg
          have HLN := Lib.hid hln
          by_cases hlt : k < xs.length
          · have hk0 : (0 : Int) ≤ (k : Int) := by omega
            have hk1 : (k : Int) < (xs.length : Int) := by omega
            have hkl : k < ls.length := by omega
            have c0 := hib.cell hkl
            have f0 : wr.frozen? ⟨B, k, none⟩ = false := Blk.frozen hib k
            have HKL := Lib.hid hkl
            clear hib hg hneg hln hkl
            go_wp2_with fail
            exact ⟨⟨k + 1, _, by omega, by go_num, HIB.out.set k (-1), by rw [List.length_set]; exact HLN.out, neg_next HKL.out HNG.out, only_setNew HG.out hBw _⟩, by simp [intOf]; omega⟩
          · have hke : k = xs.length := by omega
            have hge : (xs.length : Int) ≤ (k : Int) := by omega
            have hge2 : decide (k < xs.length) = false := decide_eq_false hlt
            have HI0 : Hid (IB wr B (rounds xs u 0)) := by
              have := all_neg hln (by rw [hke] at hneg; exact hneg)
              rw [this] at hib
              exact hib
            clear hib hg hneg hln hk hlt hke HIB HNG HLN
            go_wp2_with fail
            go_loopw [10] (fun r wr => ∃ q : Nat, q ≤ xs.length + 1 ∧ r = .int .i64 (q : Int) ∧ IB wr B (rounds xs u q) ∧ w.grownBy wr none) (fun r _ => xs.length + 2 - (intOf r).toNat)
            case atStart => exact ⟨0, by omega, rfl, HI0.out, HG.out⟩
            case round =>
              clear HI0 HG hge hge2
              obtain ⟨q, hq, rfl, hib, hg⟩ := hrel
              have HIB := Lib.hid hib
              have HG := Lib.hid hg
              clear hib hg
              by_cases hql : q ≤ xs.length
              · have hq0 : (0 : Int) ≤ (q : Int) := by omega
                have hq1 : (q : Int) ≤ (xs.length : Int) := by omega
                go_wp2_with fail
                go_loopw [11] (fun i wj => ∃ j : Nat, j ≤ xs.length ∧ i = .int .i64 (j : Int) ∧ IB wj B (sweep xs u (rounds xs u q) j) ∧ w.grownBy wj none) (fun i _ => xs.length - (intOf i).toNat)
                case atStart => exact ⟨0, by omega, rfl, HIB.out, HG.out⟩
                case round =>
                  clear HIB HG
                  obtain ⟨j, hj, rfl, hib, hg⟩ := hrel
                  have HIB := Lib.hid hib
                  have HG := Lib.hid hg
                  clear hib hg
                  by_cases hjl : j < xs.length
                  · have hj0 : (0 : Int) ≤ (j : Int) := by omega
                    have hj1 : (j : Int) < (xs.length : Int) := by omega
                    obtain ⟨y, hy⟩ : ∃ y, xs[j]? = some y := ⟨_, List.getElem?_eq_getElem hjl⟩
                    have HY := Lib.hid hy
                    obtain ⟨A', c', hA, hcl⟩ := HT.out.keep (Keeps.grown HG.out)
                    obtain ⟨b', off', hAb, hcl2⟩ := hcl (by intro e0; rw [e0] at hjl; simp at hjl)
                    obtain ⟨vy, hE, m0, m1, m2, m3, m4, m5⟩ := hcl2 j y hy
                    simp only [Value.slice.injEq, true_and] at hA
                    obtain ⟨hA1, rfl⟩ := hA
                    rw [← hA1] at hAb
                    simp only [Option.some.injEq, Addr.mk.injEq, and_true] at hAb
                    obtain ⟨rfl, rfl⟩ := hAb
                    have HE := Lib.hid hE
                    obtain ⟨A2, c2, rfl, _, _⟩ := hE
                    obtain ⟨hr1, hr2⟩ := rounds_ok HO.out u q
                    obtain ⟨hsn, _, _⟩ := sweep_ok HO.out (by omega) hr1 hr2 j
                    have hact := HO.out.ok.act hy
                    generalize hls : sweep xs u (rounds xs u q) j = L0 at *
                    have HLS := Lib.hid hls
                    have HSN := Lib.hid hsn
                    have hL0 : j < L0.length := by rw [hsn.len]; exact hjl
                    have cj := HIB.out.cell hL0
                    have hbnd : -1 ≤ valL L0 j ∧ valL L0 j ≤ 300000000 := by rcases hsn.val j with h | ⟨h1, h2, _⟩ <;> omega
                    obtain ⟨hb1, hb2⟩ := hbnd
                    clear hA1 hcl hcl2 hr1 hr2 hsn hls hy hL0
                    cases hay : actB y.kind
                    · have HAY : Hid (actR y.kind = false) := hact.trans hay
                      have HN : Hid (sweep xs u (rounds xs u q) (j + 1) = L0) := show _ = _ by unfold sweep; rw [HLS.out]; unfold relN; rw [HY.out]; simp [goesB, hay]
                      clear hact hay
                      go_wp2_with (go_at_call 23; go_must (refine (racts_any y (.slice A2 y.next.length c2) _).mono ?_; rw [HAY.out]; rintro e w7 ⟨rfl, hg7⟩; have HG7 := Lib.hid hg7; clear hg7))
                      go_roundw
                      case rel => exact ⟨j + 1, by omega, by go_num, by rw [HN.out]; exact HIB.out.kept HG7.out, only_trans HG.out HG7.out⟩
                      case measure => simp [intOf]; omega
                    · have HAY : Hid (actR y.kind = true) := hact.trans hay
                      have HAB := Lib.hid hay
                      clear hact hay
                      by_cases hgo : j = u ∨ 0 ≤ valL L0 j
                      · by_cases hju : j = u
                        · have hne : ((j : Int) == (u : Int)) = true := by simp [hju]
                          have hne2 : ((j : Int) != (u : Int)) = false := by simp [bne, hne]
                          have HW : Hid (Wk xs 0 u j 0) := by rw [hju]; exact .zero _
                          have HN : Hid (sweep xs u (rounds xs u q) (j + 1) = relK xs y.prio 0 y.next L0 y.next.length) := show _ = _ by
                            have : soOf u L0 j = 0 := by unfold soOf; rw [if_pos hju]
                            unfold sweep; rw [HLS.out]; unfold relN; rw [HY.out]; simp [goesB, HAB.out, hju, soOf]
                          have HSB : Hid ((0 : Int) + 66000 ≤ 66000 * 64 * (q : Int) + 66000 * (j : Int) + 66000) := show _ ≤ _ by omega
                          replace HSN := Lib.hid (HSN.out.more (by omega : 66000 * 64 * (q : Int) + 66000 * (j : Int) ≤ 66000 * 64 * (q : Int) + 66000 * (j : Int) + 66000))
                          clear hgo hju
                          go_upto_if 86 with (go_at_call 23; go_must (refine (racts_any y (.slice A2 y.next.length c2) _).mono ?_; rw [HAY.out]; rintro e w7 ⟨rfl, hg7⟩; have HG7 := Lib.hid hg7; have d0 := Keeps.grown hg7 _ _ cj; clear hg7))
                          go_cut [12] from 84 to 90 (fun s wx => ∃ S : Int, s = .int .i64 S ∧ S = 0 ∧ wx = w7)
                          case first =>
                            go_wp2_with fail
                            go_meet
                            exact ⟨0, rfl, rfl, rfl⟩
                          case rest =>
                            obtain ⟨S, rfl, hS, rfl⟩ := hcut
                            rw [← hS] at HN HSB HW
                            have hS0 : 0 ≤ S := by omega
                            have hS1 : S ≤ 1 := by omega
                            clear hS
                            go_wp2_with fail
                            go_loopw [13] (fun kv wk => ∃ kk : Nat, kk ≤ y.next.length ∧ kv = .int .i64 (kk : Int) ∧ IB wk B (relK xs y.prio (S) y.next L0 kk) ∧ w.grownBy wk none ) (fun kv _ => y.next.length - (intOf kv).toNat)
                            case atStart => exact ⟨0, by omega, rfl, HIB.out.kept HG7.out, only_trans HG.out HG7.out⟩
                            case round =>
                              clear HG7 d0 cj
                              obtain ⟨kk, hkk, rfl, hib, hgw⟩ := hrel
                              have HIK := Lib.hid hib
                              have HGW := Lib.hid hgw
                              obtain ⟨hk1, _, _⟩ := relK_ok HO.out HY.out HAB.out HSN.out HW.out hS0 HSB.out kk
                              have HK1 := Lib.hid hk1
                              obtain ⟨A7, c7, hA7, hcl7⟩ := HT.out.keep (Keeps.grown HGW.out)
                              obtain ⟨b7, off7, hb7, hcl8⟩ := hcl7 (by intro e0; rw [e0] at hjl; simp at hjl)
                              obtain ⟨vy7, hE7, _, _, _, _, _, p5⟩ := hcl8 j y HY.out
                              simp only [Value.slice.injEq, true_and] at hA7
                              obtain ⟨hA7, rfl⟩ := hA7
                              rw [← hA7] at hb7
                              simp only [Option.some.injEq, Addr.mk.injEq, and_true] at hb7
                              obtain ⟨rfl, rfl⟩ := hb7
                              have HE7 := Lib.hid hE7
                              obtain ⟨A2, c2, rfl, _, _⟩ := hE7
                              have hbk := cell_lt p5
                              have hnl : (y.next.length : Int) ≤ 8 := by have := (HO.out.ok.end_ HY.out).2.2.1; omega
                              clear hib hk1 hgw hA7 hcl7 hcl8 m0 m1 m2 m3 m4 m5
                              by_cases hkl : kk < y.next.length
                              · have hkk0 : (0 : Int) ≤ (kk : Int) := by omega
                                have hkk1 : (kk : Int) < (y.next.length : Int) := by omega
                                obtain ⟨⟨ea, es⟩, he⟩ : ∃ e, y.next[kk]? = some e := ⟨_, List.getElem?_eq_getElem hkl⟩
                                have hmem : (ea, es) ∈ allE y := List.mem_append_left _ (List.mem_of_getElem? he)
                                obtain ⟨A6, c6, hA6, _, hcl6⟩ := HE7.out
                                obtain ⟨b6, off6, hb6, hce6⟩ := hcl6 (by intro e0; rw [e0] at hkl; simp at hkl)
                                obtain ⟨rfl, rfl⟩ : A2 = A6 ∧ c2 = c6 := by simpa using hA6
                                subst hb6
                                obtain ⟨e0, e1⟩ := hce6 kk _ he
                                obtain ⟨mt, z, sz, hz, hz5, hml, hsz0, hsz1, _, hrm, hjp⟩ := HO.out.ok.jump HY.out hmem
                                have hjA := HO.out.ok.jumpA_edge HY.out hmem
                                have hed := HO.out.ok.edge HY.out hmem
                                have HED2 : Hid (-9223372036854775808 ≤ (ea, es).2 ∧ (ea, es).2 ≤ 9223372036854775807) := ⟨by show _ ≤ es; have := hed.2.2; simp only at this; omega, by show es ≤ _; have := hed.2.2; simp only at this; omega⟩
                                obtain ⟨o0, hro⟩ : ∃ o0, resolveL xs (ea, 0) = ((mt : Int), o0) := ⟨(resolveL xs (ea, 0)).2, by rw [← hrm]⟩
                                have HRO := Lib.hid hro
                                have HT7 := Lib.hid (HT.out.keep (.grown HGW.out))
                                have HREL := Lib.hid (relK_step (xs := xs) (p := y.prio) (so := S) (ls := L0) he)
                                have hlen : mt < (relK xs y.prio (S) y.next L0 kk).length := by rw [HK1.out.len]; exact hml
                                have cm := HIK.out.cell hlen
                                have fm : wr.frozen? ⟨B, mt, none⟩ = false := Blk.frozen HIK.out mt
                                have hblt := Blk.lt HIK.out
                                have hmt1 : (mt : Int) < (xs.length : Int) := by omega
                                have hvb : -1 ≤ valL (relK xs y.prio (S) y.next L0 kk) mt ∧ valL (relK xs y.prio (S) y.next L0 kk) mt ≤ 400000000 := by rcases HK1.out.val mt with h | ⟨h1, h2, _⟩ <;> omega
                                obtain ⟨hv1, hv2⟩ := hvb
                                have hfld := fun p w => field_0 p w
                                generalize hcur : relK xs y.prio (S) y.next L0 kk = CUR at *
                                cases hj : jumpP xs y.prio (ea, es) with
                                | none =>
                                  have HJ : Hid (jumpA xs (j : Int) (ea, es) = (0, false)) := show _ = _ by rw [hjA, hj]
                                  have HNX : Hid (relK xs y.prio (S) y.next L0 (kk + 1) = CUR) := show _ = _ by rw [HREL.out]; unfold relE; rw [hj]
                                  clear hj hjA hjp hrm hro hed he hmem hcl6 hce6 hA6 hcur
                                  go_wp2_with (first | (go_at_call 12; go_must (refine (rJump_any xs _ _ (ea, es) _ HT7.out HL.out HED2.out.1 HED2.out.2).mono ?_; rw [HJ.out]; rintro e w8 ⟨rfl, hg8⟩; have HG8 := Lib.hid hg8; have q5 := Keeps.grown hg8 _ _ p5; have q0 := Keeps.grown hg8 _ _ e0; have q1 := Keeps.grown hg8 _ _ e1; clear hg8)) | (go_at_call 26; go_must (refine (orefRes_any xs _ (ea, 0) _ (HT7.out.keep (.grown HG8.out)) (by have := HL.out; omega)).mono ?_; rw [HRO.out]; rintro e w9 ⟨rfl, hg9⟩; have HG9 := Lib.hid (only_trans HG8.out hg9); clear hg9)))
                                  go_roundw
                                  case rel => exact ⟨kk + 1, by omega, by go_num, by rw [HNX.out]; exact HIK.out.kept HG9.out, only_trans HGW.out HG9.out⟩
                                  case measure => simp [intOf]; omega
                                | some pr =>
                                  obtain ⟨t, d⟩ := pr
                                  obtain ⟨hd1, hd2, _, _, _⟩ := HO.out.rise HY.out HAB.out hmem hj
                                  obtain rfl : t = (mt : Int) := by
                                    rw [hjp] at hj
                                    split at hj
                                    · cases hj
                                    · simp only [Option.some.injEq, Prod.mk.injEq] at hj; exact hj.1.symm
                                  have HJ : Hid (jumpA xs (j : Int) (ea, es) = (d, true)) := show _ = _ by rw [hjA, hj]
                                  have HNX : Hid (relK xs y.prio (S) y.next L0 (kk + 1) = if valL CUR mt < 0 ∨ S + d < valL CUR mt then CUR.set mt (S + d) else CUR) := show _ = _ by rw [HREL.out]; unfold relE; rw [hj]; simp only [Int.toNat_natCast]
                                  clear hj hjA hjp hrm hro hed he hmem hcl6 hce6 hA6 hcur
                                  by_cases hst : valL CUR mt < 0 ∨ S + d < valL CUR mt
                                  · have HNY : Hid (relK xs y.prio (S) y.next L0 (kk + 1) = CUR.set mt (S + d)) := show _ = _ by rw [HNX.out, if_pos hst]
                                    rcases Classical.em (valL CUR mt < 0) with hst1 | hst1
                                    · clear hst
                                      go_wp2_with (first | (go_at_call 12; go_must (refine (rJump_any xs _ _ (ea, es) _ HT7.out HL.out HED2.out.1 HED2.out.2).mono ?_; rw [HJ.out]; rintro e w8 ⟨rfl, hg8⟩; have HG8 := Lib.hid hg8; have q5 := Keeps.grown hg8 _ _ p5; have q0 := Keeps.grown hg8 _ _ e0; have q1 := Keeps.grown hg8 _ _ e1; clear hg8)) | (go_at_call 26; go_must (refine (orefRes_any xs _ (ea, 0) _ (HT7.out.keep (.grown HG8.out)) (by have := HL.out; omega)).mono ?_; rw [HRO.out]; rintro e w9 ⟨rfl, hg9⟩; have HG9 := Lib.hid (only_trans HG8.out hg9); have c9 := Keeps.grown HG9.out _ _ cm; have f9 : w9.frozen? ⟨B, mt, none⟩ = false := Blk.frozen (HIK.out.kept HG9.out) mt; clear hg9)))
                                      go_roundw
                                      case rel => exact ⟨kk + 1, by omega, by go_num, by rw [HNY.out]; exact (HIK.out.kept HG9.out).set mt _, only_setNew (only_trans HGW.out HG9.out) hBw _⟩
                                      case measure => simp [intOf]; omega
                                    · have hst2 : S + d < valL CUR mt := hst.resolve_left hst1
                                      clear hst
                                      go_wp2_with (first | (go_at_call 12; go_must (refine (rJump_any xs _ _ (ea, es) _ HT7.out HL.out HED2.out.1 HED2.out.2).mono ?_; rw [HJ.out]; rintro e w8 ⟨rfl, hg8⟩; have HG8 := Lib.hid hg8; have q5 := Keeps.grown hg8 _ _ p5; have q0 := Keeps.grown hg8 _ _ e0; have q1 := Keeps.grown hg8 _ _ e1; clear hg8)) | (go_at_call 26; go_must (refine (orefRes_any xs _ (ea, 0) _ (HT7.out.keep (.grown HG8.out)) (by have := HL.out; omega)).mono ?_; rw [HRO.out]; rintro e w9 ⟨rfl, hg9⟩; have HG9 := Lib.hid (only_trans HG8.out hg9); have c9 := Keeps.grown HG9.out _ _ cm; have f9 : w9.frozen? ⟨B, mt, none⟩ = false := Blk.frozen (HIK.out.kept HG9.out) mt; clear hg9)))
                                      go_roundw
                                      case rel => exact ⟨kk + 1, by omega, by go_num, by rw [HNY.out]; exact (HIK.out.kept HG9.out).set mt _, only_setNew (only_trans HGW.out HG9.out) hBw _⟩
                                      case measure => simp [intOf]; omega
                                  · have HNY : Hid (relK xs y.prio (S) y.next L0 (kk + 1) = CUR) := show _ = _ by rw [HNX.out, if_neg hst]
                                    have hst1 : ¬ valL CUR mt < 0 := fun h => hst (.inl h)
                                    have hst2 : ¬ S + d < valL CUR mt := fun h => hst (.inr h)
                                    clear hst
                                    go_wp2_with (first | (go_at_call 12; go_must (refine (rJump_any xs _ _ (ea, es) _ HT7.out HL.out HED2.out.1 HED2.out.2).mono ?_; rw [HJ.out]; rintro e w8 ⟨rfl, hg8⟩; have HG8 := Lib.hid hg8; have q5 := Keeps.grown hg8 _ _ p5; have q0 := Keeps.grown hg8 _ _ e0; have q1 := Keeps.grown hg8 _ _ e1; clear hg8)) | (go_at_call 26; go_must (refine (orefRes_any xs _ (ea, 0) _ (HT7.out.keep (.grown HG8.out)) (by have := HL.out; omega)).mono ?_; rw [HRO.out]; rintro e w9 ⟨rfl, hg9⟩; have HG9 := Lib.hid (only_trans HG8.out hg9); have c9 := Keeps.grown HG9.out _ _ cm; clear hg9)))
                                    go_roundw
                                    case rel => exact ⟨kk + 1, by omega, by go_num, by rw [HNY.out]; exact HIK.out.kept HG9.out, only_trans HGW.out HG9.out⟩
                                    case measure => simp [intOf]; omega
                              · have hke : kk = y.next.length := by omega
                                have hke2 : (y.next.length : Int) ≤ (kk : Int) := by omega
                                have HN2 : Hid (IB wr B (sweep xs u (rounds xs u q) (j + 1))) := by
                                  have := HIK.out
                                  rw [hke] at this
                                  rw [HN.out]
                                  exact this
                                clear hkl hke
                                go_wp2_with fail
                                go_roundw
                                case rel => exact ⟨j + 1, by omega, by go_num, HN2.out, HGW.out⟩
                                case measure => simp [intOf]; omega
                        · have hne : ((j : Int) == (u : Int)) = false := beq_eq_false_iff_ne.2 (by omega)
                          have hne2 : ((j : Int) != (u : Int)) = true := by simp [bne, hne]
                          have hS0 : 0 ≤ valL L0 j := by omega
                          have HN : Hid (sweep xs u (rounds xs u q) (j + 1) = relK xs y.prio (valL L0 j) y.next L0 y.next.length) := show _ = _ by
                            unfold sweep; rw [HLS.out]; unfold relN; rw [HY.out]; simp [goesB, HAB.out, hju, soOf, hS0]
                          obtain ⟨hvle, k0, HW⟩ : valL L0 j ≤ 66000 * 64 * (q : Int) + 66000 * (j : Int) ∧ ∃ k0, Hid (Wk xs k0 u j (valL L0 j)) := by
                            rcases HSN.out.val j with h | ⟨_, h1, k0, _, h2⟩
                            · omega
                            · exact ⟨h1, k0, h2⟩
                          have HSB : Hid (valL L0 j + 66000 ≤ 66000 * 64 * (q : Int) + 66000 * (j : Int) + 66000) := show _ ≤ _ by omega
                          replace HSN := Lib.hid (HSN.out.more (by omega : 66000 * 64 * (q : Int) + 66000 * (j : Int) ≤ 66000 * 64 * (q : Int) + 66000 * (j : Int) + 66000))
                          clear hgo
                          go_wp2_with (go_at_call 23; go_must (refine (racts_any y (.slice A2 y.next.length c2) _).mono ?_; rw [HAY.out]; rintro e w7 ⟨rfl, hg7⟩; have HG7 := Lib.hid hg7; have d0 := Keeps.grown hg7 _ _ cj; clear hg7))
                          go_loopw [13] (fun kv wk => ∃ kk : Nat, kk ≤ y.next.length ∧ kv = .int .i64 (kk : Int) ∧ IB wk B (relK xs y.prio (valL L0 j) y.next L0 kk) ∧ w.grownBy wk none ) (fun kv _ => y.next.length - (intOf kv).toNat)
                          case atStart => exact ⟨0, by omega, rfl, HIB.out.kept HG7.out, only_trans HG.out HG7.out⟩
                          case round =>
                            clear HG7 d0 cj
                            obtain ⟨kk, hkk, rfl, hib, hgw⟩ := hrel
                            have HIK := Lib.hid hib
                            have HGW := Lib.hid hgw
                            obtain ⟨hk1, _, _⟩ := relK_ok HO.out HY.out HAB.out HSN.out HW.out hS0 HSB.out kk
                            have HK1 := Lib.hid hk1
                            obtain ⟨A7, c7, hA7, hcl7⟩ := HT.out.keep (Keeps.grown HGW.out)
                            obtain ⟨b7, off7, hb7, hcl8⟩ := hcl7 (by intro e0; rw [e0] at hjl; simp at hjl)
                            obtain ⟨vy7, hE7, _, _, _, _, _, p5⟩ := hcl8 j y HY.out
                            simp only [Value.slice.injEq, true_and] at hA7
                            obtain ⟨hA7, rfl⟩ := hA7
                            rw [← hA7] at hb7
                            simp only [Option.some.injEq, Addr.mk.injEq, and_true] at hb7
                            obtain ⟨rfl, rfl⟩ := hb7
                            have HE7 := Lib.hid hE7
                            obtain ⟨A2, c2, rfl, _, _⟩ := hE7
                            have hbk := cell_lt p5
                            have hnl : (y.next.length : Int) ≤ 8 := by have := (HO.out.ok.end_ HY.out).2.2.1; omega
                            clear hib hk1 hgw hA7 hcl7 hcl8 m0 m1 m2 m3 m4 m5
                            by_cases hkl : kk < y.next.length
                            · have hkk0 : (0 : Int) ≤ (kk : Int) := by omega
                              have hkk1 : (kk : Int) < (y.next.length : Int) := by omega
                              obtain ⟨⟨ea, es⟩, he⟩ : ∃ e, y.next[kk]? = some e := ⟨_, List.getElem?_eq_getElem hkl⟩
                              have hmem : (ea, es) ∈ allE y := List.mem_append_left _ (List.mem_of_getElem? he)
                              obtain ⟨A6, c6, hA6, _, hcl6⟩ := HE7.out
                              obtain ⟨b6, off6, hb6, hce6⟩ := hcl6 (by intro e0; rw [e0] at hkl; simp at hkl)
                              obtain ⟨rfl, rfl⟩ : A2 = A6 ∧ c2 = c6 := by simpa using hA6
                              subst hb6
                              obtain ⟨e0, e1⟩ := hce6 kk _ he
                              obtain ⟨mt, z, sz, hz, hz5, hml, hsz0, hsz1, _, hrm, hjp⟩ := HO.out.ok.jump HY.out hmem
                              have hjA := HO.out.ok.jumpA_edge HY.out hmem
                              have hed := HO.out.ok.edge HY.out hmem
                              have HED2 : Hid (-9223372036854775808 ≤ (ea, es).2 ∧ (ea, es).2 ≤ 9223372036854775807) := ⟨by show _ ≤ es; have := hed.2.2; simp only at this; omega, by show es ≤ _; have := hed.2.2; simp only at this; omega⟩
                              obtain ⟨o0, hro⟩ : ∃ o0, resolveL xs (ea, 0) = ((mt : Int), o0) := ⟨(resolveL xs (ea, 0)).2, by rw [← hrm]⟩
                              have HRO := Lib.hid hro
                              have HT7 := Lib.hid (HT.out.keep (.grown HGW.out))
                              have HREL := Lib.hid (relK_step (xs := xs) (p := y.prio) (so := valL L0 j) (ls := L0) he)
                              have hlen : mt < (relK xs y.prio (valL L0 j) y.next L0 kk).length := by rw [HK1.out.len]; exact hml
                              have cm := HIK.out.cell hlen
                              have fm : wr.frozen? ⟨B, mt, none⟩ = false := Blk.frozen HIK.out mt
                              have hblt := Blk.lt HIK.out
                              have hmt1 : (mt : Int) < (xs.length : Int) := by omega
                              have hvb : -1 ≤ valL (relK xs y.prio (valL L0 j) y.next L0 kk) mt ∧ valL (relK xs y.prio (valL L0 j) y.next L0 kk) mt ≤ 400000000 := by rcases HK1.out.val mt with h | ⟨h1, h2, _⟩ <;> omega
                              obtain ⟨hv1, hv2⟩ := hvb
                              have hfld := fun p w => field_0 p w
                              generalize hcur : relK xs y.prio (valL L0 j) y.next L0 kk = CUR at *
                              cases hj : jumpP xs y.prio (ea, es) with
                              | none =>
                                have HJ : Hid (jumpA xs (j : Int) (ea, es) = (0, false)) := show _ = _ by rw [hjA, hj]
                                have HNX : Hid (relK xs y.prio (valL L0 j) y.next L0 (kk + 1) = CUR) := show _ = _ by rw [HREL.out]; unfold relE; rw [hj]
                                clear hj hjA hjp hrm hro hed he hmem hcl6 hce6 hA6 hcur
                                go_wp2_with (first | (go_at_call 12; go_must (refine (rJump_any xs _ _ (ea, es) _ HT7.out HL.out HED2.out.1 HED2.out.2).mono ?_; rw [HJ.out]; rintro e w8 ⟨rfl, hg8⟩; have HG8 := Lib.hid hg8; have q5 := Keeps.grown hg8 _ _ p5; have q0 := Keeps.grown hg8 _ _ e0; have q1 := Keeps.grown hg8 _ _ e1; clear hg8)) | (go_at_call 26; go_must (refine (orefRes_any xs _ (ea, 0) _ (HT7.out.keep (.grown HG8.out)) (by have := HL.out; omega)).mono ?_; rw [HRO.out]; rintro e w9 ⟨rfl, hg9⟩; have HG9 := Lib.hid (only_trans HG8.out hg9); clear hg9)))
                                go_roundw
                                case rel => exact ⟨kk + 1, by omega, by go_num, by rw [HNX.out]; exact HIK.out.kept HG9.out, only_trans HGW.out HG9.out⟩
                                case measure => simp [intOf]; omega
                              | some pr =>
                                obtain ⟨t, d⟩ := pr
                                obtain ⟨hd1, hd2, _, _, _⟩ := HO.out.rise HY.out HAB.out hmem hj
                                obtain rfl : t = (mt : Int) := by
                                  rw [hjp] at hj
                                  split at hj
                                  · cases hj
                                  · simp only [Option.some.injEq, Prod.mk.injEq] at hj; exact hj.1.symm
                                have HJ : Hid (jumpA xs (j : Int) (ea, es) = (d, true)) := show _ = _ by rw [hjA, hj]
                                have HNX : Hid (relK xs y.prio (valL L0 j) y.next L0 (kk + 1) = if valL CUR mt < 0 ∨ valL L0 j + d < valL CUR mt then CUR.set mt (valL L0 j + d) else CUR) := show _ = _ by rw [HREL.out]; unfold relE; rw [hj]; simp only [Int.toNat_natCast]
                                clear hj hjA hjp hrm hro hed he hmem hcl6 hce6 hA6 hcur
                                by_cases hst : valL CUR mt < 0 ∨ valL L0 j + d < valL CUR mt
                                · have HNY : Hid (relK xs y.prio (valL L0 j) y.next L0 (kk + 1) = CUR.set mt (valL L0 j + d)) := show _ = _ by rw [HNX.out, if_pos hst]
                                  rcases Classical.em (valL CUR mt < 0) with hst1 | hst1
                                  · clear hst
                                    go_wp2_with (first | (go_at_call 12; go_must (refine (rJump_any xs _ _ (ea, es) _ HT7.out HL.out HED2.out.1 HED2.out.2).mono ?_; rw [HJ.out]; rintro e w8 ⟨rfl, hg8⟩; have HG8 := Lib.hid hg8; have q5 := Keeps.grown hg8 _ _ p5; have q0 := Keeps.grown hg8 _ _ e0; have q1 := Keeps.grown hg8 _ _ e1; clear hg8)) | (go_at_call 26; go_must (refine (orefRes_any xs _ (ea, 0) _ (HT7.out.keep (.grown HG8.out)) (by have := HL.out; omega)).mono ?_; rw [HRO.out]; rintro e w9 ⟨rfl, hg9⟩; have HG9 := Lib.hid (only_trans HG8.out hg9); have c9 := Keeps.grown HG9.out _ _ cm; have f9 : w9.frozen? ⟨B, mt, none⟩ = false := Blk.frozen (HIK.out.kept HG9.out) mt; clear hg9)))
                                    go_roundw
                                    case rel => exact ⟨kk + 1, by omega, by go_num, by rw [HNY.out]; exact (HIK.out.kept HG9.out).set mt _, only_setNew (only_trans HGW.out HG9.out) hBw _⟩
                                    case measure => simp [intOf]; omega
                                  · have hst2 : valL L0 j + d < valL CUR mt := hst.resolve_left hst1
                                    clear hst
                                    go_wp2_with (first | (go_at_call 12; go_must (refine (rJump_any xs _ _ (ea, es) _ HT7.out HL.out HED2.out.1 HED2.out.2).mono ?_; rw [HJ.out]; rintro e w8 ⟨rfl, hg8⟩; have HG8 := Lib.hid hg8; have q5 := Keeps.grown hg8 _ _ p5; have q0 := Keeps.grown hg8 _ _ e0; have q1 := Keeps.grown hg8 _ _ e1; clear hg8)) | (go_at_call 26; go_must (refine (orefRes_any xs _ (ea, 0) _ (HT7.out.keep (.grown HG8.out)) (by have := HL.out; omega)).mono ?_; rw [HRO.out]; rintro e w9 ⟨rfl, hg9⟩; have HG9 := Lib.hid (only_trans HG8.out hg9); have c9 := Keeps.grown HG9.out _ _ cm; have f9 : w9.frozen? ⟨B, mt, none⟩ = false := Blk.frozen (HIK.out.kept HG9.out) mt; clear hg9)))
                                    go_roundw
                                    case rel => exact ⟨kk + 1, by omega, by go_num, by rw [HNY.out]; exact (HIK.out.kept HG9.out).set mt _, only_setNew (only_trans HGW.out HG9.out) hBw _⟩
                                    case measure => simp [intOf]; omega
                                · have HNY : Hid (relK xs y.prio (valL L0 j) y.next L0 (kk + 1) = CUR) := show _ = _ by rw [HNX.out, if_neg hst]
                                  have hst1 : ¬ valL CUR mt < 0 := fun h => hst (.inl h)
                                  have hst2 : ¬ valL L0 j + d < valL CUR mt := fun h => hst (.inr h)
                                  clear hst
                                  go_wp2_with (first | (go_at_call 12; go_must (refine (rJump_any xs _ _ (ea, es) _ HT7.out HL.out HED2.out.1 HED2.out.2).mono ?_; rw [HJ.out]; rintro e w8 ⟨rfl, hg8⟩; have HG8 := Lib.hid hg8; have q5 := Keeps.grown hg8 _ _ p5; have q0 := Keeps.grown hg8 _ _ e0; have q1 := Keeps.grown hg8 _ _ e1; clear hg8)) | (go_at_call 26; go_must (refine (orefRes_any xs _ (ea, 0) _ (HT7.out.keep (.grown HG8.out)) (by have := HL.out; omega)).mono ?_; rw [HRO.out]; rintro e w9 ⟨rfl, hg9⟩; have HG9 := Lib.hid (only_trans HG8.out hg9); have c9 := Keeps.grown HG9.out _ _ cm; clear hg9)))
                                  go_roundw
                                  case rel => exact ⟨kk + 1, by omega, by go_num, by rw [HNY.out]; exact HIK.out.kept HG9.out, only_trans HGW.out HG9.out⟩
                                  case measure => simp [intOf]; omega
                            · have hke : kk = y.next.length := by omega
                              have hke2 : (y.next.length : Int) ≤ (kk : Int) := by omega
                              have HN2 : Hid (IB wr B (sweep xs u (rounds xs u q) (j + 1))) := by
                                have := HIK.out
                                rw [hke] at this
                                rw [HN.out]
                                exact this
                              clear hkl hke
                              go_wp2_with fail
                              go_roundw
                              case rel => exact ⟨j + 1, by omega, by go_num, HN2.out, HGW.out⟩
                              case measure => simp [intOf]; omega
                      · have hne : ((j : Int) == (u : Int)) = false := beq_eq_false_iff_ne.2 (by omega)
                        have hne2 : ((j : Int) != (u : Int)) = true := by simp [bne, hne]
                        have hneg : valL L0 j < 0 := by omega
                        have HN : Hid (sweep xs u (rounds xs u q) (j + 1) = L0) := show _ = _ by unfold sweep; rw [HLS.out]; unfold relN; rw [HY.out]; simp [goesB, hgo]
                        clear hgo
                        go_wp2_with (go_at_call 23; go_must (refine (racts_any y (.slice A2 y.next.length c2) _).mono ?_; rw [HAY.out]; rintro e w7 ⟨rfl, hg7⟩; have HG7 := Lib.hid hg7; have d0 := Keeps.grown hg7 _ _ cj; clear hg7))
                        go_roundw
                        case rel => exact ⟨j + 1, by omega, by go_num, by rw [HN.out]; exact HIB.out.kept HG7.out, only_trans HG.out HG7.out⟩
                        case measure => simp [intOf]; omega
                  · have hje : j = xs.length := by omega
                    have hje2 : (xs.length : Int) ≤ (j : Int) := by omega
                    have HN : Hid (IB wr B (rounds xs u (q + 1))) := by
                      have := HIB.out
                      rw [hje] at this
                      exact this
                    clear hjl hje
                    go_wp2_with fail
                    go_roundw
                    case rel => exact ⟨q + 1, by omega, by go_num, HN.out, HG.out⟩
                    case measure => simp [intOf]; omega
              · have hq2 : (xs.length : Int) < (q : Int) := by omega
                have hqe : q = xs.length + 1 := by omega
                obtain ⟨hr1, hr2⟩ := rounds_ok HO.out u q
                have hull : u < (rounds xs u q).length := by rw [hr1.len]; omega
                have cu := HIB.out.cell hull
                have hbk : backL xs (u : Int) = (if valL (rounds xs u q) u < 0 then (0, false) else (valL (rounds xs u q) u, true)) := by
                  have := back_val HO.out HX.out HA2.out
                  unfold lastL at this
                  rw [hqe]
                  exact this
                by_cases hneg : valL (rounds xs u q) u < 0
                · have HR : Hid (backL xs (u : Int) = (0, false)) := show _ = _ by rw [hbk, if_pos hneg]
                  clear hbk hr1 hr2 hqe hull
                  go_wp2_with fail
                  go_ret2
                  exact ⟨by rw [HR.out]; rfl, HG.out⟩
                · have HR : Hid (backL xs (u : Int) = (valL (rounds xs u q) u, true)) := show _ = _ by rw [hbk, if_neg hneg]
                  clear hbk hr1 hr2 hqe hull
                  go_wp2_with fail
                  go_ret2
                  exact ⟨by rw [HR.out]; rfl, HG.out⟩
  · have HR : Hid (backL xs i = (0, false)) := back_1 hc
    have hc' : ((orderL xs).2 == 0) = false := beq_eq_false_iff_ne.2 hc
    go_enter Try.func15, Try.ntmps15
    go_wp2_with (go_at_call 10; go_must (refine (rCheck_any xs _ _ HT.out HL.out).mono ?_; rintro e w1 ⟨rfl, hg1⟩; have HG1 := Lib.hid hg1; clear hg1))
    go_ret2
    exact ⟨by rw [HR.out]; rfl, HG1.out⟩
end Go.Proofs.Ytablbgfleopbfaa

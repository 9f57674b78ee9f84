/- blocks: goes: where an instruction goes to, one by one. -/
import Derived.Test.YtgdoklbcmgkllaaBIs
import Derived.Test.YtgdoklbcmgkllaaBTl
import Derived.Test.YtgdoklbcmgkllaaBBeg
import Derived.Deep.DeepMust
import Derived.Sort.CutIn
import Derived.Shelf.Abstract
import Derived.Shelf.RegionOpen
import Derived.OwnWalkIn
import Derived.TacticsInMore
import Derived.LoopNIn
import Derived.LoopIn
import Derived.WalkKit
namespace Go.Proofs.Ytgdoklbcmgkllaa
open Go.RowKit Go.Shelf
attribute [local go_sem] Oper.semAt_some

/-- What must lie as it is asked where an instruction goes: the code and the number, each in its box; w0: where the code lay. -/
structure GoT (S : Nat → Prop) (Bc Bn : Nat) (v : Value) (cs : List Bi) (i : Nat) (w0 W : World) : Prop where
  low : ∀ k, k < w0.heap.size → S k
  sc : S Bc
  si : S Bn
  cd : CodeA w0 v cs
  gr : w0.grownBy W none
  bc : Blk W Bc 22 #[v]
  bi : Blk W Bn 3 #[.int .i64 (i : Int)]
theorem goesN_at {cs : List Bi} {i : Nat} {op : Int} {l : List Int} (h : cs[i]? = some (op, l)) : goesN cs i = tgtL (op, l) ++ (if closeB op then [] else [((i + 1 : Nat) : Int)]) := by
  unfold goesN
  rw [h]
  rfl
theorem cell_ltB {W : World} {a : Addr} {v : Value} (h : W.cell? a = some v) : a.block < W.heap.size := by
  rcases Nat.lt_or_ge a.block W.heap.size with hl | hl
  · exact hl
  · unfold World.cell? at h
    rw [Array.getElem?_eq_none hl] at h
    simp at h
theorem take_more {α : Type} {l : List α} {k : Nat} {x : α} (h : l[k]? = some x) : l.take (k + 1) = l.take k ++ [x] := by
  rw [List.take_add_one, h]
  rfl
set_option maxRecDepth 100000 in
set_option maxHeartbeats 4000000 in
theorem goes_told (S : Nat → Prop) (ts : List TypeId) (k1 : 43 ∉ ts) (Bc Bn : Nat) (cs : List Bi) (v : Value) (i : Nat) (w0 : World) (hi : i < cs.length) (hl : ∀ x ∈ cs, x.2.length ≤ 1048576) (hn : cs.length ≤ 1048576) :
    TellsO Fence.wide 2 Try.prog 32 #[.pointer (some ⟨Bc, 0, none⟩), .pointer (some ⟨Bn, 0, none⟩)] (fun t => #[.int .i64 t]) (KS S ts) (GoT S Bc Bn v cs i w0) (goesN cs i) := fun l J Jx W hJ hY h0 ⟨hlow, hsc, hsi, hC, hgr0, hbc, hbi⟩ => by
  have hgr : KS S ts w0 W := KS.grown hgr0
  refine callsIn_of_wp Try.func32 rfl trivial ?_ rfl
  simp only [Try.ntmps32, List.size_toArray, List.length_cons, List.length_nil, Nat.reduceAdd, Nat.reduceSub, Array.replicate_succ, Array.replicate_zero, List.push_toArray, List.append_toArray, List.nil_append, List.cons_append]
  obtain ⟨A, cp, rfl, _⟩ := id hC
  obtain ⟨x, hx⟩ : ∃ x, cs[i]? = some x := ⟨_, List.getElem?_eq_getElem hi⟩
  have hxl := hl x (List.mem_of_getElem? hx)
  obtain ⟨b, off, a2, b2, c2, d2, A3, cp3, rfl, hb, hI, m0, m1, m2, m3, m4, m5⟩ := code_at hC hx
  obtain ⟨op, xl⟩ := x
  dsimp only at hxl hI m0 m5
  have HGO : Hid (goesN cs i = tgtL (op, xl) ++ (if closeB op then [] else [((i + 1 : Nat) : Int)])) := Lib.hid (goesN_at hx)
  have HIC : Hid (∀ Y, KS S ts W Y → ∀ (k : Nat) z, xl[k]? = some z → ∃ b3 o3, A3 = some ⟨b3, o3, none⟩ ∧ Y.cell? ⟨b3, o3 + k, none⟩ = some (.int .i64 z)) := Lib.hid fun Y hY k z hz => by
    obtain ⟨A4, c4, e, h4⟩ := hI
    injection e with e1 e2 e3
    obtain ⟨b3, o3, h5, h6, h7⟩ := h4 (by intro e; rw [e] at hz; simp at hz)
    exact ⟨b3, o3, e1.trans h5, hY.cell (hlow _ h6) (hgr.cell (hlow _ h6) (h7 k z hz))⟩
  have hSb := hlow b hb
  have q0 := hgr.cell (a := ⟨b, off + i * 6, none⟩) hSb m0
  have q1 := hgr.cell (a := ⟨b, off + i * 6 + 1, none⟩) hSb m1
  have q2 := hgr.cell (a := ⟨b, off + i * 6 + 2, none⟩) hSb m2
  have q3 := hgr.cell (a := ⟨b, off + i * 6 + 3, none⟩) hSb m3
  have q4 := hgr.cell (a := ⟨b, off + i * 6 + 4, none⟩) hSb m4
  have q5 := hgr.cell (a := ⟨b, off + i * 6 + 5, none⟩) hSb m5
  have cc : W.cell? ⟨Bc, 0, none⟩ = some (.slice (some ⟨b, off, none⟩) cs.length cp) := hbc.cell 0
  have ci : W.cell? ⟨Bn, 0, none⟩ = some (.int .i64 (i : Int)) := hbi.cell 0
  have hbl := cell_ltB q0
  have hbl2 := cell_ltB cc
  have hbl3 := cell_ltB ci
  have HY := Lib.hid hY
  have HJ := Lib.hid hJ
  have H0 := Lib.hid h0
  have HSi := Lib.hid hsi
  have HBI := Lib.hid hbi
  have hiI : (i : Int) < (cs.length : Int) := by omega
  have hi0 : (0 : Int) ≤ (i : Int) := by omega
  have hnI : (cs.length : Int) ≤ 1048576 := by omega
  have hxI : (xl.length : Int) ≤ 1048576 := by omega
  clear hY hJ h0 hsi hbi hbc hlow hsc hC hgr hgr0 hI m0 m1 m2 m3 m4 m5 hx hl hn hSb hxl hb
  gi_upto_region 1 with fail
  have hbx : Blk (W.alloc (.cells #[.int .i64 op, .int .i64 a2, .int .i64 b2, .int .i64 c2, .int .i64 d2, .slice A3 xl.length cp3] 43)) W.heap.size 43 #[.int .i64 op, .int .i64 a2, .int .i64 b2, .int .i64 c2, .int .i64 d2, .slice A3 xl.length cp3] := Blk.new _ _ _
  have hg1 : W.grownBy (W.alloc (.cells #[.int .i64 op, .int .i64 a2, .int .i64 b2, .int .i64 c2, .int .i64 d2, .slice A3 xl.length cp3] 43)) none := only_alloc (only_refl _ _) _
  have HK1 : Hid (KS S ts W (W.alloc (.cells #[.int .i64 op, .int .i64 a2, .int .i64 b2, .int .i64 c2, .int .i64 d2, .slice A3 xl.length cp3] 43))) := Lib.hid (KS.grown hg1)
  have HJ1 := Lib.hid (HJ.out _ _ _ H0.out hg1)
  have HBX := Lib.hid hbx
  clear hg1 hbx q0 q1 q2 q3 q4 q5 cc ci H0 hbl hbl2 hbl3
  generalize W.heap.size = Bx at *
  generalize hW1 : World.alloc W _ = W1 at *
  clear hW1
  have x0 : W1.cell? ⟨Bx, 0, none⟩ = some (.int .i64 op) := HBX.out.cell 0
  have x5 : W1.cell? ⟨Bx, 5, none⟩ = some (.slice A3 xl.length cp3) := HBX.out.cell 5
  have hit := fun w => is_any op 4 w
  rw [is_aims] at hit
  cases hta : hasT op with
  | false =>
    rw [hta] at hit
    obtain ⟨TG, hTG⟩ : ∃ TG, tgtL (op, xl) = TG := ⟨_, rfl⟩
    have hT0 : TG = [] := by rw [← hTG]; exact tgt_no hta
    rw [hTG] at HGO
    gi_wp2_with (refine ⟨trivial, ?_⟩; gi_at_call 31; go_must (refine (callsIn_wide.2 (hit _)).mono ?_; rintro e W2 ⟨rfl, hg⟩; have HG2 := Lib.hid hg; have y0 := cell_row x0 hg (fun e => by cases e); clear hg))
    have HP : Hid (J TG W2) := Lib.hid (by rw [hT0]; exact HJ.out _ _ _ HJ1.out HG2.out)
    have HKX : Hid (KS S ts W W2) := Lib.hid (HK1.out.trans (KS.grown HG2.out))
    clear hit x0 x5 HIC HJ1 HK1 HG2 hTG hT0 HBX
    refine ⟨trivial, ?_⟩
    refine (callsIn_wide.2 (blCloses_any op _)).mono ?_
    rintro e W7 ⟨rfl, hg⟩
    have HG7 := Lib.hid hg
    clear hg
    cases hcl : closeB op with
    | true =>
      have HL : Hid (J (goesN cs i) W7) := Lib.hid (by rw [HGO.out, hcl]; simp only [if_true, List.append_nil]; exact HJ.out _ _ _ HP.out HG7.out)
      gi_wp2_with fail
      go_end0
      exact ⟨⟨_, rfl⟩, .inl HL.out⟩
    | false =>
      have HLe : Hid (goesN cs i = TG ++ [((i + 1 : Nat) : Int)]) := Lib.hid (by rw [HGO.out, hcl]; simp)
      have ci : W7.cell? ⟨Bn, 0, none⟩ = some (.int .i64 (i : Int)) := by
        have := (HKX.out.trans (KS.grown HG7.out)).blk HSi.out HBI.out
        exact this.cell 0
      obtain ⟨fn, tmps, assign, body, hy, hR⟩ := HY.out TG ((i + 1 : Nat) : Int) W7 (by rw [← HLe.out]; exact List.prefix_rfl) (HJ.out _ _ _ HP.out HG7.out)
      have hadd : (((i + 1 : Nat) : Nat) : Int) = (i : Int) + 1 := by omega
      rw [hadd] at hy hR HLe
      gi_wp2_with fail
      refine hR.mono ?_
      rintro e W8 (⟨rfl, hJ8, _⟩ | ⟨rfl, hJ8⟩)
      · have HL : Hid (J (goesN cs i) W8) := Lib.hid (by rw [HLe.out]; exact hJ8)
        clear hJ8 hy hR
        gi_wp2_with fail
        go_end0
        exact ⟨⟨_, rfl⟩, .inl HL.out⟩
      · have HL : Hid (Jx (TG ++ [(i : Int) + 1]) W8) := Lib.hid hJ8
        clear hJ8 hy hR
        gi_wp2_with fail
        go_end0
        exact ⟨⟨_, rfl⟩, .inr ⟨_, by rw [HLe.out]; exact List.prefix_rfl, by simp, HL.out⟩⟩
  | true =>
    rw [hta] at hit
    rw [tgt_yes hta] at HGO
    gi_wp2_with (refine ⟨trivial, ?_⟩; gi_at_call 31; go_must (refine (callsIn_wide.2 (hit _)).mono ?_; rintro e W2 ⟨rfl, hg⟩; have HG2 := Lib.hid hg; have y5 := cell_row x5 hg (fun e => by cases e); clear hg))
    have HJ2 := Lib.hid (HJ.out _ _ _ HJ1.out HG2.out)
    have HK2 : Hid (KS S ts W W2) := Lib.hid (HK1.out.trans (KS.grown HG2.out))
    have HB2 := Lib.hid (HBX.out.kept HG2.out)
    clear hit x0 x5 HJ1 HK1 HG2 HBX
    gi_loopw [17] (fun z wr => ∃ k : Nat, k ≤ xl.length ∧ z = .int .i64 (k : Int) ∧ J (xl.take k) wr ∧ KS S ts W2 wr) (fun z _ => xl.length - (intOf z).toNat)
    case atStart => exact ⟨0, Nat.zero_le _, rfl, by rw [List.take_zero]; exact HJ2.out, .refl _⟩
    case round =>
      obtain ⟨k, hk, rfl, hJ3, hk3⟩ := hrel
      have HJ3 := Lib.hid hJ3
      have HK3 := Lib.hid hk3
      clear hJ3 hk3 y5
      by_cases hlt : k < xl.length
      · obtain ⟨z, hz⟩ : ∃ z, xl[k]? = some z := ⟨_, List.getElem?_eq_getElem hlt⟩
        obtain ⟨b3, o3, rfl, d0⟩ := HIC.out _ (HK2.out.trans HK3.out) k z hz
        have HS := Lib.hid (take_more hz)
        obtain ⟨fn, tmps, assign, body, hy, hR⟩ := HY.out (xl.take k) z wr (by rw [HGO.out, ← HS.out]; exact (List.take_prefix _ _).trans (List.prefix_append _ _)) HJ3.out
        have hk0 : (0 : Int) ≤ (k : Int) := by omega
        have hk1 : (k : Int) < (xl.length : Int) := by omega
        clear hz
        gi_wp2_with fail
        refine hR.mono ?_
        rintro e W4 (⟨rfl, hJ4, hk4⟩ | ⟨rfl, hJ4⟩)
        · have HJ4 : Hid (J (xl.take (k + 1)) W4) := Lib.hid (by rw [HS.out]; exact hJ4)
          have HK4 := Lib.hid (HK3.out.trans hk4)
          clear hJ4 hk4 hy hR
          gi_wp2_with fail
          go_roundw
          case rel => exact ⟨k + 1, by omega, by go_num, HJ4.out, HK4.out⟩
          case measure => simp [intOf]; omega
        · have HX : Hid (Jx (xl.take k ++ [z]) W4) := Lib.hid hJ4
          clear hJ4 hy hR
          gi_wp2_with fail
          refine bodyPost_ret (results_none rfl _ _ _) rfl ?_
          exact ⟨⟨_, rfl⟩, .inr ⟨_, by rw [HGO.out, ← HS.out]; exact (List.take_prefix _ _).trans (List.prefix_append _ _), by simp, HX.out⟩⟩
      · have hke : k = xl.length := by omega
        have hge : (xl.length : Int) ≤ (k : Int) := by omega
        obtain ⟨TG, hTG⟩ : ∃ TG, xl = TG := ⟨_, rfl⟩
        have HP : Hid (J TG wr) := Lib.hid (by have := HJ3.out; rw [hke, List.take_length] at this; rw [← hTG]; exact this)
        rw [hTG] at HGO
        have HKX : Hid (KS S ts W wr) := Lib.hid (HK2.out.trans HK3.out)
        have y0 : wr.cell? ⟨Bx, 0, none⟩ = some (.int .i64 op) := (HK3.out.typ _ _ _ HB2.out k1).cell 0
        clear HJ3 HK3 hTG hke HIC
        gi_wp2_with fail
        refine ⟨trivial, ?_⟩
        refine (callsIn_wide.2 (blCloses_any op _)).mono ?_
        rintro e W7 ⟨rfl, hg⟩
        have HG7 := Lib.hid hg
        clear hg
        cases hcl : closeB op with
        | true =>
          have HL : Hid (J (goesN cs i) W7) := Lib.hid (by rw [HGO.out, hcl]; simp only [if_true, List.append_nil]; exact HJ.out _ _ _ HP.out HG7.out)
          gi_wp2_with fail
          go_end0
          exact ⟨⟨_, rfl⟩, .inl HL.out⟩
        | false =>
          have HLe : Hid (goesN cs i = TG ++ [((i + 1 : Nat) : Int)]) := Lib.hid (by rw [HGO.out, hcl]; simp)
          have ci : W7.cell? ⟨Bn, 0, none⟩ = some (.int .i64 (i : Int)) := by
            have := (HKX.out.trans (KS.grown HG7.out)).blk HSi.out HBI.out
            exact this.cell 0
          obtain ⟨fn, tmps, assign, body, hy, hR⟩ := HY.out TG ((i + 1 : Nat) : Int) W7 (by rw [← HLe.out]; exact List.prefix_rfl) (HJ.out _ _ _ HP.out HG7.out)
          have hadd : (((i + 1 : Nat) : Nat) : Int) = (i : Int) + 1 := by omega
          rw [hadd] at hy hR HLe
          gi_wp2_with fail
          refine hR.mono ?_
          rintro e W8 (⟨rfl, hJ8, _⟩ | ⟨rfl, hJ8⟩)
          · have HL : Hid (J (goesN cs i) W8) := Lib.hid (by rw [HLe.out]; exact hJ8)
            clear hJ8 hy hR
            gi_wp2_with fail
            go_end0
            exact ⟨⟨_, rfl⟩, .inl HL.out⟩
          · have HL : Hid (Jx (TG ++ [(i : Int) + 1]) W8) := Lib.hid hJ8
            clear hJ8 hy hR
            gi_wp2_with fail
            go_end0
            exact ⟨⟨_, rfl⟩, .inr ⟨_, by rw [HLe.out]; exact List.prefix_rfl, by simp, HL.out⟩⟩
end Go.Proofs.Ytgdoklbcmgkllaa

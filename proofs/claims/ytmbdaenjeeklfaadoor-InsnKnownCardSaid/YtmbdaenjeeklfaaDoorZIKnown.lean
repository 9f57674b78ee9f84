/- InsnKnown: the chapter's examples, each op, what may not be: the call returns true, and turns nothing that was there. -/
import Derived.Test.YtmbdaenjeeklfaaDoorZInI
import Derived.Test.YtmbdaenjeeklfaaDoorZInL
import Derived.Deep.CutBlock
import Derived.Deep.DeepCutAuto
import Derived.Deep.RegionWith
namespace Go.Proofs.YtmbdaenjeeklfaaDoor
open Go.RowKit

def plainL : List Int := [0, 2, 3, 4, 5, 6, 7, 8, 13, 24]
theorem ex_chk {w : World} (s : Sg) (op : Int) (c : Int) (hl : IntsA (fun b => b < w.heap.size) w s.lv s.l) (h : chkI (s.ins op) = c) :
    Calls Tryd.prog 13 #[.agg (s.cells op)] w fun e w' => e = .returned (.int .i64 c) ∧ w.grownBy w' none := by
  have := check_any s op w hl
  rw [h] at this
  exact this
theorem byte_str9 {w : World} {b : Nat} {x : Int} {u : UInt8} (hb : Blk w b 5 #[.int .u8 x]) (hx : x = (u.toNat : Int)) :
    (convert 63 9 (.slice (some ⟨b, 0, none⟩) 1 1)).run Tryd.prog w = .ok (.string ⟨#[u]⟩) w := by
  subst hx
  refine run_convert_bytes_back w _ _ _ ⟨b, 0, none⟩ 1 [u] Tryd.underlying63 Tryd.underlying5 Tryd.underlying9 fun j hj => ?_
  simp at hj
  subst hj
  exact hb.cell 0
def plain : Array Value := #[.int .i64 0, .int .i64 2, .int .i64 3, .int .i64 4, .int .i64 5, .int .i64 6, .int .i64 7, .int .i64 8, .int .i64 13, .int .i64 24]
theorem plain_at {k : Nat} (hk : k < 10) : ∃ p : Int, plain[k]? = some (.int .i64 p) ∧ IntKind.u8.wrap p = p ∧ p = ((UInt8.ofNat p.toNat).toNat : Int) ∧ exB (Sg.ins ⟨0, 0, 0, 0, .slice none 0 0, []⟩ p) ⟨#[UInt8.ofNat p.toNat]⟩ = true ∧
    chkI (Sg.ins ⟨0, 1, 0, 0, .slice none 0 0, []⟩ p) = 2 ∧ ∀ v, chkI (Sg.ins ⟨0, 0, 0, 0, v, [0]⟩ p) = 2 := by
  rcases (by omega : k = 0 ∨ k = 1 ∨ k = 2 ∨ k = 3 ∨ k = 4 ∨ k = 5 ∨ k = 6 ∨ k = 7 ∨ k = 8 ∨ k = 9) with rfl | rfl | rfl | rfl | rfl | rfl | rfl | rfl | rfl | rfl <;>
  exact ⟨_, rfl, by kernel_rfl, by kernel_rfl, by kernel_rfl, by kernel_rfl, fun _ => by kernel_rfl⟩
theorem one_int {W : World} {b : Nat} {z : Int} (hb : Blk W b 3 #[.int .i64 z]) : IntsA (fun b => b < W.heap.size) W (.slice (some ⟨b, 0, none⟩) 1 1) [z] := by
  refine ⟨_, _, rfl, fun _ => ⟨b, 0, rfl, hb.lt, fun i y hy => ?_⟩⟩
  obtain ⟨hi, rfl⟩ := List.getElem?_eq_some_iff.1 hy
  obtain rfl : i = 0 := by simpa using hi
  exact hb.cell 0
/-- What stands in the first loop. -/
structure PS (W1 : World) (q : Nat) (W : World) : Prop where
  gr : W1.grownBy W none
  bk : Blk W q 61 plain
theorem PS.kept {W1 W W' : World} {q : Nat} (h : PS W1 q W) (hg : W.grownBy W' none) : PS W1 q W' := ⟨only_trans h.gr hg, h.bk.kept hg⟩
theorem PS.alloc {W1 W : World} {q : Nat} (h : PS W1 q W) (o : Obj) : PS W1 q (W.alloc o) := h.kept (only_alloc (only_refl _ _) _)
theorem PS.cells {W1 W : World} {q k : Nat} {u : Value} (h : PS W1 q W) (h0 : plain[k]? = some u) : W.cell? ⟨q, k, none⟩ = some u := (h.bk.cell _).trans h0
set_option maxRecDepth 100000 in
set_option maxHeartbeats 4000000 in
theorem iknown_any (w : World) (hE : ErrType w) :
    Calls Tryd.prog 7 #[] w fun e w' => e = .returned (.bool true) ∧ w.grownBy w' none := by
  have HE := Lib.hid hE
  have H1 := Lib.hid (only_alloc (only_refl w none) (.cells plain 61))
  have HX := Lib.hid (Blk.new w 61 plain)
  clear hE
  go_enter Tryd.func7, Tryd.ntmps7
  go_wp2_with fail
  rw [show #[Value.int IntKind.i64 0, Value.int IntKind.i64 2, Value.int IntKind.i64 3, Value.int IntKind.i64 4, Value.int IntKind.i64 5, Value.int IntKind.i64 6, Value.int IntKind.i64 7, Value.int IntKind.i64 8, Value.int IntKind.i64 13, Value.int IntKind.i64 24] = plain from rfl]
  generalize w.alloc (.cells plain 61) = W1 at *
  generalize w.heap.size = q at *
  go_loopw [2] (fun vi wr => ∃ k : Nat, vi = .int .i64 (k : Int) ∧ k ≤ 10 ∧ W1.grownBy wr none) (fun vi _ => 10 - (intOf vi).toNat)
  case atStart => exact ⟨0, rfl, by omega, only_refl _ _⟩
  case round =>
    obtain ⟨k, rfl, hk, hg⟩ := hrel
    by_cases hk10 : k < 10
    · obtain ⟨p, h0, hw, hu, hex, hc1, hc2⟩ := plain_at hk10
      have hk10' : (k : Int) < 10 := by omega
      have hk0 : 0 ≤ (k : Int) := by omega
      have s := PS.mk hg (HX.out.kept hg)
      have HP := Lib.hid h0
      have HIs : Hid (∀ W, Calls Tryd.prog 33 #[.agg (Sg.cells ⟨0, 0, 0, 0, .slice none 0 0, []⟩ p), .string ⟨#[UInt8.ofNat p.toNat]⟩] W fun e w' => e = .returned (.bool true) ∧ W.grownBy w' none) := fun W => ex_is (w := W) ⟨0, 0, 0, 0, .slice none 0 0, []⟩ p ⟨#[UInt8.ofNat p.toNat]⟩ (ints_none _) hex
      have HC1 : Hid (∀ W, Calls Tryd.prog 13 #[.agg (Sg.cells ⟨0, 1, 0, 0, .slice none 0 0, []⟩ p)] W fun e w' => e = .returned (.int .i64 2) ∧ W.grownBy w' none) := fun W => ex_chk (w := W) ⟨0, 1, 0, 0, .slice none 0 0, []⟩ p 2 (ints_none _) hc1
      have HC2 : Hid (∀ c W, Ins1 p 0 c W → Calls Tryd.prog 13 #[c] W fun e w' => e = .returned (.int .i64 2) ∧ W.grownBy w' none) := fun c W hb => by
        obtain ⟨b, rfl, hb⟩ := hb
        exact ex_chk ⟨0, 0, 0, 0, .slice (some ⟨b, 0, none⟩) 1 1, [0]⟩ p 2 (one_int hb) (hc2 _)
      have HU := Lib.hid hu
      have HW := Lib.hid hw
      clear h0 hg hex hc1 hc2 hu hw
      have hrunI : ∀ {args : Array Value} W, (callFunc 33 args).run Tryd.prog W = .ok (.enter 33 args) W := fun W => enters_of Tryd.func33 (by kernel_rfl) rfl _ W
      have hrunC : ∀ {args : Array Value} W, (callFunc 13 args).run Tryd.prog W = .ok (.enter 13 args) W := fun W => enters_of Tryd.func13 (by kernel_rfl) rfl _ W
      go_upto_region 5 with fail
      have cq : ∀ W, wr.grownBy W none → W.cell? ⟨q, k, none⟩ = some (.int .i64 p) := fun W hg => (s.kept hg).cells HP.out
      go_cut [41] from 9 to 41 (fun x wx => x = .bool false ∧ PS W1 q wx)
      case first =>
        refine region_both (by kernel_rfl)
          [(13, .int .i64 (k : Int)), (14, .pointer (some ⟨q, k, none⟩)), (15, .int .i64 p), (16, .agg (Sg.cells ⟨0, 0, 0, 0, .slice none 0 0, []⟩ p)), (17, .int .i64 (k : Int)), (18, .pointer (some ⟨q, k, none⟩)), (19, .int .i64 p), (20, .int .u8 p), (22, .string ⟨#[UInt8.ofNat p.toNat]⟩), (23, .bool true), (24, .bool false), (25, .bool false),
           (26, .int .i64 (k : Int)), (27, .pointer (some ⟨q, k, none⟩)), (28, .int .i64 p), (29, .agg (Sg.cells ⟨0, 1, 0, 0, .slice none 0 0, []⟩ p)), (30, .int .i64 2), (31, .bool false), (32, .bool false), (33, .bool false), (34, .int .i64 (k : Int)), (35, .pointer (some ⟨q, k, none⟩)), (36, .int .i64 p), (39, .int .i64 2), (40, .bool false), (41, .bool false)]
          [(1, .pointer (some ⟨q, 0, none⟩)), (2, .int .i64 (k : Int))]
          [(21, Row1 5 (.int .u8 p)), (37, Row1 3 (.int .i64 0)), (38, Ins1 p 0)] ⟨row1_keeps (t := 21), row1_keeps (t := 37), ins1_keeps (t := 38), trivial⟩ (by kernel_rfl)
          [13, 14, 15, 16, 17, 18, 19, 20, 21, 22, 23, 24, 25, 26, 27, 28, 29, 30, 31, 32, 33, 34, 35, 36, 37, 38, 39, 40, 41] (by kernel_rfl) (by kernel_rfl) (by decide) (by kernel_rfl) (by kernel_rfl) ⟨rfl, rfl, trivial⟩ ?hops ?hQ
        case hops =>
          exact ⟨obv (t := 13) rfl rfl rfl (ov_move rfl rfl), obv (t := 14) rfl rfl rfl (ov_ix10 rfl rfl rfl hk10), obv (t := 15) rfl rfl rfl (ov_ld_int rfl rfl (cq _ (only_refl _ _))), obv (t := 16) rfl rfl rfl (ov_ins0 rfl rfl),
            obv (t := 17) rfl rfl rfl (ov_move rfl rfl), obv (t := 18) rfl rfl rfl (ov_ix10 rfl rfl rfl hk10), obv (t := 19) rfl rfl rfl (ov_ld_int rfl rfl (cq _ (only_refl _ _))), obv (t := 20) rfl rfl rfl (ov_conv8 rfl rfl HW.out), obx (t := 21) rfl rfl rfl (ox_bytes1 rfl rfl), obp (t := 22) rfl rfl rfl (op_str rfl rfl HU.out),
            obv (t := 23) rfl rfl rfl (ov_call2 rfl rfl rfl (fun W => hrunI W) (fun W _ => HIs.out W)), obv (t := 24) rfl rfl rfl (ov_not rfl rfl rfl), obv (t := 25) rfl rfl rfl (ov_move rfl rfl),
            obv (t := 26) rfl rfl rfl (ov_move rfl rfl), obv (t := 27) rfl rfl rfl (ov_ix10 rfl rfl rfl hk10), obv (t := 28) rfl rfl rfl (ov_ld_int rfl rfl (cq _ (only_refl _ _))), obv (t := 29) rfl rfl rfl (ov_ins02 rfl rfl), obv (t := 30) rfl rfl rfl (ov_call1 rfl rfl (fun W => hrunC W) (fun W _ => HC1.out W)), obv (t := 31) rfl rfl rfl (ov_neq_errno_c rfl rfl rfl), obv (t := 32) rfl rfl rfl (ov_pick_ft rfl rfl rfl), obv (t := 33) rfl rfl rfl (ov_move rfl rfl),
            obv (t := 34) rfl rfl rfl (ov_move rfl rfl), obv (t := 35) rfl rfl rfl (ov_ix10 rfl rfl rfl hk10), obv (t := 36) rfl rfl rfl (ov_ld_int rfl rfl (cq _ (only_refl _ _))), obx (t := 37) rfl rfl rfl (ox_ints1 rfl), obx (t := 38) rfl rfl rfl (ox_ins5 rfl rfl rfl), obp (t := 39) rfl rfl rfl (op_call1 rfl rfl (fun c W => hrunC W) (fun c W _ h => HC2.out c W h)), obv (t := 40) rfl rfl rfl (ov_neq_errno_c rfl rfl rfl), obv (t := 41) rfl rfl rfl (ov_pick_ft rfl rfl rfl), trivial⟩
        case hQ =>
          intro vs W hg hv _
          have HZ : Hid (vs 41 = .bool false ∧ PS W1 q W) := Lib.hid ⟨hv 41 _ rfl (by decide), s.kept hg⟩
          clear hv hg
          simp only [List.foldl_cons, List.foldl_nil, List.setIfInBounds_toArray, List.set_cons_zero, List.set_cons_succ]
          go_wp2_with fail
          go_meet
          exact HZ.out
      case rest =>
        obtain ⟨rfl, hs⟩ := hcut
        go_wp2_with fail
        go_roundw
        case rel => exact ⟨k + 1, by go_num, by omega, hs.gr⟩
        case measure => simp [intOf]; omega
    · have hk3 : (10 : Int) ≤ (k : Int) := by omega
      have HG := Lib.hid (only_trans H1.out hg)
      clear hg H1 HX
      have hmk := make_9
      have hrunC : ∀ {args : Array Value} W, (callFunc 13 args).run Tryd.prog W = .ok (.enter 13 args) W := fun W => enters_of Tryd.func13 (by kernel_rfl) rfl _ W
      go_wp2_with fail
      generalize hC : (Obj.cells _ 24 : Obj) = O9
      have hO : O9 = Obj.cells (badC wr.heap.size) 24 := by rw [← hC]; kernel_rfl
      clear hC
      subst hO
      generalize hW : World.alloc _ _ = W5
      have hR : BadR wr.heap.size W5 := by
        constructor
        · rw [← hW]; exact (((((((((Blk.new _ _ _).alloc _).alloc _).alloc _).alloc _).alloc _).alloc _).alloc _).alloc _).alloc _
        · rw [← hW]; exact ((((((((blk_new_at (by simp) _ _).alloc _).alloc _).alloc _).alloc _).alloc _).alloc _).alloc _).alloc _
        · rw [← hW]; exact (((((((blk_new_at (by simp) _ _).alloc _).alloc _).alloc _).alloc _).alloc _).alloc _).alloc _
        · rw [← hW]; exact ((((((blk_new_at (by simp) _ _).alloc _).alloc _).alloc _).alloc _).alloc _).alloc _
        · rw [← hW]; exact (((((blk_new_at (by simp) _ _).alloc _).alloc _).alloc _).alloc _).alloc _
        · rw [← hW]; exact ((((blk_new_at (by simp) _ _).alloc _).alloc _).alloc _).alloc _
        · rw [← hW]; exact (((blk_new_at (by simp) _ _).alloc _).alloc _).alloc _
        · rw [← hW]; exact ((blk_new_at (by simp) _ _).alloc _).alloc _
        · rw [← hW]; exact (blk_new_at (by simp) _ _).alloc _
        · rw [← hW]; exact blk_new_at (by simp) _ _
      have hg5 : wr.grownBy W5 none := by rw [← hW]; repeat (first | exact only_refl _ _ | refine only_alloc ?_ _)
      have HG5 := Lib.hid (only_trans HG.out hg5)
      have HR := Lib.hid hR
      clear hg5 hW hmk hR hk hk3 hk10 HG
      generalize wr.heap.size = B at *
      clear wr
      go_loopw [4] (fun vi wr => ∃ i : Nat, vi = .int .i64 (i : Int) ∧ i ≤ 21 ∧ W5.grownBy wr none) (fun vi _ => 21 - (intOf vi).toNat)
      case atStart => exact ⟨0, rfl, by omega, only_refl _ _⟩
      case round =>
        obtain ⟨i, rfl, hi, hg⟩ := hrel
        by_cases hi21 : i < 21
        · obtain ⟨y, hy⟩ : ∃ y, (badL B)[i]? = some y := ⟨_, List.getElem?_eq_getElem (by rw [bad_len]; exact hi21)⟩
          have hm := List.mem_of_getElem? hy
          have hR := HR.out.kept hg
          have hch := bad_chk y hm
          have hin := bad_ints hR y hm
          have hwh := bad_whole y hm
          have hat : ∀ (j : Nat) (u : Value), (y.2.cells y.1)[j]? = some u → wr.cell? ⟨B + 1 + 1 + 1 + 1 + 1 + 1 + 1 + 1 + 1, i * 6 + j, none⟩ = some u := fun j u hu => by
            rw [hR.r9.cell]
            exact bad_at hy hu
          obtain ⟨op, s⟩ := y
          obtain ⟨a, b, c, d, lv, l⟩ := s
          have c0 : wr.cell? ⟨B + 1 + 1 + 1 + 1 + 1 + 1 + 1 + 1 + 1, i * 6, none⟩ = some (.int .i64 op) := hat 0 _ rfl
          have c1 : wr.cell? ⟨B + 1 + 1 + 1 + 1 + 1 + 1 + 1 + 1 + 1, i * 6 + 1, none⟩ = some (.int .i64 a) := hat 1 _ rfl
          have c2 : wr.cell? ⟨B + 1 + 1 + 1 + 1 + 1 + 1 + 1 + 1 + 1, i * 6 + 2, none⟩ = some (.int .i64 b) := hat 2 _ rfl
          have c3 : wr.cell? ⟨B + 1 + 1 + 1 + 1 + 1 + 1 + 1 + 1 + 1, i * 6 + 3, none⟩ = some (.int .i64 c) := hat 3 _ rfl
          have c4 : wr.cell? ⟨B + 1 + 1 + 1 + 1 + 1 + 1 + 1 + 1 + 1, i * 6 + 4, none⟩ = some (.int .i64 d) := hat 4 _ rfl
          have c5 : wr.cell? ⟨B + 1 + 1 + 1 + 1 + 1 + 1 + 1 + 1 + 1, i * 6 + 5, none⟩ = some (lv) := hat 5 _ rfl
          have HCk : Hid (Calls Tryd.prog 13 #[.agg #[.int .i64 op, .int .i64 a, .int .i64 b, .int .i64 c, .int .i64 d, lv]] wr fun e w' => e = .returned (.int .i64 2) ∧ wr.grownBy w' none) := ex_chk ⟨a, b, c, d, lv, l⟩ op 2 hin hch
          have HBy : Hid (∀ W, wr.grownBy W none → Calls Tryd.prog 31 #[.agg #[.int .i64 op, .int .i64 a, .int .i64 b, .int .i64 c, .int .i64 d, lv]] W fun e w' => e = .returned (.string ⟨#[]⟩) ∧ W.grownBy w' none) := fun W hg' => by
            have := bytes_any ⟨a, b, c, d, lv, l⟩ op W (bad_ints (hR.kept hg') _ hm) hwh
            have hch' : chkI (Sg.ins ⟨a, b, c, d, lv, l⟩ op) = 2 := hch
            rw [hch'] at this
            exact this
          have HG6 := Lib.hid (only_refl wr none)
          have HGr := Lib.hid hg
          have hi0 : (0 : Int) ≤ (i : Int) := by omega
          have hi1 : (i : Int) < 21 := by omega
          have cK : Hid (∀ W, wr.grownBy W none → ∀ p v, wr.cell? p = some v → W.cell? p = some v) := fun W hg p v h => cell_row h hg (fun e => by cases e)
          clear hat hy hm hR hch hin hwh hg
          go_wp2_with fail
          refine HCk.out.mono ?_
          rintro e w1 ⟨rfl, hg1⟩
          replace c0 := cK.out _ hg1 _ _ c0
          replace c1 := cK.out _ hg1 _ _ c1
          replace c2 := cK.out _ hg1 _ _ c2
          replace c3 := cK.out _ hg1 _ _ c3
          replace c4 := cK.out _ hg1 _ _ c4
          replace c5 := cK.out _ hg1 _ _ c5
          have HG7 := Lib.hid hg1
          clear hg1
          go_wp2_with fail
          refine (HBy.out _ HG7.out).mono ?_
          rintro e w2 ⟨rfl, hg2⟩
          have HG8 := Lib.hid (only_trans HGr.out (only_trans HG7.out hg2))
          clear hg2 c0 c1 c2 c3 c4 c5
          go_wp2_with fail
          go_roundw
          case rel => exact ⟨i + 1, by go_num, by omega, HG8.out⟩
          case measure => simp [intOf]; omega
        · have hi3 : (21 : Int) ≤ (i : Int) := by omega
          have HG6 := Lib.hid (only_trans HG5.out hg)
          clear hg HR HG5 hi hi21
          go_wp2_with fail
          generalize wr = W6 at *
          go_loopw [5, 6] (fun vc vz wr => ∃ z : Int, vz = .int .i64 z ∧ vc = .int .i64 (cntC z : Int) ∧ -1 ≤ z ∧ z ≤ 26 ∧ W6.grownBy wr none) (fun _ vz _ => (26 - intOf vz).toNat)
          case atStart => exact ⟨-1, rfl, by kernel_rfl, by omega, by omega, only_refl _ _⟩
          case round =>
            obtain ⟨z, rfl, rfl, hz0, hz1, hg⟩ := hrel
            by_cases hz : z ≤ 25
            · have hst := cntC_step hz0
              have hle := cntC_le z
              have hcb := comm_any z wr
              have HGr := Lib.hid hg
              generalize hcz : cntC z = cz at *
              have hcz1 : (cz : Int) ≤ 30 := by omega
              have hcz0 : (0 : Int) ≤ (cz : Int) := by omega
              have HST := Lib.hid hst
              clear hle hcz hst hg
              go_wp2_with fail
              refine hcb.mono ?_
              rintro e w1 ⟨rfl, hg1⟩
              have HG7 := Lib.hid (only_trans HGr.out hg1)
              clear hcb hg1
              cases hb : commB z with
              | true =>
                rw [hb] at HST
                have hst2 : Hid (cntC (z + 1) = cz + 1) := HST.out
                clear HST hb
                go_wp2_with fail
                go_roundw
                case rel => exact ⟨z + 1, by go_num, by rw [hst2.out]; go_num, by omega, by omega, HG7.out⟩
                case measure => simp [intOf]; omega
              | false =>
                rw [hb] at HST
                have hst2 : Hid (cntC (z + 1) = cz) := HST.out
                clear HST hb
                go_wp2_with fail
                go_roundw
                case rel => exact ⟨z + 1, by go_num, by rw [hst2.out], by omega, by omega, HG7.out⟩
                case measure => simp [intOf]; omega
            · obtain rfl : z = 26 := by omega
              have h6 : cntC 26 = 6 := by kernel_rfl
              rw [h6]
              have HG7 := Lib.hid (only_trans HG6.out hg)
              clear hg h6
              go_wp2_with fail
              refine (iworks_any _ (HE.out.kept HG7.out (fun k e => by cases e))).mono ?_
              rintro e w1 ⟨rfl, hg⟩
              have G1 := Lib.hid (only_trans HG7.out hg)
              clear hg HG7
              go_wp2_with fail
              refine (ex_chk ⟨0, 0, 0, 0, .slice none 0 0, []⟩ 25 11 (ints_none _) (by kernel_rfl)).mono ?_
              rintro e w2 ⟨rfl, hg⟩
              have G2 := Lib.hid (only_trans G1.out hg)
              clear hg G1
              go_wp2_with fail
              refine (ex_chk ⟨0, 0, 0, 0, .slice none 0 0, []⟩ (-1) 11 (ints_none _) (by kernel_rfl)).mono ?_
              rintro e w3 ⟨rfl, hg⟩
              have G3 := Lib.hid (only_trans G2.out hg)
              clear hg G2
              go_wp2_with fail
              refine (comm_any 14 _).mono ?_
              rintro e w4 ⟨rfl, hg⟩
              have G4 := Lib.hid (only_trans G3.out hg)
              have k4 : commB 14 = true := by kernel_rfl
              rw [k4]
              clear hg G3 k4
              go_wp2_with fail
              refine (comm_any 19 _).mono ?_
              rintro e w5 ⟨rfl, hg⟩
              have G5 := Lib.hid (only_trans G4.out hg)
              have k4 : commB 19 = true := by kernel_rfl
              rw [k4]
              clear hg G4 k4
              go_wp2_with fail
              refine (ends_any 12 _).mono ?_
              rintro e w6 ⟨rfl, hg⟩
              have G6 := Lib.hid (only_trans G5.out hg)
              have k4 : endsB 12 = false := by kernel_rfl
              rw [k4]
              clear hg G5 k4
              go_wp2_with fail
              refine (ends_any 24 _).mono ?_
              rintro e w7 ⟨rfl, hg⟩
              have G7 := Lib.hid (only_trans G6.out hg)
              have k4 : endsB 24 = true := by kernel_rfl
              rw [k4]
              clear hg G6 k4
              go_wp2_with fail
              refine (ex_is ⟨-9223372036854775808, 0, 0, 0, .slice none 0 0, []⟩ 1 ⟨#[1, 255, 255, 255, 255, 255, 255, 255, 255, 255, 1]⟩ (ints_none _) (by kernel_rfl)).mono ?_
              rintro e w8 ⟨rfl, hg⟩
              have G8 := Lib.hid (only_trans G7.out hg)
              clear hg G7
              go_wp2_with fail
              refine (ex_is ⟨0, 0, 0, 0, .slice none 0 0, []⟩ 21 ⟨#[21, 0, 0]⟩ (ints_none _) (by kernel_rfl)).mono ?_
              rintro e w9 ⟨rfl, hg⟩
              have G9 := Lib.hid (only_trans G8.out hg)
              clear hg G8
              go_wp2_with fail
              refine (ex_is ⟨0, 0, 0, 0, .slice (some ⟨w9.heap.size, 0, none⟩) 3 3, [1, 1, 1]⟩ 19 ⟨#[19, 0, 3, 1, 1, 1]⟩ (ints_lit w9 [1, 1, 1] 3 rfl) (by kernel_rfl)).mono ?_
              rintro e w10 ⟨rfl, hg⟩
              have G10 := Lib.hid (only_trans (only_alloc G9.out _) hg)
              clear hg G9
              go_wp2_with fail
              refine (fails_any ⟨#[1, 128, 0]⟩ 5 1 3 _ (HE.out.kept G10.out (fun k e => by cases e)) (by kernel_rfl) (by decide)).mono ?_
              rintro e w11 ⟨rfl, hg⟩
              have G11 := Lib.hid (only_trans G10.out hg)
              clear hg G10
              go_wp2_with fail
              refine (fails_any ⟨#[20, 0, 0, 2, 2]⟩ 2 0 5 _ (HE.out.kept G11.out (fun k e => by cases e)) (by kernel_rfl) (by decide)).mono ?_
              rintro e w12 ⟨rfl, hg⟩
              have G12 := Lib.hid (only_trans G11.out hg)
              clear hg G11
              go_wp2_with fail
              refine (fails_any ⟨#[20, 0, 233, 7]⟩ 4 2 4 _ (HE.out.kept G12.out (fun k e => by cases e)) (by kernel_rfl) (by decide)).mono ?_
              rintro e w13 ⟨rfl, hg⟩
              have G13 := Lib.hid (only_trans G12.out hg)
              clear hg G12
              go_wp2_with fail
              refine (fails_any ⟨#[21, 0, 2, 1, 1]⟩ 2 0 5 _ (HE.out.kept G13.out (fun k e => by cases e)) (by kernel_rfl) (by decide)).mono ?_
              rintro e w14 ⟨rfl, hg⟩
              have G14 := Lib.hid (only_trans G13.out hg)
              clear hg G13
              go_wp2_with fail
              go_ret
              exact ⟨rfl, G14.out⟩
end Go.Proofs.YtmbdaenjeeklfaaDoor

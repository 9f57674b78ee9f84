/- Texts joined for the claim's sake: URfS, URfD, URfE, UEqs. -/
import Derived.Test.YtoklaajiajilhaaDoorZEqA
import Derived.Test.YtoklaajiajilhaaDoorVCon
import Derived.Test.YtoklaajiajilhaaDoorUSma
import Derived.Test.YtoklaajiajilhaaDoorUWrk
/- The document's own answer of stage 8: what is known at first. -/
namespace Go.Proofs.YtoklaajiajilhaaDoor
open Go.RowKit

theorem put_known {w W3 : World} {xs : List Nd} {g d i j : Nat} {fv : Bool} (hg : w.grownBy W3 none) (hge : w.heap.size ≤ g) (hk : KnO W3 g (upK (knownA xs d) i j)) (hi : i < 128) (hj : j < 128) (hv : knownA xs d i j = fv) (W : World) (h : W3.grownBy W none) :
    (∃ v, W.cell? ⟨g, i * 128 + j, none⟩ = some v) ∧ W.frozen? ⟨g, i * 128 + j, none⟩ = false ∧ w.grownBy (W.setCell ⟨g, i * 128 + j, none⟩ (.bool fv)) none ∧ KnO (W.setCell ⟨g, i * 128 + j, none⟩ (.bool fv)) g (upK (knownA xs d) i (j + 1)) := by
  have hk2 := hk.kept h
  refine ⟨⟨_, hk2.kn i j hi hj⟩, ?_, only_setNew (only_trans hg h) hge _, ?_⟩
  · obtain ⟨Cx, hb, _⟩ := hk2
    exact hb.frozen _
  · have h1 := (hk2.put hi hj (knownA xs d i j)).to (upK_put _ i j)
    rw [hv] at h1
    exact h1
theorem alike_beq (x y : Nd) : alikeB x y = (actsK x.kind && (x.kind == y.kind) && (((x.next.length : Nat) : Int) == ((y.next.length : Nat) : Int)) && (x.chan == y.chan)) := by
  unfold alikeB
  rw [Bool.eq_iff_iff]
  simp only [Bool.and_eq_true, decide_eq_true_eq, beq_iff_eq]
  exact and_congr_left' ⟨fun h => ⟨h.1, by omega⟩, fun h => ⟨h.1, by omega⟩⟩

set_option maxRecDepth 100000 in
set_option maxHeartbeats 4000000 in
theorem rshallow_any (xs : List Nd) (v : Value) (w : World) (hT : Tbl w v xs) (hl : xs.length ≤ 128) :
    Calls Tryd.prog 17 #[v] w fun e w' => (∃ g, e = .returned (.pointer (some ⟨g, 0, none⟩)) ∧ w.heap.size ≤ g ∧ KnO w' g (knownA xs 0)) ∧ w.grownBy w' none := by
  have HT := Lib.hid hT
  have HL := Lib.hid hl
  obtain ⟨A, cap, rfl, hcl⟩ := hT
  have HCL := Lib.hid hcl
  have hlI : (xs.length : Int) ≤ 128 := by omega
  clear hl hcl
  obtain ⟨Z, hzs, hzr, hzf⟩ := new_known
  obtain ⟨g, hB⟩ : ∃ g, w.heap.size = g := ⟨_, rfl⟩
  go_enter Tryd.func17, Tryd.ntmps17
  go_upto_region 3 with fail
  generalize hW1 : w.alloc (.cells Z 64) = W1
  have HG1 : Hid (w.grownBy W1 none) := Lib.hid (by rw [← hW1]; exact only_alloc (only_refl _ _) _)
  have HK1 : Hid (KnO W1 g (upK (knownA xs 0) 0 0)) := Lib.hid (by rw [← hW1, ← hB]; exact (known_new w hzs hzf).to (upK_zero _))
  have HGE : Hid (w.heap.size ≤ g) := Lib.hid (by omega)
  clear hW1 hzs hzr hzf hB
  go_loopw [4] (fun v wr => ∃ i : Nat, i ≤ xs.length ∧ v = .int .i64 (i : Int) ∧ w.grownBy wr none ∧ KnO wr g (upK (knownA xs 0) i 0)) (fun v _ => xs.length - (intOf v).toNat)
  case atStart => exact ⟨0, Nat.zero_le _, rfl, HG1.out, HK1.out⟩
  case round =>
    obtain ⟨i, hi, rfl, hg, hk⟩ := hrel
    have HG2 := Lib.hid hg
    have HK2 := Lib.hid hk
    clear hg hk HG1 HK1
    by_cases hlt : i < xs.length
    · have hi0 : (0 : Int) ≤ (i : Int) := by omega
      have hi1 : (i : Int) < (xs.length : Int) := by omega
      go_wp2_with fail
      go_loopw [5] (fun v wr => ∃ j : Nat, j ≤ xs.length ∧ v = .int .i64 (j : Int) ∧ w.grownBy wr none ∧ KnO wr g (upK (knownA xs 0) i j)) (fun v _ => xs.length - (intOf v).toNat)
      case atStart => exact ⟨0, Nat.zero_le _, rfl, HG2.out, HK2.out⟩
      case round =>
        obtain ⟨j, hj, rfl, hg, hk⟩ := hrel
        have HG3 := Lib.hid hg
        have HK3 := Lib.hid hk
        clear hg hk HG2 HK2
        by_cases hlj : j < xs.length
        · have hj0 : (0 : Int) ≤ (j : Int) := by omega
          have hj1 : (j : Int) < (xs.length : Int) := by omega
          have hi128 : i < 128 := by omega
          have hj128 : j < 128 := by omega
          obtain ⟨x, hx⟩ : ∃ x, xs[i]? = some x := ⟨_, List.getElem?_eq_getElem hlt⟩
          obtain ⟨y, hy⟩ : ∃ y, xs[j]? = some y := ⟨_, List.getElem?_eq_getElem hlj⟩
          obtain ⟨bw, ow, rfl, hcl2⟩ := HCL.out (by intro e0; rw [e0] at hlt; simp at hlt)
          obtain ⟨vx, hEx, n0, n1, n2, n3, n4, n5⟩ := (hcl2 i x hx).keep (.grown HG3.out)
          obtain ⟨vy, hEy, m0, m1, m2, m3, m4, m5⟩ := (hcl2 j y hy).keep (.grown HG3.out)
          obtain ⟨Ax, cx, rfl, _⟩ := hEx
          obtain ⟨Ay, cy, rfl, _⟩ := hEy
          have hal : knownA xs 0 i j = (actsK x.kind && (x.kind == y.kind) && (((x.next.length : Nat) : Int) == ((y.next.length : Nat) : Int)) && (x.chan == y.chan)) := (known0 hx hy).trans (alike_beq x y)
          clear hcl2 hx hy HCL
          go_upto_region 8 with fail
          go_cut [6, 7] from 22 to 29 (fun u v wx => BoxesB wr 39 (ndCells x (.slice Ax x.next.length cx)) (ndCells y (.slice Ay y.next.length cy)) u v wx)
          case first =>
            refine region_two (by kernel_rfl) (by kernel_rfl) [22, 23, 24, 25, 26, 27, 28, 29, 6, 7] (by kernel_rfl) (by kernel_rfl) (by decide)
              [(0, .slice (some ⟨bw, ow, none⟩) xs.length cap), (4, .int .i64 (i : Int)), (5, .int .i64 (j : Int)), (22, .slice (some ⟨bw, ow, none⟩) xs.length cap), (23, .int .i64 (i : Int)), (24, .pointer (some ⟨bw, ow + i * 6, none⟩)), (25, ndV x (.slice Ax x.next.length cx)),
               (26, .slice (some ⟨bw, ow, none⟩) xs.length cap), (27, .int .i64 (j : Int)), (28, .pointer (some ⟨bw, ow + j * 6, none⟩)), (29, ndV y (.slice Ay y.next.length cy))]
              ⟨6, 39, ndCells ⟨0, 0, false, (0, 0), []⟩ (.slice none 0 0), ndCells x (.slice Ax x.next.length cx), 25, 8, 10⟩ ⟨7, 39, ndCells ⟨0, 0, false, (0, 0), []⟩ (.slice none 0 0), ndCells y (.slice Ay y.next.length cy), 29, 9, 11⟩
              ?h0 (boxed_node _ _ _ _ _ _ _ _) (boxed_node _ _ _ _ _ _ _ _) rfl rfl rfl rfl (by dsimp only; decide) (by kernel_rfl) (by kernel_rfl) (by kernel_rfl) (by kernel_rfl) ?hops ?hQ
            case h0 =>
              intro p hp hn
              simp only [List.mem_cons, List.not_mem_nil, or_false] at hp
              rcases hp with rfl | rfl | rfl | rfl | rfl | rfl | rfl | rfl | rfl | rfl | rfl
              all_goals first | rfl | exact absurd (by dsimp only; decide) hn
            case hops =>
              exact ⟨.val 22 _ rfl rfl rfl (ov_move rfl rfl), .val 23 _ rfl rfl rfl (ov_move rfl rfl), .val 24 _ rfl rfl rfl (ov_index rfl rfl rfl hlt), .val 25 _ rfl rfl rfl (ov_load_node rfl rfl n0 n1 n2 n3 n4 n5),
                .val 26 _ rfl rfl rfl (ov_move rfl rfl), .val 27 _ rfl rfl rfl (ov_move rfl rfl), .val 28 _ rfl rfl rfl (ov_index rfl rfl rfl hlj), .val 29 _ rfl rfl rfl (ov_load_node rfl rfl m0 m1 m2 m3 m4 m5),
                .al1 rfl rfl rfl, .al2 rfl rfl rfl, .st1 rfl rfl rfl, .st2 rfl rfl rfl, trivial⟩
            case hQ =>
              intro vs W Cx Cy hg e1 e2 hne h1 h2 k1 k2
              have HZ : Hid (BoxesB wr 39 (ndCells x (.slice Ax x.next.length cx)) (ndCells y (.slice Ay y.next.length cy)) (vs 6) (vs 7) W) := Lib.hid ⟨Cx, Cy, e1, e2, hne, k1, k2, hg⟩
              clear hg e1 e2 hne h1 h2 k1 k2
              simp only [List.foldl_cons, List.foldl_nil, List.setIfInBounds_toArray, List.set_cons_zero, List.set_cons_succ]
              go_wp2_with fail
              go_meet
              exact HZ.out
          case rest =>
            obtain ⟨Bx, By, rfl, rfl, _, kx, ky, hg3⟩ := hcut
            generalize wc = W3 at *
            have k0 : W3.cell? ⟨Bx, 0, none⟩ = some (.int .i64 x.kind) := kx.cell 0
            have k2 : W3.cell? ⟨Bx, 2, none⟩ = some (.bool x.chan) := kx.cell 2
            have k5 : W3.cell? ⟨Bx, 5, none⟩ = some (.slice Ax x.next.length cx) := kx.cell 5
            have l0 : W3.cell? ⟨By, 0, none⟩ = some (.int .i64 y.kind) := ky.cell 0
            have l2 : W3.cell? ⟨By, 2, none⟩ = some (.bool y.chan) := ky.cell 2
            have l5 : W3.cell? ⟨By, 5, none⟩ = some (.slice Ay y.next.length cy) := ky.cell 5
            have HG4 := Lib.hid (only_trans HG3.out hg3)
            have HK4 := Lib.hid (HK3.out.kept hg3)
            obtain ⟨bA, hbA⟩ : ∃ b, actsK x.kind = b := ⟨_, rfl⟩
            obtain ⟨bB, hbB⟩ : ∃ b, (x.kind == y.kind) = b := ⟨_, rfl⟩
            obtain ⟨bC, hbC⟩ : ∃ b, (((x.next.length : Nat) : Int) == ((y.next.length : Nat) : Int)) = b := ⟨_, rfl⟩
            obtain ⟨bD, hbD⟩ : ∃ b, (x.chan == y.chan) = b := ⟨_, rfl⟩
            have HCA : Hid (∀ W, Calls Tryd.prog 25 #[.int .i64 x.kind] W fun e w' => e = .returned (.bool bA) ∧ W.grownBy w' none) := Lib.hid fun W => by
              have := acts_any x.kind W
              rw [hbA] at this
              exact this
            have HAL : Hid (knownA xs 0 i j = (bA && bB && bC && bD)) := Lib.hid (by rw [hal, hbA, hbB, hbC, hbD])
            have HBB := Lib.hid hbB
            have HBC := Lib.hid hbC
            have HBD := Lib.hid hbD
            clear hal hbA hbB hbC hbD kx ky hg3 n0 n1 n2 n3 n4 n5 m0 m1 m2 m3 m4 m5 HG3 HK3
            go_upto_region 9 with fail
            cases bA with
            | false =>
              have HKV : Hid (knownA xs 0 i j = false) := Lib.hid (by rw [HAL.out]; first | rfl | simp)
              refine region_stored (by kernel_rfl)
                [(30, .pointer (some ⟨g, 0, none⟩)), (31, .int .i64 (i : Int)), (32, .int .i64 (j : Int)), (33, .pointer (some ⟨Bx, 0, none⟩)), (34, .int .i64 x.kind), (35, .bool false), (36, .bool false), (42, .bool false), (43, .bool false), (51, .bool false), (52, .bool false), (58, .bool false), (59, .pointer (some ⟨g, 0, none⟩)), (60, .pointer (some ⟨g, i * 128, none⟩)), (61, .pointer (some ⟨g, i * 128 + j, none⟩))]
                [(0, .slice (some ⟨bw, ow, none⟩) xs.length cap), (3, .pointer (some ⟨g, 0, none⟩)), (4, .int .i64 (i : Int)), (5, .int .i64 (j : Int)), (6, .pointer (some ⟨Bx, 0, none⟩)), (7, .pointer (some ⟨By, 0, none⟩))]
                32 (by kernel_rfl) [30, 31, 32, 33, 34, 35, 36, 37, 38, 39, 40, 41, 42, 43, 44, 45, 46, 47, 48, 49, 50, 51, 52, 53, 54, 55, 56, 57, 58, 59, 60, 61] (by kernel_rfl) (by kernel_rfl) (by decide) (by kernel_rfl) ⟨rfl, rfl, rfl, rfl, rfl, rfl, trivial⟩ ?hops (fun W => w.grownBy W none ∧ KnO W g (upK (knownA xs 0) i (j + 1))) 61 58 (by kernel_rfl) (g := g) (off := i * 128 + j) (c := false) (by kernel_rfl) (by kernel_rfl) (put_known HG4.out HGE.out HK4.out hi128 hj128 HKV.out) ?hQ
              case hops =>
                exact ⟨og (t := 30) (c := .pointer (some ⟨g, 0, none⟩)) rfl (by kernel_rfl) (ov_move rfl (by kernel_rfl)),
                  og (t := 31) (c := .int .i64 (i : Int)) rfl (by kernel_rfl) (ov_move rfl (by kernel_rfl)),
                  og (t := 32) (c := .int .i64 (j : Int)) rfl (by kernel_rfl) (ov_move rfl (by kernel_rfl)),
                  og (t := 33) (c := .pointer (some ⟨Bx, 0, none⟩)) rfl (by kernel_rfl) (ov_fld_Node0 rfl (by kernel_rfl)),
                  og (t := 34) (c := .int .i64 x.kind) rfl (by kernel_rfl) (ov_ld_int rfl (by kernel_rfl) k0),
                  og (t := 35) (c := .bool false) rfl (by kernel_rfl) (ov_call1 rfl (by kernel_rfl) (fun W => by kernel_rfl) (fun W _ => HCA.out W)),
                  og (t := 36) (c := .bool false) rfl (by kernel_rfl) (ov_move rfl (by kernel_rfl)),
                  oskip (t := 37) rfl (by kernel_rfl),
                  oskip (t := 38) rfl (by kernel_rfl),
                  oskip (t := 39) rfl (by kernel_rfl),
                  oskip (t := 40) rfl (by kernel_rfl),
                  oskip (t := 41) rfl (by kernel_rfl),
                  og (t := 42) (c := .bool false) rfl (by kernel_rfl) (ov_pick_fc rfl (by kernel_rfl)),
                  og (t := 43) (c := .bool false) rfl (by kernel_rfl) (ov_move rfl (by kernel_rfl)),
                  oskip (t := 44) rfl (by kernel_rfl),
                  oskip (t := 45) rfl (by kernel_rfl),
                  oskip (t := 46) rfl (by kernel_rfl),
                  oskip (t := 47) rfl (by kernel_rfl),
                  oskip (t := 48) rfl (by kernel_rfl),
                  oskip (t := 49) rfl (by kernel_rfl),
                  oskip (t := 50) rfl (by kernel_rfl),
                  og (t := 51) (c := .bool false) rfl (by kernel_rfl) (ov_pick_fc rfl (by kernel_rfl)),
                  og (t := 52) (c := .bool false) rfl (by kernel_rfl) (ov_move rfl (by kernel_rfl)),
                  oskip (t := 53) rfl (by kernel_rfl),
                  oskip (t := 54) rfl (by kernel_rfl),
                  oskip (t := 55) rfl (by kernel_rfl),
                  oskip (t := 56) rfl (by kernel_rfl),
                  oskip (t := 57) rfl (by kernel_rfl),
                  og (t := 58) (c := .bool false) rfl (by kernel_rfl) (ov_pick_fc rfl (by kernel_rfl)),
                  og (t := 59) (c := .pointer (some ⟨g, 0, none⟩)) rfl (by kernel_rfl) (ov_nilCheck rfl (by kernel_rfl)),
                  og (t := 60) (c := .pointer (some ⟨g, i * 128, none⟩)) rfl (by kernel_rfl) (ov_ix_known rfl (by kernel_rfl) (by kernel_rfl) hi128),
                  og (t := 61) (c := .pointer (some ⟨g, i * 128 + j, none⟩)) rfl (by kernel_rfl) (ov_ix_bools rfl (by kernel_rfl) (by kernel_rfl) hj128),
                  (fun _ _ h _ => by cases h),
                  trivial⟩
              case hQ =>
                intro vs W hR hv
                clear hv
                have HR := Lib.hid hR
                clear hR
                simp only [List.foldl_cons, List.foldl_nil, List.setIfInBounds_toArray, List.set_cons_zero, List.set_cons_succ]
                go_wp2_with fail
                go_roundw
                case rel => exact ⟨j + 1, by omega, by go_num, HR.out.1, HR.out.2⟩
                case measure => simp [intOf]; omega
            | true =>
              cases bB with
              | false =>
                have HKV : Hid (knownA xs 0 i j = false) := Lib.hid (by rw [HAL.out]; first | rfl | simp)
                refine region_stored (by kernel_rfl)
                  [(30, .pointer (some ⟨g, 0, none⟩)), (31, .int .i64 (i : Int)), (32, .int .i64 (j : Int)), (33, .pointer (some ⟨Bx, 0, none⟩)), (34, .int .i64 x.kind), (35, .bool true), (36, .bool true), (37, .pointer (some ⟨Bx, 0, none⟩)), (38, .int .i64 x.kind), (39, .pointer (some ⟨By, 0, none⟩)), (40, .int .i64 y.kind), (41, .bool false), (42, .bool false), (43, .bool false), (51, .bool false), (52, .bool false), (58, .bool false), (59, .pointer (some ⟨g, 0, none⟩)), (60, .pointer (some ⟨g, i * 128, none⟩)), (61, .pointer (some ⟨g, i * 128 + j, none⟩))]
                  [(0, .slice (some ⟨bw, ow, none⟩) xs.length cap), (3, .pointer (some ⟨g, 0, none⟩)), (4, .int .i64 (i : Int)), (5, .int .i64 (j : Int)), (6, .pointer (some ⟨Bx, 0, none⟩)), (7, .pointer (some ⟨By, 0, none⟩))]
                  32 (by kernel_rfl) [30, 31, 32, 33, 34, 35, 36, 37, 38, 39, 40, 41, 42, 43, 44, 45, 46, 47, 48, 49, 50, 51, 52, 53, 54, 55, 56, 57, 58, 59, 60, 61] (by kernel_rfl) (by kernel_rfl) (by decide) (by kernel_rfl) ⟨rfl, rfl, rfl, rfl, rfl, rfl, trivial⟩ ?hops (fun W => w.grownBy W none ∧ KnO W g (upK (knownA xs 0) i (j + 1))) 61 58 (by kernel_rfl) (g := g) (off := i * 128 + j) (c := false) (by kernel_rfl) (by kernel_rfl) (put_known HG4.out HGE.out HK4.out hi128 hj128 HKV.out) ?hQ
                case hops =>
                  exact ⟨og (t := 30) (c := .pointer (some ⟨g, 0, none⟩)) rfl (by kernel_rfl) (ov_move rfl (by kernel_rfl)),
                    og (t := 31) (c := .int .i64 (i : Int)) rfl (by kernel_rfl) (ov_move rfl (by kernel_rfl)),
                    og (t := 32) (c := .int .i64 (j : Int)) rfl (by kernel_rfl) (ov_move rfl (by kernel_rfl)),
                    og (t := 33) (c := .pointer (some ⟨Bx, 0, none⟩)) rfl (by kernel_rfl) (ov_fld_Node0 rfl (by kernel_rfl)),
                    og (t := 34) (c := .int .i64 x.kind) rfl (by kernel_rfl) (ov_ld_int rfl (by kernel_rfl) k0),
                    og (t := 35) (c := .bool true) rfl (by kernel_rfl) (ov_call1 rfl (by kernel_rfl) (fun W => by kernel_rfl) (fun W _ => HCA.out W)),
                    og (t := 36) (c := .bool true) rfl (by kernel_rfl) (ov_move rfl (by kernel_rfl)),
                    og (t := 37) (c := .pointer (some ⟨Bx, 0, none⟩)) rfl (by kernel_rfl) (ov_fld_Node0 rfl (by kernel_rfl)),
                    og (t := 38) (c := .int .i64 x.kind) rfl (by kernel_rfl) (ov_ld_int rfl (by kernel_rfl) k0),
                    og (t := 39) (c := .pointer (some ⟨By, 0, none⟩)) rfl (by kernel_rfl) (ov_fld_Node0 rfl (by kernel_rfl)),
                    og (t := 40) (c := .int .i64 y.kind) rfl (by kernel_rfl) (ov_ld_int rfl (by kernel_rfl) l0),
                    og (t := 41) (c := .bool false) rfl (by kernel_rfl) (ov_eql_int rfl (by kernel_rfl) (by kernel_rfl) HBB.out),
                    og (t := 42) (c := .bool false) rfl (by kernel_rfl) (ov_pick_tt rfl (by kernel_rfl) (by kernel_rfl)),
                    og (t := 43) (c := .bool false) rfl (by kernel_rfl) (ov_move rfl (by kernel_rfl)),
                    oskip (t := 44) rfl (by kernel_rfl),
                    oskip (t := 45) rfl (by kernel_rfl),
                    oskip (t := 46) rfl (by kernel_rfl),
                    oskip (t := 47) rfl (by kernel_rfl),
                    oskip (t := 48) rfl (by kernel_rfl),
                    oskip (t := 49) rfl (by kernel_rfl),
                    oskip (t := 50) rfl (by kernel_rfl),
                    og (t := 51) (c := .bool false) rfl (by kernel_rfl) (ov_pick_fc rfl (by kernel_rfl)),
                    og (t := 52) (c := .bool false) rfl (by kernel_rfl) (ov_move rfl (by kernel_rfl)),
                    oskip (t := 53) rfl (by kernel_rfl),
                    oskip (t := 54) rfl (by kernel_rfl),
                    oskip (t := 55) rfl (by kernel_rfl),
                    oskip (t := 56) rfl (by kernel_rfl),
                    oskip (t := 57) rfl (by kernel_rfl),
                    og (t := 58) (c := .bool false) rfl (by kernel_rfl) (ov_pick_fc rfl (by kernel_rfl)),
                    og (t := 59) (c := .pointer (some ⟨g, 0, none⟩)) rfl (by kernel_rfl) (ov_nilCheck rfl (by kernel_rfl)),
                    og (t := 60) (c := .pointer (some ⟨g, i * 128, none⟩)) rfl (by kernel_rfl) (ov_ix_known rfl (by kernel_rfl) (by kernel_rfl) hi128),
                    og (t := 61) (c := .pointer (some ⟨g, i * 128 + j, none⟩)) rfl (by kernel_rfl) (ov_ix_bools rfl (by kernel_rfl) (by kernel_rfl) hj128),
                    (fun _ _ h _ => by cases h),
                    trivial⟩
                case hQ =>
                  intro vs W hR hv
                  clear hv
                  have HR := Lib.hid hR
                  clear hR
                  simp only [List.foldl_cons, List.foldl_nil, List.setIfInBounds_toArray, List.set_cons_zero, List.set_cons_succ]
                  go_wp2_with fail
                  go_roundw
                  case rel => exact ⟨j + 1, by omega, by go_num, HR.out.1, HR.out.2⟩
                  case measure => simp [intOf]; omega
              | true =>
                cases bC with
                | false =>
                  have HKV : Hid (knownA xs 0 i j = false) := Lib.hid (by rw [HAL.out]; first | rfl | simp)
                  refine region_stored (by kernel_rfl)
                    [(30, .pointer (some ⟨g, 0, none⟩)), (31, .int .i64 (i : Int)), (32, .int .i64 (j : Int)), (33, .pointer (some ⟨Bx, 0, none⟩)), (34, .int .i64 x.kind), (35, .bool true), (36, .bool true), (37, .pointer (some ⟨Bx, 0, none⟩)), (38, .int .i64 x.kind), (39, .pointer (some ⟨By, 0, none⟩)), (40, .int .i64 y.kind), (41, .bool true), (42, .bool true), (43, .bool true), (44, .pointer (some ⟨Bx, 5, none⟩)), (45, .slice Ax x.next.length cx), (46, .int .i64 (x.next.length : Int)), (47, .pointer (some ⟨By, 5, none⟩)), (48, .slice Ay y.next.length cy), (49, .int .i64 (y.next.length : Int)), (50, .bool false), (51, .bool false), (52, .bool false), (58, .bool false), (59, .pointer (some ⟨g, 0, none⟩)), (60, .pointer (some ⟨g, i * 128, none⟩)), (61, .pointer (some ⟨g, i * 128 + j, none⟩))]
                    [(0, .slice (some ⟨bw, ow, none⟩) xs.length cap), (3, .pointer (some ⟨g, 0, none⟩)), (4, .int .i64 (i : Int)), (5, .int .i64 (j : Int)), (6, .pointer (some ⟨Bx, 0, none⟩)), (7, .pointer (some ⟨By, 0, none⟩))]
                    32 (by kernel_rfl) [30, 31, 32, 33, 34, 35, 36, 37, 38, 39, 40, 41, 42, 43, 44, 45, 46, 47, 48, 49, 50, 51, 52, 53, 54, 55, 56, 57, 58, 59, 60, 61] (by kernel_rfl) (by kernel_rfl) (by decide) (by kernel_rfl) ⟨rfl, rfl, rfl, rfl, rfl, rfl, trivial⟩ ?hops (fun W => w.grownBy W none ∧ KnO W g (upK (knownA xs 0) i (j + 1))) 61 58 (by kernel_rfl) (g := g) (off := i * 128 + j) (c := false) (by kernel_rfl) (by kernel_rfl) (put_known HG4.out HGE.out HK4.out hi128 hj128 HKV.out) ?hQ
                  case hops =>
                    exact ⟨og (t := 30) (c := .pointer (some ⟨g, 0, none⟩)) rfl (by kernel_rfl) (ov_move rfl (by kernel_rfl)),
                      og (t := 31) (c := .int .i64 (i : Int)) rfl (by kernel_rfl) (ov_move rfl (by kernel_rfl)),
                      og (t := 32) (c := .int .i64 (j : Int)) rfl (by kernel_rfl) (ov_move rfl (by kernel_rfl)),
                      og (t := 33) (c := .pointer (some ⟨Bx, 0, none⟩)) rfl (by kernel_rfl) (ov_fld_Node0 rfl (by kernel_rfl)),
                      og (t := 34) (c := .int .i64 x.kind) rfl (by kernel_rfl) (ov_ld_int rfl (by kernel_rfl) k0),
                      og (t := 35) (c := .bool true) rfl (by kernel_rfl) (ov_call1 rfl (by kernel_rfl) (fun W => by kernel_rfl) (fun W _ => HCA.out W)),
                      og (t := 36) (c := .bool true) rfl (by kernel_rfl) (ov_move rfl (by kernel_rfl)),
                      og (t := 37) (c := .pointer (some ⟨Bx, 0, none⟩)) rfl (by kernel_rfl) (ov_fld_Node0 rfl (by kernel_rfl)),
                      og (t := 38) (c := .int .i64 x.kind) rfl (by kernel_rfl) (ov_ld_int rfl (by kernel_rfl) k0),
                      og (t := 39) (c := .pointer (some ⟨By, 0, none⟩)) rfl (by kernel_rfl) (ov_fld_Node0 rfl (by kernel_rfl)),
                      og (t := 40) (c := .int .i64 y.kind) rfl (by kernel_rfl) (ov_ld_int rfl (by kernel_rfl) l0),
                      og (t := 41) (c := .bool true) rfl (by kernel_rfl) (ov_eql_int rfl (by kernel_rfl) (by kernel_rfl) HBB.out),
                      og (t := 42) (c := .bool true) rfl (by kernel_rfl) (ov_pick_tt rfl (by kernel_rfl) (by kernel_rfl)),
                      og (t := 43) (c := .bool true) rfl (by kernel_rfl) (ov_move rfl (by kernel_rfl)),
                      og (t := 44) (c := .pointer (some ⟨Bx, 5, none⟩)) rfl (by kernel_rfl) (ov_fld_Node4 rfl (by kernel_rfl)),
                      og (t := 45) (c := .slice Ax x.next.length cx) rfl (by kernel_rfl) (ov_ld_edges rfl (by kernel_rfl) k5),
                      og (t := 46) (c := .int .i64 (x.next.length : Int)) rfl (by kernel_rfl) (ov_len_edges (A := Ax) (c := cx) rfl (by kernel_rfl)),
                      og (t := 47) (c := .pointer (some ⟨By, 5, none⟩)) rfl (by kernel_rfl) (ov_fld_Node4 rfl (by kernel_rfl)),
                      og (t := 48) (c := .slice Ay y.next.length cy) rfl (by kernel_rfl) (ov_ld_edges rfl (by kernel_rfl) l5),
                      og (t := 49) (c := .int .i64 (y.next.length : Int)) rfl (by kernel_rfl) (ov_len_edges (A := Ay) (c := cy) rfl (by kernel_rfl)),
                      og (t := 50) (c := .bool false) rfl (by kernel_rfl) (ov_eql_int rfl (by kernel_rfl) (by kernel_rfl) HBC.out),
                      og (t := 51) (c := .bool false) rfl (by kernel_rfl) (ov_pick_tt rfl (by kernel_rfl) (by kernel_rfl)),
                      og (t := 52) (c := .bool false) rfl (by kernel_rfl) (ov_move rfl (by kernel_rfl)),
                      oskip (t := 53) rfl (by kernel_rfl),
                      oskip (t := 54) rfl (by kernel_rfl),
                      oskip (t := 55) rfl (by kernel_rfl),
                      oskip (t := 56) rfl (by kernel_rfl),
                      oskip (t := 57) rfl (by kernel_rfl),
                      og (t := 58) (c := .bool false) rfl (by kernel_rfl) (ov_pick_fc rfl (by kernel_rfl)),
                      og (t := 59) (c := .pointer (some ⟨g, 0, none⟩)) rfl (by kernel_rfl) (ov_nilCheck rfl (by kernel_rfl)),
                      og (t := 60) (c := .pointer (some ⟨g, i * 128, none⟩)) rfl (by kernel_rfl) (ov_ix_known rfl (by kernel_rfl) (by kernel_rfl) hi128),
                      og (t := 61) (c := .pointer (some ⟨g, i * 128 + j, none⟩)) rfl (by kernel_rfl) (ov_ix_bools rfl (by kernel_rfl) (by kernel_rfl) hj128),
                      (fun _ _ h _ => by cases h),
                      trivial⟩
                  case hQ =>
                    intro vs W hR hv
                    clear hv
                    have HR := Lib.hid hR
                    clear hR
                    simp only [List.foldl_cons, List.foldl_nil, List.setIfInBounds_toArray, List.set_cons_zero, List.set_cons_succ]
                    go_wp2_with fail
                    go_roundw
                    case rel => exact ⟨j + 1, by omega, by go_num, HR.out.1, HR.out.2⟩
                    case measure => simp [intOf]; omega
                | true =>
                  have HKV : Hid (knownA xs 0 i j = bD) := Lib.hid (by rw [HAL.out]; first | rfl | simp)
                  refine region_stored (by kernel_rfl)
                    [(30, .pointer (some ⟨g, 0, none⟩)), (31, .int .i64 (i : Int)), (32, .int .i64 (j : Int)), (33, .pointer (some ⟨Bx, 0, none⟩)), (34, .int .i64 x.kind), (35, .bool true), (36, .bool true), (37, .pointer (some ⟨Bx, 0, none⟩)), (38, .int .i64 x.kind), (39, .pointer (some ⟨By, 0, none⟩)), (40, .int .i64 y.kind), (41, .bool true), (42, .bool true), (43, .bool true), (44, .pointer (some ⟨Bx, 5, none⟩)), (45, .slice Ax x.next.length cx), (46, .int .i64 (x.next.length : Int)), (47, .pointer (some ⟨By, 5, none⟩)), (48, .slice Ay y.next.length cy), (49, .int .i64 (y.next.length : Int)), (50, .bool true), (51, .bool true), (52, .bool true), (53, .pointer (some ⟨Bx, 2, none⟩)), (54, .bool x.chan), (55, .pointer (some ⟨By, 2, none⟩)), (56, .bool y.chan), (57, .bool bD), (58, .bool bD), (59, .pointer (some ⟨g, 0, none⟩)), (60, .pointer (some ⟨g, i * 128, none⟩)), (61, .pointer (some ⟨g, i * 128 + j, none⟩))]
                    [(0, .slice (some ⟨bw, ow, none⟩) xs.length cap), (3, .pointer (some ⟨g, 0, none⟩)), (4, .int .i64 (i : Int)), (5, .int .i64 (j : Int)), (6, .pointer (some ⟨Bx, 0, none⟩)), (7, .pointer (some ⟨By, 0, none⟩))]
                    32 (by kernel_rfl) [30, 31, 32, 33, 34, 35, 36, 37, 38, 39, 40, 41, 42, 43, 44, 45, 46, 47, 48, 49, 50, 51, 52, 53, 54, 55, 56, 57, 58, 59, 60, 61] (by kernel_rfl) (by kernel_rfl) (by decide) (by kernel_rfl) ⟨rfl, rfl, rfl, rfl, rfl, rfl, trivial⟩ ?hops (fun W => w.grownBy W none ∧ KnO W g (upK (knownA xs 0) i (j + 1))) 61 58 (by kernel_rfl) (g := g) (off := i * 128 + j) (c := bD) (by kernel_rfl) (by kernel_rfl) (put_known HG4.out HGE.out HK4.out hi128 hj128 HKV.out) ?hQ
                  case hops =>
                    exact ⟨og (t := 30) (c := .pointer (some ⟨g, 0, none⟩)) rfl (by kernel_rfl) (ov_move rfl (by kernel_rfl)),
                      og (t := 31) (c := .int .i64 (i : Int)) rfl (by kernel_rfl) (ov_move rfl (by kernel_rfl)),
                      og (t := 32) (c := .int .i64 (j : Int)) rfl (by kernel_rfl) (ov_move rfl (by kernel_rfl)),
                      og (t := 33) (c := .pointer (some ⟨Bx, 0, none⟩)) rfl (by kernel_rfl) (ov_fld_Node0 rfl (by kernel_rfl)),
                      og (t := 34) (c := .int .i64 x.kind) rfl (by kernel_rfl) (ov_ld_int rfl (by kernel_rfl) k0),
                      og (t := 35) (c := .bool true) rfl (by kernel_rfl) (ov_call1 rfl (by kernel_rfl) (fun W => by kernel_rfl) (fun W _ => HCA.out W)),
                      og (t := 36) (c := .bool true) rfl (by kernel_rfl) (ov_move rfl (by kernel_rfl)),
                      og (t := 37) (c := .pointer (some ⟨Bx, 0, none⟩)) rfl (by kernel_rfl) (ov_fld_Node0 rfl (by kernel_rfl)),
                      og (t := 38) (c := .int .i64 x.kind) rfl (by kernel_rfl) (ov_ld_int rfl (by kernel_rfl) k0),
                      og (t := 39) (c := .pointer (some ⟨By, 0, none⟩)) rfl (by kernel_rfl) (ov_fld_Node0 rfl (by kernel_rfl)),
                      og (t := 40) (c := .int .i64 y.kind) rfl (by kernel_rfl) (ov_ld_int rfl (by kernel_rfl) l0),
                      og (t := 41) (c := .bool true) rfl (by kernel_rfl) (ov_eql_int rfl (by kernel_rfl) (by kernel_rfl) HBB.out),
                      og (t := 42) (c := .bool true) rfl (by kernel_rfl) (ov_pick_tt rfl (by kernel_rfl) (by kernel_rfl)),
                      og (t := 43) (c := .bool true) rfl (by kernel_rfl) (ov_move rfl (by kernel_rfl)),
                      og (t := 44) (c := .pointer (some ⟨Bx, 5, none⟩)) rfl (by kernel_rfl) (ov_fld_Node4 rfl (by kernel_rfl)),
                      og (t := 45) (c := .slice Ax x.next.length cx) rfl (by kernel_rfl) (ov_ld_edges rfl (by kernel_rfl) k5),
                      og (t := 46) (c := .int .i64 (x.next.length : Int)) rfl (by kernel_rfl) (ov_len_edges (A := Ax) (c := cx) rfl (by kernel_rfl)),
                      og (t := 47) (c := .pointer (some ⟨By, 5, none⟩)) rfl (by kernel_rfl) (ov_fld_Node4 rfl (by kernel_rfl)),
                      og (t := 48) (c := .slice Ay y.next.length cy) rfl (by kernel_rfl) (ov_ld_edges rfl (by kernel_rfl) l5),
                      og (t := 49) (c := .int .i64 (y.next.length : Int)) rfl (by kernel_rfl) (ov_len_edges (A := Ay) (c := cy) rfl (by kernel_rfl)),
                      og (t := 50) (c := .bool true) rfl (by kernel_rfl) (ov_eql_int rfl (by kernel_rfl) (by kernel_rfl) HBC.out),
                      og (t := 51) (c := .bool true) rfl (by kernel_rfl) (ov_pick_tt rfl (by kernel_rfl) (by kernel_rfl)),
                      og (t := 52) (c := .bool true) rfl (by kernel_rfl) (ov_move rfl (by kernel_rfl)),
                      og (t := 53) (c := .pointer (some ⟨Bx, 2, none⟩)) rfl (by kernel_rfl) (ov_fld_Node2 rfl (by kernel_rfl)),
                      og (t := 54) (c := .bool x.chan) rfl (by kernel_rfl) (ov_ld_bool rfl (by kernel_rfl) k2),
                      og (t := 55) (c := .pointer (some ⟨By, 2, none⟩)) rfl (by kernel_rfl) (ov_fld_Node2 rfl (by kernel_rfl)),
                      og (t := 56) (c := .bool y.chan) rfl (by kernel_rfl) (ov_ld_bool rfl (by kernel_rfl) l2),
                      og (t := 57) (c := .bool bD) rfl (by kernel_rfl) (ov_eql_bool rfl (by kernel_rfl) (by kernel_rfl) HBD.out),
                      og (t := 58) (c := .bool bD) rfl (by kernel_rfl) (ov_pick_tt rfl (by kernel_rfl) (by kernel_rfl)),
                      og (t := 59) (c := .pointer (some ⟨g, 0, none⟩)) rfl (by kernel_rfl) (ov_nilCheck rfl (by kernel_rfl)),
                      og (t := 60) (c := .pointer (some ⟨g, i * 128, none⟩)) rfl (by kernel_rfl) (ov_ix_known rfl (by kernel_rfl) (by kernel_rfl) hi128),
                      og (t := 61) (c := .pointer (some ⟨g, i * 128 + j, none⟩)) rfl (by kernel_rfl) (ov_ix_bools rfl (by kernel_rfl) (by kernel_rfl) hj128),
                      (fun _ _ h _ => by cases h),
                      trivial⟩
                  case hQ =>
                    intro vs W hR hv
                    clear hv
                    have HR := Lib.hid hR
                    clear hR
                    simp only [List.foldl_cons, List.foldl_nil, List.setIfInBounds_toArray, List.set_cons_zero, List.set_cons_succ]
                    go_wp2_with fail
                    go_roundw
                    case rel => exact ⟨j + 1, by omega, by go_num, HR.out.1, HR.out.2⟩
                    case measure => simp [intOf]; omega
        · have hje : j = xs.length := by omega
          have HK4 : Hid (KnO wr g (upK (knownA xs 0) (i + 1) 0)) := Lib.hid ((hje ▸ HK3.out).to (upK_row rfl 0 i))
          have hge : (xs.length : Int) ≤ (j : Int) := by omega
          clear hje
          go_wp2_with fail
          go_roundw
          case rel => exact ⟨i + 1, by omega, by go_num, HG3.out, HK4.out⟩
          case measure => simp [intOf]; omega
    · have hie : i = xs.length := by omega
      have HK4 : Hid (KnO wr g (knownA xs 0)) := Lib.hid ((hie ▸ HK2.out).to (upK_all rfl 0))
      have hge : (xs.length : Int) ≤ (i : Int) := by omega
      clear hie
      go_wp2_with fail
      go_ret
      exact ⟨⟨g, rfl, HGE.out, HK4.out⟩, HG2.out⟩
end Go.Proofs.YtoklaajiajilhaaDoor

/- The document's own answer of stage 8: what is known to one depth more. -/
namespace Go.Proofs.YtoklaajiajilhaaDoor
open Go.RowKit

section
variable {vals : List (Tmp × Value)} {w : World} {o : Oper}
theorem ov_ld_edge {t : Tmp} {g off : Nat} {e : Ed} (ho : o.op = .load 36 (.tmp t)) (h0 : vals.lookup t = some (.pointer (some ⟨g, off, none⟩))) (hc : w.cell? ⟨g, off, none⟩ = some (.int .i64 e.1)) (hd : w.cell? ⟨g, off + 1, none⟩ = some (.int .i64 e.2)) : OpVal Tryd.prog o vals w (edV e) := fun b' W hg hr => by
  have e0 := hr t _ (by rw [ho]; simp [Op.operands]) h0
  have c0 := Keeps.grown hg _ _ hc
  have c1 := Keeps.grown hg _ _ hd
  obtain ⟨dst, op, type, pos, after, guard⟩ := o
  dsimp only at ho
  subst ho
  refine .inl ?_
  simp only [execOp, e0]
  go_simp
theorem ov_neg {t : Tmp} {a : Int} (ho : o.op = .unOp .neg 3 (.tmp t)) (h0 : vals.lookup t = some (.int .i64 a)) : OpVal Tryd.prog o vals w (.int .i64 (wrap64 (-a))) := fun b' W hg hr => by
  have e0 := hr t _ (by rw [ho]; simp [Op.operands]) h0
  obtain ⟨dst, op, type, pos, after, guard⟩ := o
  dsimp only at ho
  subst ho
  refine .inl ?_
  simp only [execOp, e0]
  go_simp
  unfold wrap64
  exact IntKind.wrap_i64 _
end
theorem ralong_neg (e : Ed) (p : Int) (W : World) : Calls Tryd.prog 26 #[edV e, .int .i64 (wrap64 (-p))] W fun en w' => en = .returned (edV (stepT (0, -p) e)) ∧ W.grownBy w' none := by
  have h : stepT (0, -p) e = (e.1, wrap64 (wrap64 (-p) + e.2)) := by
    unfold stepT
    dsimp only
    rw [show wrap64 (wrap64 (-p) + e.2) = wrap64 (-p + e.2) by unfold wrap64; omega]
  rw [h]
  exact ralongU e _ W
theorem upK_skip {K : Nat → Nat → Bool} {i j : Nat} (h : K i j = false) (i' j' : Nat) : upK K i j i' j' = upK K i (j + 1) i' j' := by
  rw [← upK_put, h]
  unfold putK
  split
  · rename_i e
    obtain ⟨rfl, rfl⟩ := e
    unfold upK
    rw [h, Bool.and_false]
  · rfl
theorem knownS {xs : List Nd} (d : Nat) {i j : Nat} {x y : Nd} (hi : xs[i]? = some x) (hj : xs[j]? = some y) : knownA xs (d + 1) i j = (alikeB x y && (!x.chan || fitsA xs (knownA xs d) (stepT (0, -x.prio) x.pay) (stepT (0, -y.prio) y.pay)) && allTwo (fun e f => fitsA xs (knownA xs d) (stepT (0, -x.prio) e) (stepT (0, -y.prio) f)) x.next y.next) := by
  show nodeK xs (fitsA xs (knownA xs d)) i j = _
  unfold nodeK
  rw [hi, hj]
theorem allTwo_snoc (R : Ed → Ed → Bool) : ∀ (l k : List Ed) (a b : Ed), l.length = k.length → allTwo R (l ++ [a]) (k ++ [b]) = (allTwo R l k && R a b)
  | [], [], a, b, _ => by simp [allTwo]
  | c :: l, d :: k, a, b, h => by
    simp only [List.length_cons, Nat.add_right_cancel_iff] at h
    rw [List.cons_append, List.cons_append]
    unfold allTwo
    rw [allTwo_snoc R l k a b h, Bool.and_assoc]
  | [], _ :: _, _, _, h => by simp at h
  | _ :: _, [], _, _, h => by simp at h
theorem allTwo_step (R : Ed → Ed → Bool) {l k : List Ed} {n : Nat} {a b : Ed} (ha : l[n]? = some a) (hb : k[n]? = some b) : allTwo R (l.take (n + 1)) (k.take (n + 1)) = (allTwo R (l.take n) (k.take n) && R a b) := by
  have h1 := (List.getElem?_eq_some_iff.1 ha).1
  have h2 := (List.getElem?_eq_some_iff.1 hb).1
  rw [List.take_add_one, List.take_add_one, ha, hb]
  exact allTwo_snoc R _ _ a b (by rw [List.length_take, List.length_take]; omega)
/-- A node's edges, at hand. -/
theorem Edges.at_ {W : World} {A : Option Addr} {n c : Nat} {es : List Ed} (h : Edges W (.slice A n c) es) {l : Nat} {e : Ed} (he : es[l]? = some e) : ∃ b off, A = some ⟨b, off, none⟩ ∧ W.cell? ⟨b, off + l * 2, none⟩ = some (.int .i64 e.1) ∧ W.cell? ⟨b, off + l * 2 + 1, none⟩ = some (.int .i64 e.2) := by
  obtain ⟨A', c', h1, _, h2⟩ := h
  simp only [Value.slice.injEq] at h1
  obtain ⟨rfl, _, _⟩ := h1
  obtain ⟨b, off, rfl, h3⟩ := h2 (by intro e0; rw [e0] at he; simp at he)
  exact ⟨b, off, rfl, h3 l e he⟩

set_option maxRecDepth 100000 in
set_option maxHeartbeats 8000000 in
theorem rdeeper_any (xs : List Nd) (v : Value) (gk d : Nat) (w : World) (hT : Tbl w v xs) (hl : xs.length ≤ 128) (hK : KnB w gk (knownA xs d)) :
    Calls Tryd.prog 18 #[v, .pointer (some ⟨gk, 0, none⟩)] w fun e w' => (∃ g, e = .returned (.pointer (some ⟨g, 0, none⟩)) ∧ w.heap.size ≤ g ∧ KnO w' g (knownA xs (d + 1))) ∧ w.grownBy w' none := by
  have HT := Lib.hid hT
  have HL := Lib.hid hl
  obtain ⟨A, cap, rfl, hcl⟩ := hT
  have HCL := Lib.hid hcl
  have hlI : (xs.length : Int) ≤ 128 := by omega
  have HFT : Hid (∀ (a b : Ed) W, w.grownBy W none → Calls Tryd.prog 19 #[.slice A xs.length cap, .pointer (some ⟨gk, 0, none⟩), edV a, edV b] W fun e w' => e = .returned (.bool (fitsA xs (knownA xs d) a b)) ∧ W.grownBy w' none) :=
    Lib.hid fun a b W hg => fits_any xs A cap gk _ a b W (HT.out.keep (.grown hg)) hl (hK.keep (.grown hg))
  clear hl hcl hK
  obtain ⟨Z, hzs, hzr, hzf⟩ := new_known
  obtain ⟨g, hB⟩ : ∃ g, w.heap.size = g := ⟨_, rfl⟩
  go_enter Tryd.func18, Tryd.ntmps18
  go_upto_region 3 with fail
  generalize hW1 : w.alloc (.cells Z 64) = W1
  have HG1 : Hid (w.grownBy W1 none) := Lib.hid (by rw [← hW1]; exact only_alloc (only_refl _ _) _)
  have HK1 : Hid (KnO W1 g (upK (knownA xs (d + 1)) 0 0)) := Lib.hid (by rw [← hW1, ← hB]; exact (known_new w hzs hzf).to (upK_zero _))
  have HGE : Hid (w.heap.size ≤ g) := Lib.hid (by omega)
  clear hW1 hzs hzr hzf hB
  go_loopw [6] (fun v wr => ∃ i : Nat, i ≤ xs.length ∧ v = .int .i64 (i : Int) ∧ w.grownBy wr none ∧ KnO wr g (upK (knownA xs (d + 1)) i 0)) (fun v _ => xs.length - (intOf v).toNat)
  case atStart => exact ⟨0, Nat.zero_le _, rfl, HG1.out, HK1.out⟩
  case round =>
    obtain ⟨i, hi, rfl, hg, hk⟩ := hrel
    have HG2 := Lib.hid hg
    have HK2 := Lib.hid hk
    clear hg hk HG1 HK1
    by_cases hlt : i < xs.length
    · have hi0 : (0 : Int) ≤ (i : Int) := by omega
      have hi1 : (i : Int) < (xs.length : Int) := by omega
      go_wp2_with fail
      go_loopw [7] (fun v wr => ∃ j : Nat, j ≤ xs.length ∧ v = .int .i64 (j : Int) ∧ w.grownBy wr none ∧ KnO wr g (upK (knownA xs (d + 1)) i j)) (fun v _ => xs.length - (intOf v).toNat)
      case atStart => exact ⟨0, Nat.zero_le _, rfl, HG2.out, HK2.out⟩
      case round =>
        obtain ⟨j, hj, rfl, hg, hk⟩ := hrel
        have HG3 := Lib.hid hg
        have HK3 := Lib.hid hk
        clear hg hk HG2 HK2
        by_cases hlj : j < xs.length
        · have hj0 : (0 : Int) ≤ (j : Int) := by omega
          have hj1 : (j : Int) < (xs.length : Int) := by omega
          have hi128 : i < 128 := by omega
          have hj128 : j < 128 := by omega
          obtain ⟨x, hx⟩ : ∃ x, xs[i]? = some x := ⟨_, List.getElem?_eq_getElem hlt⟩
          obtain ⟨y, hy⟩ : ∃ y, xs[j]? = some y := ⟨_, List.getElem?_eq_getElem hlj⟩
          obtain ⟨bw, ow, rfl, hcl2⟩ := HCL.out (by intro e0; rw [e0] at hlt; simp at hlt)
          obtain ⟨vx, hEx, n0, n1, n2, n3, n4, n5⟩ := (hcl2 i x hx).keep (.grown HG3.out)
          obtain ⟨vy, hEy, m0, m1, m2, m3, m4, m5⟩ := (hcl2 j y hy).keep (.grown HG3.out)
          have HEX := Lib.hid hEx
          have HEY := Lib.hid hEy
          obtain ⟨Ax, cx, rfl, _⟩ := hEx
          obtain ⟨Ay, cy, rfl, _⟩ := hEy
          have HAL : Hid (knownA xs (d + 1) i j = ((actsK x.kind && (x.kind == y.kind) && (((x.next.length : Nat) : Int) == ((y.next.length : Nat) : Int)) && (x.chan == y.chan)) && (!x.chan || fitsA xs (knownA xs d) (stepT (0, -x.prio) x.pay) (stepT (0, -y.prio) y.pay)) && allTwo (fun e f => fitsA xs (knownA xs d) (stepT (0, -x.prio) e) (stepT (0, -y.prio) f)) x.next y.next)) :=
            Lib.hid (by rw [knownS d hx hy, alike_beq])
          clear hcl2 hx hy HCL
          go_upto_region 8 with fail
          go_cut [8, 9] from 28 to 35 (fun u v wx => BoxesB wr 39 (ndCells x (.slice Ax x.next.length cx)) (ndCells y (.slice Ay y.next.length cy)) u v wx)
          case first =>
            refine region_two (by kernel_rfl) (by kernel_rfl) [28, 29, 30, 31, 32, 33, 34, 35, 8, 9] (by kernel_rfl) (by kernel_rfl) (by decide)
              [(0, .slice (some ⟨bw, ow, none⟩) xs.length cap), (6, .int .i64 (i : Int)), (7, .int .i64 (j : Int)), (28, .slice (some ⟨bw, ow, none⟩) xs.length cap), (29, .int .i64 (i : Int)), (30, .pointer (some ⟨bw, ow + i * 6, none⟩)), (31, ndV x (.slice Ax x.next.length cx)),
               (32, .slice (some ⟨bw, ow, none⟩) xs.length cap), (33, .int .i64 (j : Int)), (34, .pointer (some ⟨bw, ow + j * 6, none⟩)), (35, ndV y (.slice Ay y.next.length cy))]
              ⟨8, 39, ndCells ⟨0, 0, false, (0, 0), []⟩ (.slice none 0 0), ndCells x (.slice Ax x.next.length cx), 31, 8, 10⟩ ⟨9, 39, ndCells ⟨0, 0, false, (0, 0), []⟩ (.slice none 0 0), ndCells y (.slice Ay y.next.length cy), 35, 9, 11⟩
              ?h0 (boxed_node _ _ _ _ _ _ _ _) (boxed_node _ _ _ _ _ _ _ _) rfl rfl rfl rfl (by dsimp only; decide) (by kernel_rfl) (by kernel_rfl) (by kernel_rfl) (by kernel_rfl) ?hops ?hQ
            case h0 =>
              intro p hp hn
              simp only [List.mem_cons, List.not_mem_nil, or_false] at hp
              rcases hp with rfl | rfl | rfl | rfl | rfl | rfl | rfl | rfl | rfl | rfl | rfl
              all_goals first | rfl | exact absurd (by dsimp only; decide) hn
            case hops =>
              exact ⟨.val 28 _ rfl rfl rfl (ov_move rfl rfl), .val 29 _ rfl rfl rfl (ov_move rfl rfl), .val 30 _ rfl rfl rfl (ov_index rfl rfl rfl hlt), .val 31 _ rfl rfl rfl (ov_load_node rfl rfl n0 n1 n2 n3 n4 n5),
                .val 32 _ rfl rfl rfl (ov_move rfl rfl), .val 33 _ rfl rfl rfl (ov_move rfl rfl), .val 34 _ rfl rfl rfl (ov_index rfl rfl rfl hlj), .val 35 _ rfl rfl rfl (ov_load_node rfl rfl m0 m1 m2 m3 m4 m5),
                .al1 rfl rfl rfl, .al2 rfl rfl rfl, .st1 rfl rfl rfl, .st2 rfl rfl rfl, trivial⟩
            case hQ =>
              intro vs W Cx Cy hg e1 e2 hne h1 h2 k1 k2
              have HZ : Hid (BoxesB wr 39 (ndCells x (.slice Ax x.next.length cx)) (ndCells y (.slice Ay y.next.length cy)) (vs 8) (vs 9) W) := Lib.hid ⟨Cx, Cy, e1, e2, hne, k1, k2, hg⟩
              clear hg e1 e2 hne h1 h2 k1 k2
              simp only [List.foldl_cons, List.foldl_nil, List.setIfInBounds_toArray, List.set_cons_zero, List.set_cons_succ]
              go_wp2_with fail
              go_meet
              exact HZ.out
          case rest =>
            obtain ⟨Bx, By, rfl, rfl, _, kx, ky, hg3⟩ := hcut
            generalize wc = W3 at *
            have HKX := Lib.hid kx
            have HKY := Lib.hid ky
            have HG4 := Lib.hid (only_trans HG3.out hg3)
            have HK4 := Lib.hid (HK3.out.kept hg3)
            have HEX4 := Lib.hid (HEX.out.keep (.grown hg3))
            have HEY4 := Lib.hid (HEY.out.keep (.grown hg3))
            clear kx ky hg3 n0 n1 n2 n3 n4 n5 m0 m1 m2 m3 m4 m5 HG3 HK3 HEX HEY
            have s : W3.grownBy W3 none := only_refl _ _
            have k0 : W3.cell? ⟨Bx, 0, none⟩ = some (.int .i64 x.kind) := HKX.out.cell 0
            have k2 : W3.cell? ⟨Bx, 2, none⟩ = some (.bool x.chan) := HKX.out.cell 2
            have k5 : W3.cell? ⟨Bx, 5, none⟩ = some (.slice Ax x.next.length cx) := HKX.out.cell 5
            have l0 : W3.cell? ⟨By, 0, none⟩ = some (.int .i64 y.kind) := HKY.out.cell 0
            have l2 : W3.cell? ⟨By, 2, none⟩ = some (.bool y.chan) := HKY.out.cell 2
            have l5 : W3.cell? ⟨By, 5, none⟩ = some (.slice Ay y.next.length cy) := HKY.out.cell 5
            by_cases hall : actsK x.kind = true ∧ (x.kind == y.kind) = true ∧ (((x.next.length : Nat) : Int) == ((y.next.length : Nat) : Int)) = true ∧ (x.chan == y.chan) = true
            · obtain ⟨hbA, hbB, hbC, hbD⟩ := hall
              have HAL2 : Hid (knownA xs (d + 1) i j = ((!x.chan || fitsA xs (knownA xs d) (stepT (0, -x.prio) x.pay) (stepT (0, -y.prio) y.pay)) && allTwo (fun e f => fitsA xs (knownA xs d) (stepT (0, -x.prio) e) (stepT (0, -y.prio) f)) x.next y.next)) :=
                Lib.hid (by rw [HAL.out, hbA, hbB, hbC, hbD]; rfl)
              have hlen : x.next.length = y.next.length := by
                have := hbC
                rw [beq_iff_eq] at this
                omega
              have hB2 : (x.kind != y.kind) = false := by unfold bne; rw [hbB]; rfl
              have hC2 : (((x.next.length : Nat) : Int) != ((y.next.length : Nat) : Int)) = false := by unfold bne; rw [hbC]; rfl
              have hD2 : (x.chan != y.chan) = false := by unfold bne; rw [hbD]; rfl
              go_upto_region 10 with (first
                | (go_at_call 25; ((refine (acts_any _ _).mono ?_); rintro e V ⟨rfl, hg⟩; replace s := only_trans s hg; clear hg k0 k2 k5 l0 l2 l5; have k0 : V.cell? ⟨Bx, 0, none⟩ = some (.int .i64 x.kind) := (HKX.out.kept s).cell 0; have k2 : V.cell? ⟨Bx, 2, none⟩ = some (.bool x.chan) := (HKX.out.kept s).cell 2; have k5 : V.cell? ⟨Bx, 5, none⟩ = some (.slice Ax x.next.length cx) := (HKX.out.kept s).cell 5; have l0 : V.cell? ⟨By, 0, none⟩ = some (.int .i64 y.kind) := (HKY.out.kept s).cell 0; have l2 : V.cell? ⟨By, 2, none⟩ = some (.bool y.chan) := (HKY.out.kept s).cell 2; have l5 : V.cell? ⟨By, 5, none⟩ = some (.slice Ay y.next.length cy) := (HKY.out.kept s).cell 5))
                | fail)
              rename World => W4
              have HG5 := Lib.hid (only_trans HG4.out s)
              have HK5 := Lib.hid (HK4.out.kept s)
              have HKX5 := Lib.hid (HKX.out.kept s)
              have HKY5 := Lib.hid (HKY.out.kept s)
              have HEX5 := Lib.hid (HEX4.out.keep (.grown s))
              have HEY5 := Lib.hid (HEY4.out.keep (.grown s))
              have k1 : W4.cell? ⟨Bx, 1, none⟩ = some (.int .i64 x.prio) := HKX5.out.cell 1
              have l1 : W4.cell? ⟨By, 1, none⟩ = some (.int .i64 y.prio) := HKY5.out.cell 1
              clear HG4 HK4 HKX HKY HEX4 HEY4 s k0 k2 k5 l0 l2 l5 hB2 hC2 hD2 hbA hbB hbC HAL
              go_cut [10, 11] from 63 to 68 (fun u v wx => u = .int .i64 (wrap64 (-x.prio)) ∧ v = .int .i64 (wrap64 (-y.prio)) ∧ W4.grownBy wx none)
              case first =>
                refine region_known (by kernel_rfl)
                  [(63, .pointer (some ⟨Bx, 1, none⟩)), (64, .int .i64 x.prio), (65, .int .i64 (wrap64 (-x.prio))), (66, .pointer (some ⟨By, 1, none⟩)), (67, .int .i64 y.prio), (68, .int .i64 (wrap64 (-y.prio))), (10, .int .i64 (wrap64 (-x.prio))), (11, .int .i64 (wrap64 (-y.prio)))]
                  [(8, .pointer (some ⟨Bx, 0, none⟩)), (9, .pointer (some ⟨By, 0, none⟩))]
                  (by kernel_rfl) [63, 64, 65, 66, 67, 68, 10, 11] (by kernel_rfl) (by kernel_rfl) (by decide) (by kernel_rfl) ⟨rfl, rfl, trivial⟩ ?hops ?hQ
                case hops =>
                  exact ⟨og (t := 63) (c := .pointer (some ⟨Bx, 1, none⟩)) rfl (by kernel_rfl) (ov_fld_Node1 rfl (by kernel_rfl)),
                    og (t := 64) (c := .int .i64 x.prio) rfl (by kernel_rfl) (ov_ld_int rfl (by kernel_rfl) k1),
                    og (t := 65) (c := .int .i64 (wrap64 (-x.prio))) rfl (by kernel_rfl) (ov_neg rfl (by kernel_rfl)),
                    og (t := 66) (c := .pointer (some ⟨By, 1, none⟩)) rfl (by kernel_rfl) (ov_fld_Node1 rfl (by kernel_rfl)),
                    og (t := 67) (c := .int .i64 y.prio) rfl (by kernel_rfl) (ov_ld_int rfl (by kernel_rfl) l1),
                    og (t := 68) (c := .int .i64 (wrap64 (-y.prio))) rfl (by kernel_rfl) (ov_neg rfl (by kernel_rfl)),
                    og (t := 10) (c := .int .i64 (wrap64 (-x.prio))) rfl (by kernel_rfl) (ov_assign rfl (by kernel_rfl)),
                    og (t := 11) (c := .int .i64 (wrap64 (-y.prio))) rfl (by kernel_rfl) (ov_assign rfl (by kernel_rfl)),
                    trivial⟩
                case hQ =>
                  intro vs W hg hv
                  have hv10 := hv 10 (.int .i64 (wrap64 (-x.prio))) (by kernel_rfl) (by decide)
                  have hv11 := hv 11 (.int .i64 (wrap64 (-y.prio))) (by kernel_rfl) (by decide)
                  clear hv
                  have HV10 := Lib.hid hv10
                  have HV11 := Lib.hid hv11
                  have HGW := Lib.hid hg
                  clear hg hv10 hv11
                  simp only [List.foldl_cons, List.foldl_nil, List.setIfInBounds_toArray, List.set_cons_zero, List.set_cons_succ]
                  go_wp2_with fail
                  go_meet
                  exact ⟨HV10.out, HV11.out, HGW.out⟩
              case rest =>
                obtain ⟨rfl, rfl, hg5⟩ := hcut
                generalize wc = W5 at *
                have HFIT : Hid (∀ (a b : Ed) W, W5.grownBy W none → Calls Tryd.prog 19 #[.slice (some ⟨bw, ow, none⟩) xs.length cap, .pointer (some ⟨gk, 0, none⟩), edV a, edV b] W fun e w' => e = .returned (.bool (fitsA xs (knownA xs d) a b)) ∧ W.grownBy w' none) := Lib.hid fun a b W hg => HFT.out a b W (only_trans (only_trans HG5.out hg5) hg)
                have HG6 := Lib.hid (only_trans HG5.out hg5)
                have HK6 := Lib.hid (HK5.out.kept hg5)
                have HKX6 := Lib.hid (HKX5.out.kept hg5)
                have HKY6 := Lib.hid (HKY5.out.kept hg5)
                have HEX6 := Lib.hid (HEX5.out.keep (.grown hg5))
                have HEY6 := Lib.hid (HEY5.out.keep (.grown hg5))
                clear HG5 HK5 HKX5 HKY5 HEX5 HEY5 hg5 k1 l1 HFT
                obtain ⟨pre, hpre⟩ : ∃ b, fitsA xs (knownA xs d) (stepT (0, -x.prio) x.pay) (stepT (0, -y.prio) y.pay) = b := ⟨_, rfl⟩
                have HPRE := Lib.hid hpre
                have k2 : W5.cell? ⟨Bx, 2, none⟩ = some (.bool x.chan) := HKX6.out.cell 2
                have k3 : W5.cell? ⟨Bx, 3, none⟩ = some (.int .i64 x.pay.1) := HKX6.out.cell 3
                have k4 : W5.cell? ⟨Bx, 4, none⟩ = some (.int .i64 x.pay.2) := HKX6.out.cell 4
                have l3 : W5.cell? ⟨By, 3, none⟩ = some (.int .i64 y.pay.1) := HKY6.out.cell 3
                have l4 : W5.cell? ⟨By, 4, none⟩ = some (.int .i64 y.pay.2) := HKY6.out.cell 4
                go_upto_region 11 with fail
                go_cut [12] from 69 to 84 (fun u wx => u = .bool (!x.chan || pre) ∧ W5.grownBy wx none)
                case first =>
                  obtain ⟨bX, hbX⟩ : ∃ b, x.chan = b := ⟨_, rfl⟩
                  cases bX with
                  | false =>
                    rw [hbX] at k2
                    have HREL : Hid ((!x.chan || pre) = true) := Lib.hid (by rw [hbX]; rfl)
                    clear hbX hpre
                    refine region_known (by kernel_rfl)
                      [(69, .pointer (some ⟨Bx, 2, none⟩)), (70, .bool false), (71, .bool true), (72, .bool true), (84, .bool true), (12, .bool true)]
                      [(0, .slice (some ⟨bw, ow, none⟩) xs.length cap), (1, .pointer (some ⟨gk, 0, none⟩)), (8, .pointer (some ⟨Bx, 0, none⟩)), (9, .pointer (some ⟨By, 0, none⟩)), (10, .int .i64 (wrap64 (-x.prio))), (11, .int .i64 (wrap64 (-y.prio)))]
                      (by kernel_rfl) [69, 70, 71, 72, 73, 74, 75, 76, 77, 78, 79, 80, 81, 82, 83, 84, 12] (by kernel_rfl) (by kernel_rfl) (by decide) (by kernel_rfl) ⟨rfl, rfl, rfl, rfl, rfl, rfl, trivial⟩ ?hops ?hQ
                    case hops =>
                      exact ⟨og (t := 69) (c := .pointer (some ⟨Bx, 2, none⟩)) rfl (by kernel_rfl) (ov_fld_Node2 rfl (by kernel_rfl)),
                        og (t := 70) (c := .bool false) rfl (by kernel_rfl) (ov_ld_bool rfl (by kernel_rfl) k2),
                        og (t := 71) (c := .bool true) rfl (by kernel_rfl) (ov_not (a := false) rfl (by kernel_rfl) rfl),
                        og (t := 72) (c := .bool true) rfl (by kernel_rfl) (ov_move rfl (by kernel_rfl)),
                        oskip (t := 73) rfl (by kernel_rfl),
                        oskip (t := 74) rfl (by kernel_rfl),
                        oskip (t := 75) rfl (by kernel_rfl),
                        oskip (t := 76) rfl (by kernel_rfl),
                        oskip (t := 77) rfl (by kernel_rfl),
                        oskip (t := 78) rfl (by kernel_rfl),
                        oskip (t := 79) rfl (by kernel_rfl),
                        oskip (t := 80) rfl (by kernel_rfl),
                        oskip (t := 81) rfl (by kernel_rfl),
                        oskip (t := 82) rfl (by kernel_rfl),
                        oskip (t := 83) rfl (by kernel_rfl),
                        og (t := 84) (c := .bool true) rfl (by kernel_rfl) (ov_pick_tc rfl (by kernel_rfl)),
                        og (t := 12) (c := .bool true) rfl (by kernel_rfl) (ov_assign rfl (by kernel_rfl)),
                        trivial⟩
                    case hQ =>
                      intro vs W hg hv
                      have hv12 := hv 12 (.bool true) (by kernel_rfl) (by decide)
                      clear hv
                      have HV12 := Lib.hid hv12
                      have HGW := Lib.hid hg
                      clear hg hv12
                      simp only [List.foldl_cons, List.foldl_nil, List.setIfInBounds_toArray, List.set_cons_zero, List.set_cons_succ]
                      go_wp2_with fail
                      go_meet
                      exact ⟨by rw [HREL.out]; exact HV12.out, HGW.out⟩
                  | true =>
                    rw [hbX] at k2
                    have HREL : Hid ((!x.chan || pre) = pre) := Lib.hid (by rw [hbX]; rfl)
                    clear hbX hpre
                    refine region_known (by kernel_rfl)
                      [(69, .pointer (some ⟨Bx, 2, none⟩)), (70, .bool true), (71, .bool false), (72, .bool false), (73, .slice (some ⟨bw, ow, none⟩) xs.length cap), (74, .pointer (some ⟨gk, 0, none⟩)), (75, .pointer (some ⟨Bx, 3, none⟩)), (76, edV x.pay), (77, .int .i64 (wrap64 (-x.prio))), (78, edV (stepT (0, -x.prio) x.pay)), (79, .pointer (some ⟨By, 3, none⟩)), (80, edV y.pay), (81, .int .i64 (wrap64 (-y.prio))), (82, edV (stepT (0, -y.prio) y.pay)), (83, .bool pre), (84, .bool pre), (12, .bool pre)]
                      [(0, .slice (some ⟨bw, ow, none⟩) xs.length cap), (1, .pointer (some ⟨gk, 0, none⟩)), (8, .pointer (some ⟨Bx, 0, none⟩)), (9, .pointer (some ⟨By, 0, none⟩)), (10, .int .i64 (wrap64 (-x.prio))), (11, .int .i64 (wrap64 (-y.prio)))]
                      (by kernel_rfl) [69, 70, 71, 72, 73, 74, 75, 76, 77, 78, 79, 80, 81, 82, 83, 84, 12] (by kernel_rfl) (by kernel_rfl) (by decide) (by kernel_rfl) ⟨rfl, rfl, rfl, rfl, rfl, rfl, trivial⟩ ?hops ?hQ
                    case hops =>
                      exact ⟨og (t := 69) (c := .pointer (some ⟨Bx, 2, none⟩)) rfl (by kernel_rfl) (ov_fld_Node2 rfl (by kernel_rfl)),
                        og (t := 70) (c := .bool true) rfl (by kernel_rfl) (ov_ld_bool rfl (by kernel_rfl) k2),
                        og (t := 71) (c := .bool false) rfl (by kernel_rfl) (ov_not (a := true) rfl (by kernel_rfl) rfl),
                        og (t := 72) (c := .bool false) rfl (by kernel_rfl) (ov_move rfl (by kernel_rfl)),
                        og (t := 73) (c := .slice (some ⟨bw, ow, none⟩) xs.length cap) rfl (by kernel_rfl) (ov_move rfl (by kernel_rfl)),
                        og (t := 74) (c := .pointer (some ⟨gk, 0, none⟩)) rfl (by kernel_rfl) (ov_move rfl (by kernel_rfl)),
                        og (t := 75) (c := .pointer (some ⟨Bx, 3, none⟩)) rfl (by kernel_rfl) (ov_fld_Node3 rfl (by kernel_rfl)),
                        og (t := 76) (c := edV x.pay) rfl (by kernel_rfl) (ov_ld_edge rfl (by kernel_rfl) k3 k4),
                        og (t := 77) (c := .int .i64 (wrap64 (-x.prio))) rfl (by kernel_rfl) (ov_move rfl (by kernel_rfl)),
                        og (t := 78) (c := edV (stepT (0, -x.prio) x.pay)) rfl (by kernel_rfl) (ov_call2 rfl (by kernel_rfl) (by kernel_rfl) (fun W => by kernel_rfl) (fun W _ => ralong_neg _ _ W)),
                        og (t := 79) (c := .pointer (some ⟨By, 3, none⟩)) rfl (by kernel_rfl) (ov_fld_Node3 rfl (by kernel_rfl)),
                        og (t := 80) (c := edV y.pay) rfl (by kernel_rfl) (ov_ld_edge rfl (by kernel_rfl) l3 l4),
                        og (t := 81) (c := .int .i64 (wrap64 (-y.prio))) rfl (by kernel_rfl) (ov_move rfl (by kernel_rfl)),
                        og (t := 82) (c := edV (stepT (0, -y.prio) y.pay)) rfl (by kernel_rfl) (ov_call2 rfl (by kernel_rfl) (by kernel_rfl) (fun W => by kernel_rfl) (fun W _ => ralong_neg _ _ W)),
                        og (t := 83) (c := .bool pre) rfl (by kernel_rfl) (ov_call4 rfl (by kernel_rfl) (by kernel_rfl) (by kernel_rfl) (by kernel_rfl) (fun W => by kernel_rfl) (fun W hg => by rw [← HPRE.out]; exact HFIT.out _ _ W hg)),
                        og (t := 84) (c := .bool pre) rfl (by kernel_rfl) (ov_pick_ft rfl (by kernel_rfl) (by kernel_rfl)),
                        og (t := 12) (c := .bool pre) rfl (by kernel_rfl) (ov_assign rfl (by kernel_rfl)),
                        trivial⟩
                    case hQ =>
                      intro vs W hg hv
                      have hv12 := hv 12 (.bool pre) (by kernel_rfl) (by decide)
                      clear hv
                      have HV12 := Lib.hid hv12
                      have HGW := Lib.hid hg
                      clear hg hv12
                      simp only [List.foldl_cons, List.foldl_nil, List.setIfInBounds_toArray, List.set_cons_zero, List.set_cons_succ]
                      go_wp2_with fail
                      go_meet
                      exact ⟨by rw [HREL.out]; exact HV12.out, HGW.out⟩
                case rest =>
                  obtain ⟨rfl, hg6⟩ := hcut
                  generalize wc = W6 at *
                  have HG7 := Lib.hid (only_trans HG6.out hg6)
                  have HK7 := Lib.hid (HK6.out.kept hg6)
                  have HKX7 := Lib.hid (HKX6.out.kept hg6)
                  have HKY7 := Lib.hid (HKY6.out.kept hg6)
                  have HEX7 := Lib.hid (HEX6.out.keep (.grown hg6))
                  have HEY7 := Lib.hid (HEY6.out.keep (.grown hg6))
                  have HFI7 : Hid (∀ (a b : Ed) W, W6.grownBy W none → Calls Tryd.prog 19 #[.slice (some ⟨bw, ow, none⟩) xs.length cap, .pointer (some ⟨gk, 0, none⟩), edV a, edV b] W fun e w' => e = .returned (.bool (fitsA xs (knownA xs d) a b)) ∧ W.grownBy w' none) := Lib.hid fun a b W hg => HFIT.out a b W (only_trans hg6 hg)
                  have HAL3 : Hid (knownA xs (d + 1) i j = ((!x.chan || pre) && allTwo (fun e f => fitsA xs (knownA xs d) (stepT (0, -x.prio) e) (stepT (0, -y.prio) f)) x.next y.next)) := Lib.hid (by rw [HAL2.out, hpre])
                  have HLEN := Lib.hid hlen
                  clear HG6 HK6 HKX6 HKY6 HEX6 HEY6 HFIT hg6 k2 k3 k4 l3 l4 hpre HPRE HAL2 hlen
                  revert HAL3
                  generalize (!x.chan || pre) = pr
                  intro HAL3
                  go_wp2_with fail
                  go_loopw [12, 13] (fun u v wr => ∃ l : Nat, l ≤ x.next.length ∧ v = .int .i64 (l : Int) ∧ u = .bool (pr && allTwo (fun e f => fitsA xs (knownA xs d) (stepT (0, -x.prio) e) (stepT (0, -y.prio) f)) (x.next.take l) (y.next.take l)) ∧ W6.grownBy wr none) (fun _ v _ => x.next.length - (intOf v).toNat)
                  case atStart => exact ⟨0, Nat.zero_le _, rfl, by simp [allTwo], only_refl _ _⟩
                  case round =>
                    obtain ⟨l, hl, rfl, rfl, hg7⟩ := hrel
                    have k5 : wr.cell? ⟨Bx, 5, none⟩ = some (.slice Ax x.next.length cx) := (HKX7.out.kept hg7).cell 5
                    have l5 : wr.cell? ⟨By, 5, none⟩ = some (.slice Ay y.next.length cy) := (HKY7.out.kept hg7).cell 5
                    have HG5 := Lib.hid hg7
                    by_cases hlx : l < x.next.length
                    · have hly : l < y.next.length := by rw [← HLEN.out]; exact hlx
                      have hl0 : (0 : Int) ≤ (l : Int) := by omega
                      have hl1 : (l : Int) < (x.next.length : Int) := by omega
                      obtain ⟨e, he⟩ : ∃ e, x.next[l]? = some e := ⟨_, List.getElem?_eq_getElem hlx⟩
                      obtain ⟨f, hf⟩ : ∃ f, y.next[l]? = some f := ⟨_, List.getElem?_eq_getElem hly⟩
                      obtain ⟨bx, ox, rfl, e0, e1⟩ := (HEX7.out.keep (.grown hg7)).at_ he
                      obtain ⟨by_, oy, rfl, f0, f1⟩ := (HEY7.out.keep (.grown hg7)).at_ hf
                      obtain ⟨nx, hnx⟩ : ∃ b, fitsA xs (knownA xs d) (stepT (0, -x.prio) e) (stepT (0, -y.prio) f) = b := ⟨_, rfl⟩
                      have HNX := Lib.hid hnx
                      have HST : Hid ((pr && allTwo (fun e f => fitsA xs (knownA xs d) (stepT (0, -x.prio) e) (stepT (0, -y.prio) f)) (x.next.take (l + 1)) (y.next.take (l + 1))) = ((pr && allTwo (fun e f => fitsA xs (knownA xs d) (stepT (0, -x.prio) e) (stepT (0, -y.prio) f)) (x.next.take l) (y.next.take l)) && nx)) := Lib.hid (by rw [allTwo_step _ he hf, hnx, Bool.and_assoc])
                      clear he hf hnx hg7
                      revert HST
                      generalize (pr && allTwo (fun e f => fitsA xs (knownA xs d) (stepT (0, -x.prio) e) (stepT (0, -y.prio) f)) (x.next.take l) (y.next.take l)) = cur
                      intro HST
                      have HFIT := HFI7
                      go_upto_region 15 with fail
                      cases cur with
                      | false =>
                        refine region_upd (by kernel_rfl)
                          [(92, .bool false), (93, .bool false), (111, .bool false)]
                          [(0, .slice (some ⟨bw, ow, none⟩) xs.length cap), (1, .pointer (some ⟨gk, 0, none⟩)), (8, .pointer (some ⟨Bx, 0, none⟩)), (9, .pointer (some ⟨By, 0, none⟩)), (10, .int .i64 (wrap64 (-x.prio))), (11, .int .i64 (wrap64 (-y.prio))), (12, .bool false), (13, .int .i64 (l : Int))]
                          20 12 111 (.bool false) (by kernel_rfl) [92, 93, 94, 95, 96, 97, 98, 99, 100, 101, 102, 103, 104, 105, 106, 107, 108, 109, 110, 111, 12] (by kernel_rfl) (by kernel_rfl) (by decide) (by kernel_rfl) ⟨rfl, rfl, rfl, rfl, rfl, rfl, rfl, rfl, trivial⟩ ?hops (by kernel_rfl) (by kernel_rfl) ?hQ
                        case hops =>
                          exact ⟨fun _ => og (t := 92) (c := .bool false) rfl (by kernel_rfl) (ov_move rfl (by kernel_rfl)),
                            fun _ => og (t := 93) (c := .bool false) rfl (by kernel_rfl) (ov_move rfl (by kernel_rfl)),
                            fun _ => oskip (t := 94) rfl (by kernel_rfl),
                            fun _ => oskip (t := 95) rfl (by kernel_rfl),
                            fun _ => oskip (t := 96) rfl (by kernel_rfl),
                            fun _ => oskip (t := 97) rfl (by kernel_rfl),
                            fun _ => oskip (t := 98) rfl (by kernel_rfl),
                            fun _ => oskip (t := 99) rfl (by kernel_rfl),
                            fun _ => oskip (t := 100) rfl (by kernel_rfl),
                            fun _ => oskip (t := 101) rfl (by kernel_rfl),
                            fun _ => oskip (t := 102) rfl (by kernel_rfl),
                            fun _ => oskip (t := 103) rfl (by kernel_rfl),
                            fun _ => oskip (t := 104) rfl (by kernel_rfl),
                            fun _ => oskip (t := 105) rfl (by kernel_rfl),
                            fun _ => oskip (t := 106) rfl (by kernel_rfl),
                            fun _ => oskip (t := 107) rfl (by kernel_rfl),
                            fun _ => oskip (t := 108) rfl (by kernel_rfl),
                            fun _ => oskip (t := 109) rfl (by kernel_rfl),
                            fun _ => oskip (t := 110) rfl (by kernel_rfl),
                            fun _ => og (t := 111) (c := .bool false) rfl (by kernel_rfl) (ov_pick_fc rfl (by kernel_rfl)),
                            fun h => absurd rfl h,
                            trivial⟩
                        case hQ =>
                          intro vs W hg hv12
                          have HV12 := Lib.hid hv12
                          have HGW := Lib.hid hg
                          clear hg hv12
                          simp only [List.foldl_cons, List.foldl_nil, List.setIfInBounds_toArray, List.set_cons_zero, List.set_cons_succ]
                          go_wp2_with fail
                          go_roundw
                          case rel => exact ⟨l + 1, by omega, by go_num, by rw [HST.out]; exact HV12.out, only_trans HG5.out HGW.out⟩
                          case measure => simp [intOf]; omega
                      | true =>
                        refine region_upd (by kernel_rfl)
                          [(92, .bool true), (93, .bool true), (94, .slice (some ⟨bw, ow, none⟩) xs.length cap), (95, .pointer (some ⟨gk, 0, none⟩)), (96, .pointer (some ⟨Bx, 5, none⟩)), (97, .slice (some ⟨bx, ox, none⟩) x.next.length cx), (98, .int .i64 (l : Int)), (99, .pointer (some ⟨bx, ox + l * 2, none⟩)), (100, edV e), (101, .int .i64 (wrap64 (-x.prio))), (102, edV (stepT (0, -x.prio) e)), (103, .pointer (some ⟨By, 5, none⟩)), (104, .slice (some ⟨by_, oy, none⟩) y.next.length cy), (105, .int .i64 (l : Int)), (106, .pointer (some ⟨by_, oy + l * 2, none⟩)), (107, edV f), (108, .int .i64 (wrap64 (-y.prio))), (109, edV (stepT (0, -y.prio) f)), (110, .bool nx), (111, .bool nx)]
                          [(0, .slice (some ⟨bw, ow, none⟩) xs.length cap), (1, .pointer (some ⟨gk, 0, none⟩)), (8, .pointer (some ⟨Bx, 0, none⟩)), (9, .pointer (some ⟨By, 0, none⟩)), (10, .int .i64 (wrap64 (-x.prio))), (11, .int .i64 (wrap64 (-y.prio))), (12, .bool true), (13, .int .i64 (l : Int))]
                          20 12 111 (.bool nx) (by kernel_rfl) [92, 93, 94, 95, 96, 97, 98, 99, 100, 101, 102, 103, 104, 105, 106, 107, 108, 109, 110, 111, 12] (by kernel_rfl) (by kernel_rfl) (by decide) (by kernel_rfl) ⟨rfl, rfl, rfl, rfl, rfl, rfl, rfl, rfl, trivial⟩ ?hops (by kernel_rfl) (by kernel_rfl) ?hQ
                        case hops =>
                          exact ⟨fun _ => og (t := 92) (c := .bool true) rfl (by kernel_rfl) (ov_move rfl (by kernel_rfl)),
                            fun _ => og (t := 93) (c := .bool true) rfl (by kernel_rfl) (ov_move rfl (by kernel_rfl)),
                            fun _ => og (t := 94) (c := .slice (some ⟨bw, ow, none⟩) xs.length cap) rfl (by kernel_rfl) (ov_move rfl (by kernel_rfl)),
                            fun _ => og (t := 95) (c := .pointer (some ⟨gk, 0, none⟩)) rfl (by kernel_rfl) (ov_move rfl (by kernel_rfl)),
                            fun _ => og (t := 96) (c := .pointer (some ⟨Bx, 5, none⟩)) rfl (by kernel_rfl) (ov_fld_Node4 rfl (by kernel_rfl)),
                            fun _ => og (t := 97) (c := .slice (some ⟨bx, ox, none⟩) x.next.length cx) rfl (by kernel_rfl) (ov_ld_edges rfl (by kernel_rfl) k5),
                            fun _ => og (t := 98) (c := .int .i64 (l : Int)) rfl (by kernel_rfl) (ov_move rfl (by kernel_rfl)),
                            fun _ => og (t := 99) (c := .pointer (some ⟨bx, ox + l * 2, none⟩)) rfl (by kernel_rfl) (ov_ix_edges (n := x.next.length) (c := cx) (z := (l : Int)) l rfl (by kernel_rfl) (by kernel_rfl) rfl hlx),
                            fun _ => og (t := 100) (c := edV e) rfl (by kernel_rfl) (ov_ld_edge rfl (by kernel_rfl) e0 e1),
                            fun _ => og (t := 101) (c := .int .i64 (wrap64 (-x.prio))) rfl (by kernel_rfl) (ov_move rfl (by kernel_rfl)),
                            fun _ => og (t := 102) (c := edV (stepT (0, -x.prio) e)) rfl (by kernel_rfl) (ov_call2 rfl (by kernel_rfl) (by kernel_rfl) (fun W => by kernel_rfl) (fun W _ => ralong_neg _ _ W)),
                            fun _ => og (t := 103) (c := .pointer (some ⟨By, 5, none⟩)) rfl (by kernel_rfl) (ov_fld_Node4 rfl (by kernel_rfl)),
                            fun _ => og (t := 104) (c := .slice (some ⟨by_, oy, none⟩) y.next.length cy) rfl (by kernel_rfl) (ov_ld_edges rfl (by kernel_rfl) l5),
                            fun _ => og (t := 105) (c := .int .i64 (l : Int)) rfl (by kernel_rfl) (ov_move rfl (by kernel_rfl)),
                            fun _ => og (t := 106) (c := .pointer (some ⟨by_, oy + l * 2, none⟩)) rfl (by kernel_rfl) (ov_ix_edges (n := y.next.length) (c := cy) (z := (l : Int)) l rfl (by kernel_rfl) (by kernel_rfl) rfl hly),
                            fun _ => og (t := 107) (c := edV f) rfl (by kernel_rfl) (ov_ld_edge rfl (by kernel_rfl) f0 f1),
                            fun _ => og (t := 108) (c := .int .i64 (wrap64 (-y.prio))) rfl (by kernel_rfl) (ov_move rfl (by kernel_rfl)),
                            fun _ => og (t := 109) (c := edV (stepT (0, -y.prio) f)) rfl (by kernel_rfl) (ov_call2 rfl (by kernel_rfl) (by kernel_rfl) (fun W => by kernel_rfl) (fun W _ => ralong_neg _ _ W)),
                            fun _ => og (t := 110) (c := .bool nx) rfl (by kernel_rfl) (ov_call4 rfl (by kernel_rfl) (by kernel_rfl) (by kernel_rfl) (by kernel_rfl) (fun W => by kernel_rfl) (fun W hg => by rw [← HNX.out]; exact HFIT.out _ _ W (only_trans HG5.out hg))),
                            fun _ => og (t := 111) (c := .bool nx) rfl (by kernel_rfl) (ov_pick_tt rfl (by kernel_rfl) (by kernel_rfl)),
                            fun h => absurd rfl h,
                            trivial⟩
                        case hQ =>
                          intro vs W hg hv12
                          have HV12 := Lib.hid hv12
                          have HGW := Lib.hid hg
                          clear hg hv12
                          simp only [List.foldl_cons, List.foldl_nil, List.setIfInBounds_toArray, List.set_cons_zero, List.set_cons_succ]
                          go_wp2_with fail
                          go_roundw
                          case rel => exact ⟨l + 1, by omega, by go_num, by rw [HST.out]; exact HV12.out, only_trans HG5.out HGW.out⟩
                          case measure => simp [intOf]; omega
                    · have hle : l = x.next.length := by omega
                      have HV : Hid (knownA xs (d + 1) i j = (pr && allTwo (fun e f => fitsA xs (knownA xs d) (stepT (0, -x.prio) e) (stepT (0, -y.prio) f)) (x.next.take l) (y.next.take l))) := Lib.hid (by
                        rw [HAL3.out, hle, List.take_length]
                        rw [show y.next.take x.next.length = y.next by rw [HLEN.out, List.take_length]])
                      have hge : (x.next.length : Int) ≤ (l : Int) := by omega
                      clear hle hg7
                      revert HV
                      generalize (pr && allTwo (fun e f => fitsA xs (knownA xs d) (stepT (0, -x.prio) e) (stepT (0, -y.prio) f)) (x.next.take l) (y.next.take l)) = fv
                      intro HV
                      obtain ⟨⟨cv, hcv⟩, hfr, hpg, hpk⟩ := put_known (only_trans HG7.out HG5.out) HGE.out (HK7.out.kept HG5.out) hi128 hj128 HV.out wr (only_refl _ _)
                      have HPG := Lib.hid hpg
                      have HPK := Lib.hid hpk
                      have hgs : g < wr.heap.size := cell_lt hcv
                      clear hpg hpk
                      go_wp2_with fail
                      go_roundw
                      case rel => exact ⟨j + 1, by omega, by go_num, HPG.out, HPK.out⟩
                      case measure => simp [intOf]; omega
            ·
              cases hbA : actsK x.kind with
              | false =>
                have hkf : knownA xs (d + 1) i j = false := by rw [HAL.out, hbA]; simp
                have HKF := Lib.hid hkf
                clear hkf hall HAL
                go_wp2_with (first
                  | (go_at_call 25; ((refine (acts_any _ _).mono ?_); rintro e V ⟨rfl, hg⟩; replace s := only_trans s hg; clear hg k0 k2 k5 l0 l2 l5; have k0 : V.cell? ⟨Bx, 0, none⟩ = some (.int .i64 x.kind) := (HKX.out.kept s).cell 0; have k2 : V.cell? ⟨Bx, 2, none⟩ = some (.bool x.chan) := (HKX.out.kept s).cell 2; have k5 : V.cell? ⟨Bx, 5, none⟩ = some (.slice Ax x.next.length cx) := (HKX.out.kept s).cell 5; have l0 : V.cell? ⟨By, 0, none⟩ = some (.int .i64 y.kind) := (HKY.out.kept s).cell 0; have l2 : V.cell? ⟨By, 2, none⟩ = some (.bool y.chan) := (HKY.out.kept s).cell 2; have l5 : V.cell? ⟨By, 5, none⟩ = some (.slice Ay y.next.length cy) := (HKY.out.kept s).cell 5))
                  | fail)
                go_roundw
                case rel => exact ⟨j + 1, by omega, by go_num, only_trans HG4.out s, (HK4.out.kept s).to (upK_skip HKF.out)⟩
                case measure => simp [intOf]; omega
              | true =>
                cases hbB : (x.kind == y.kind) with
                | false =>
                  have nhbB : (x.kind != y.kind) = true := by unfold bne; rw [hbB]; rfl
                  have hkf : knownA xs (d + 1) i j = false := by rw [HAL.out, hbA, hbB]; simp
                  have HKF := Lib.hid hkf
                  clear hkf hall HAL
                  go_wp2_with (first
                    | (go_at_call 25; ((refine (acts_any _ _).mono ?_); rintro e V ⟨rfl, hg⟩; replace s := only_trans s hg; clear hg k0 k2 k5 l0 l2 l5; have k0 : V.cell? ⟨Bx, 0, none⟩ = some (.int .i64 x.kind) := (HKX.out.kept s).cell 0; have k2 : V.cell? ⟨Bx, 2, none⟩ = some (.bool x.chan) := (HKX.out.kept s).cell 2; have k5 : V.cell? ⟨Bx, 5, none⟩ = some (.slice Ax x.next.length cx) := (HKX.out.kept s).cell 5; have l0 : V.cell? ⟨By, 0, none⟩ = some (.int .i64 y.kind) := (HKY.out.kept s).cell 0; have l2 : V.cell? ⟨By, 2, none⟩ = some (.bool y.chan) := (HKY.out.kept s).cell 2; have l5 : V.cell? ⟨By, 5, none⟩ = some (.slice Ay y.next.length cy) := (HKY.out.kept s).cell 5))
                    | fail)
                  go_roundw
                  case rel => exact ⟨j + 1, by omega, by go_num, only_trans HG4.out s, (HK4.out.kept s).to (upK_skip HKF.out)⟩
                  case measure => simp [intOf]; omega
                | true =>
                  cases hbC : (((x.next.length : Nat) : Int) == ((y.next.length : Nat) : Int)) with
                  | false =>
                    have nhbB : (x.kind != y.kind) = false := by unfold bne; rw [hbB]; rfl
                    have nhbC : (((x.next.length : Nat) : Int) != ((y.next.length : Nat) : Int)) = true := by unfold bne; rw [hbC]; rfl
                    have hkf : knownA xs (d + 1) i j = false := by rw [HAL.out, hbA, hbB, hbC]; simp
                    have HKF := Lib.hid hkf
                    clear hkf hall HAL
                    go_wp2_with (first
                      | (go_at_call 25; ((refine (acts_any _ _).mono ?_); rintro e V ⟨rfl, hg⟩; replace s := only_trans s hg; clear hg k0 k2 k5 l0 l2 l5; have k0 : V.cell? ⟨Bx, 0, none⟩ = some (.int .i64 x.kind) := (HKX.out.kept s).cell 0; have k2 : V.cell? ⟨Bx, 2, none⟩ = some (.bool x.chan) := (HKX.out.kept s).cell 2; have k5 : V.cell? ⟨Bx, 5, none⟩ = some (.slice Ax x.next.length cx) := (HKX.out.kept s).cell 5; have l0 : V.cell? ⟨By, 0, none⟩ = some (.int .i64 y.kind) := (HKY.out.kept s).cell 0; have l2 : V.cell? ⟨By, 2, none⟩ = some (.bool y.chan) := (HKY.out.kept s).cell 2; have l5 : V.cell? ⟨By, 5, none⟩ = some (.slice Ay y.next.length cy) := (HKY.out.kept s).cell 5))
                      | fail)
                    go_roundw
                    case rel => exact ⟨j + 1, by omega, by go_num, only_trans HG4.out s, (HK4.out.kept s).to (upK_skip HKF.out)⟩
                    case measure => simp [intOf]; omega
                  | true =>
                    cases hbD : (x.chan == y.chan) with
                    | false =>
                      have nhbB : (x.kind != y.kind) = false := by unfold bne; rw [hbB]; rfl
                      have nhbC : (((x.next.length : Nat) : Int) != ((y.next.length : Nat) : Int)) = false := by unfold bne; rw [hbC]; rfl
                      have nhbD : (x.chan != y.chan) = true := by unfold bne; rw [hbD]; rfl
                      have hkf : knownA xs (d + 1) i j = false := by rw [HAL.out, hbA, hbB, hbC, hbD]; simp
                      have HKF := Lib.hid hkf
                      clear hkf hall HAL
                      go_wp2_with (first
                        | (go_at_call 25; ((refine (acts_any _ _).mono ?_); rintro e V ⟨rfl, hg⟩; replace s := only_trans s hg; clear hg k0 k2 k5 l0 l2 l5; have k0 : V.cell? ⟨Bx, 0, none⟩ = some (.int .i64 x.kind) := (HKX.out.kept s).cell 0; have k2 : V.cell? ⟨Bx, 2, none⟩ = some (.bool x.chan) := (HKX.out.kept s).cell 2; have k5 : V.cell? ⟨Bx, 5, none⟩ = some (.slice Ax x.next.length cx) := (HKX.out.kept s).cell 5; have l0 : V.cell? ⟨By, 0, none⟩ = some (.int .i64 y.kind) := (HKY.out.kept s).cell 0; have l2 : V.cell? ⟨By, 2, none⟩ = some (.bool y.chan) := (HKY.out.kept s).cell 2; have l5 : V.cell? ⟨By, 5, none⟩ = some (.slice Ay y.next.length cy) := (HKY.out.kept s).cell 5))
                        | fail)
                      go_roundw
                      case rel => exact ⟨j + 1, by omega, by go_num, only_trans HG4.out s, (HK4.out.kept s).to (upK_skip HKF.out)⟩
                      case measure => simp [intOf]; omega
                    | true =>
                      exact absurd ⟨hbA, hbB, hbC, hbD⟩ hall
        · have hje : j = xs.length := by omega
          have HK4 : Hid (KnO wr g (upK (knownA xs (d + 1)) (i + 1) 0)) := Lib.hid ((hje ▸ HK3.out).to (upK_row rfl (d + 1) i))
          have hge : (xs.length : Int) ≤ (j : Int) := by omega
          clear hje
          go_wp2_with fail
          go_roundw
          case rel => exact ⟨i + 1, by omega, by go_num, HG3.out, HK4.out⟩
          case measure => simp [intOf]; omega
    · have hie : i = xs.length := by omega
      have HK4 : Hid (KnO wr g (knownA xs (d + 1))) := Lib.hid ((hie ▸ HK2.out).to (upK_all rfl (d + 1)))
      have hge : (xs.length : Int) ≤ (i : Int) := by omega
      clear hie
      go_wp2_with fail
      go_ret
      exact ⟨⟨g, rfl, HGE.out, HK4.out⟩, HG2.out⟩
end Go.Proofs.YtoklaajiajilhaaDoor

/- The document's own answer of stage 8: Equal, by rounds. -/
namespace Go.Proofs.YtoklaajiajilhaaDoor
open Go.RowKit

/-- What stands when Equal's rounds go: the boxes of both types. -/
structure REq (w : World) (v : Value) (xs : List Nd) (Ba Bb : Nat) (a b : Ed) (W : World) : Prop where
  gr : w.grownBy W none
  tb : Tbl W v xs
  ba : Blk W Ba 24 (edCells a)
  bb : Blk W Bb 24 (edCells b)
theorem REq.kept {w : World} {v : Value} {xs : List Nd} {Ba Bb : Nat} {a b : Ed} {W W' : World} (h : REq w v xs Ba Bb a b W) (hg : W.grownBy W' none) : REq w v xs Ba Bb a b W' := ⟨only_trans h.gr hg, h.tb.keep (.grown hg), h.ba.kept hg, h.bb.kept hg⟩

set_option maxRecDepth 100000 in
set_option maxHeartbeats 4000000 in
theorem requal_any (xs : List Nd) (v : Value) (a b : Ed) (d : Int) (w : World) (hT : Tbl w v xs) (hl : xs.length ≤ 1000) :
    Calls Tryd.prog 9 #[v, edV a, edV b, .int .i64 d] w fun e w' => e = .returned (.bool (equalA xs a b d)) ∧ w.grownBy w' none := by
  have HT := Lib.hid hT
  have HL := Lib.hid hl
  obtain ⟨A, c, rfl, _⟩ := hT
  clear hl
  obtain ⟨a0, a1⟩ := a
  obtain ⟨b0, b1⟩ := b
  go_enter Tryd.func9, Tryd.ntmps9
  by_cases hd : d ≤ 0
  · have hv : equalA xs (a0, a1) (b0, b1) d = true := by unfold equalA; rw [if_pos hd]
    have HV := Lib.hid hv
    clear hv
    have hm : min d 256 = d := by omega
    go_wp2_with fail
    go_ret
    exact ⟨by rw [HV.out]; rfl, only_alloc (only_alloc (only_refl _ _) _) _⟩
  · obtain ⟨D, hD⟩ : ∃ D : Nat, (if 256 < d then (256 : Int) else d) = (D : Int) := ⟨(min d 256).toNat, by split <;> omega⟩
    have hm : min d 256 = (D : Int) := by rw [← hD]; split <;> omega
    have hD1 : 1 ≤ D := by omega
    have HD1 := Lib.hid hD1
    have HV : Hid (equalA xs (a0, a1) (b0, b1) d = if largeB xs then false else eqD xs D (a0, a1) (b0, b1)) := Lib.hid (by unfold equalA; rw [if_neg hd, hm, Int.toNat_natCast])
    have hDp : ¬ (D : Int) ≤ 0 := by omega
    have hDq : (0 : Int) < (D : Int) := by omega
    have hDm : (D : Int) ≤ 256 := by omega
    clear hd hm hD1
    go_upto_region 4 with fail
    generalize hW1 : World.alloc (World.alloc w _) _ = W1
    have hA : Blk W1 w.heap.size 24 (edCells (a0, a1)) := by rw [← hW1]; exact (Blk.new _ _ _).alloc _
    have hB : Blk W1 (w.heap.size + 1) 24 (edCells (b0, b1)) := by rw [← hW1]; exact blk_at (by simp) _ _
    have hg1 : w.grownBy W1 none := by rw [← hW1]; exact only_alloc (only_alloc (only_refl _ _) _) _
    have HR1 : Hid (REq w (.slice A xs.length c) xs w.heap.size (w.heap.size + 1) (a0, a1) (b0, b1) W1) := Lib.hid ⟨hg1, HT.out.keep (.grown hg1), hA, hB⟩
    revert HR1
    clear hA hB hg1 hW1
    generalize w.heap.size + 1 = Bb
    generalize w.heap.size = Ba
    intro HR1
    cases hlg : largeB xs with
    | true =>
      have HLG := Lib.hid hlg
      clear hlg
      go_wp2_with (first
        | (go_at_call 16; ((refine (rlarge_any xs _ _ HR1.out.tb HL.out).mono ?_); rintro e V ⟨rfl, hg⟩; have HG := Lib.hid hg; clear hg; rw [HLG.out]))
        | fail)
      go_ret
      exact ⟨by rw [HV.out, HLG.out]; rfl, only_trans HR1.out.gr HG.out⟩
    | false =>
      have HLG := Lib.hid hlg
      have HL2 : Hid (xs.length ≤ 128) := Lib.hid (by
        unfold largeB at hlg
        simp only [Bool.or_eq_false_iff, decide_eq_false_iff_not] at hlg
        omega)
      have HV2 : Hid (equalA xs (a0, a1) (b0, b1) d = eqD xs D (a0, a1) (b0, b1)) := Lib.hid (by rw [HV.out, hlg]; rfl)
      clear hlg
      go_wp2_with (first
        | (go_at_call 16; ((refine (rlarge_any xs _ _ HR1.out.tb HL.out).mono ?_); rintro e V ⟨rfl, hg⟩; have HR2 := Lib.hid (HR1.out.kept hg); clear hg HR1; rw [HLG.out]))
        | (go_at_call 17; ((refine (rshallow_any xs _ _ HR2.out.tb HL2.out).mono ?_); rintro e V ⟨⟨g, rfl, hge, hk⟩, hg⟩; have HR3 := Lib.hid (HR2.out.kept hg); have HK3 := Lib.hid hk; clear hg HR2 hge hk))
        | fail)
      go_loopw [9, 10] (fun u v wr => ∃ (n g : Nat), n + 1 ≤ D ∧ u = .pointer (some ⟨g, 0, none⟩) ∧ v = .int .i64 ((n : Int) + 1) ∧ REq w (.slice A xs.length c) xs Ba Bb (a0, a1) (b0, b1) wr ∧ KnO wr g (knownA xs n)) (fun _ v _ => D - (intOf v).toNat)
      case atStart => exact ⟨0, _, HD1.out, rfl, rfl, HR3.out, HK3.out⟩
      case round =>
        obtain ⟨n, g, hn, rfl, rfl, hr, hk⟩ := hrel
        have HR := Lib.hid hr
        have HK := Lib.hid hk
        clear hr hk
        by_cases hnD : n + 1 < D
        · have hlt : (n : Int) + 1 < (D : Int) := by omega
          go_wp2_with (first
            | (go_at_call 18; ((refine (rdeeper_any xs _ g n _ HR.out.tb HL2.out HK.out.kn).mono ?_); rintro e V ⟨⟨g', rfl, hge, hk⟩, hg⟩; have HR4 := Lib.hid (HR.out.kept hg); have HK4 := Lib.hid hk; clear hg hge hk))
            | fail)
          go_roundw
          case rel => exact ⟨n + 1, g', by omega, rfl, by go_num, HR4.out, HK4.out⟩
          case measure => simp [intOf]; omega
        · have hnd : n + 1 = D := by omega
          have HV3 : Hid (equalA xs (a0, a1) (b0, b1) d = fitsA xs (knownA xs n) (a0, a1) (b0, b1)) := Lib.hid (by rw [HV2.out, fits_eqD, hnd])
          have hge : ¬ (n : Int) + 1 < (D : Int) := by omega
          have hge2 : (D : Int) ≤ (n : Int) + 1 := by omega
          have x0 := HR.out.ba.cell 0
          have x1 := HR.out.ba.cell 1
          have y0 := HR.out.bb.cell 0
          have y1 := HR.out.bb.cell 1
          clear hnd hn
          go_wp2_with (first
            | (go_at_call 19; ((refine (fits_any xs A c g (knownA xs n) (a0, a1) (b0, b1) _ HR.out.tb HL2.out HK.out.kn).mono ?_); rintro e V ⟨rfl, hg⟩; have HG := Lib.hid hg; clear hg))
            | fail)
          go_ret
          exact ⟨by rw [HV3.out]; rfl, only_trans HR.out.gr HG.out⟩
end Go.Proofs.YtoklaajiajilhaaDoor

/- UnfoldEquals: the walk. -/
namespace Go.Proofs.YtoklaajiajilhaaDoor
open Go.RowKit

section
variable {vals : List (Tmp × Value)} {w : World} {o : Oper}
theorem ov_two0 {s : Tmp} {g : Nat} (ho : o.op = .indexAddr 25 (.tmp s) (.const (.int .i64 0))) (h0 : vals.lookup s = some (.pointer (some ⟨g, 0, none⟩))) : OpVal Tryd.prog o vals w (.pointer (some ⟨g, 0, none⟩)) := fun b' W hg hr => by
  have e0 := hr s _ (by rw [ho]; simp [Op.operands]) h0
  obtain ⟨dst, op, type, pos, after, guard⟩ := o
  dsimp only at ho
  subst ho
  refine .inl ?_
  simp only [execOp, e0]
  go_simp
theorem ov_two1 {s : Tmp} {g : Nat} (ho : o.op = .indexAddr 25 (.tmp s) (.const (.int .i64 1))) (h0 : vals.lookup s = some (.pointer (some ⟨g, 0, none⟩))) : OpVal Tryd.prog o vals w (.pointer (some ⟨g, 2, none⟩)) := fun b' W hg hr => by
  have e0 := hr s _ (by rw [ho]; simp [Op.operands]) h0
  obtain ⟨dst, op, type, pos, after, guard⟩ := o
  dsimp only at ho
  subst ho
  refine .inl ?_
  simp only [execOp, e0]
  go_simp
theorem ov_rem_c {s : Tmp} {a m r : Int} {ty : TypeId} (ho : o.op = .binOp .rem 3 (.tmp s) (.const (.int .i64 m)) ty) (h0 : vals.lookup s = some (.int .i64 a)) (hm : 0 < m) (hm2 : m ≤ 1000000) (hr0 : Int.tmod a m = r) : OpVal Tryd.prog o vals w (.int .i64 r) := fun b' W hg hr => by
  have e0 := hr s _ (by rw [ho]; simp [Op.operands]) h0
  have h1 := Int.tmod_lt_of_pos a hm
  have h2 := Int.lt_tmod_of_pos a hm
  have hz : ¬ m = 0 := by omega
  have hw : IntKind.i64.wrap r = r := IntWalk.i64_in _ (by omega)
  obtain ⟨dst, op, type, pos, after, guard⟩ := o
  dsimp only at ho
  subst ho
  refine .inl ?_
  simp only [execOp, e0]
  go_simp
theorem ov_rem_n {s t : Tmp} {a m r : Int} {ty : TypeId} (ho : o.op = .binOp .rem 3 (.tmp s) (.tmp t) ty) (h0 : vals.lookup s = some (.int .i64 a)) (h1 : vals.lookup t = some (.int .i64 m)) (hm : 0 < m) (hm2 : m ≤ 1000000) (hr0 : Int.tmod a m = r) : OpVal Tryd.prog o vals w (.int .i64 r) := fun b' W hg hr => by
  have e0 := hr s _ (by rw [ho]; simp [Op.operands]) h0
  have e1 := hr t _ (by rw [ho]; simp [Op.operands]) h1
  have h1 := Int.tmod_lt_of_pos a hm
  have h2 := Int.lt_tmod_of_pos a hm
  have hz : ¬ m = 0 := by omega
  have hw : IntKind.i64.wrap r = r := IntWalk.i64_in _ (by omega)
  obtain ⟨dst, op, type, pos, after, guard⟩ := o
  dsimp only at ho
  subst ho
  refine .inl ?_
  simp only [execOp, e0, e1]
  go_simp
theorem ov_inc {s : Tmp} {a : Int} {ty : TypeId} (ho : o.op = .binOp .add 3 (.tmp s) (.const (.int .i64 1)) ty) (h0 : vals.lookup s = some (.int .i64 a)) (ha : 0 ≤ a) (hb : a ≤ 1000000) : OpVal Tryd.prog o vals w (.int .i64 (a + 1)) := fun b' W hg hr => by
  have e0 := hr s _ (by rw [ho]; simp [Op.operands]) h0
  have hw : IntKind.i64.wrap (a + 1) = a + 1 := IntWalk.i64_in _ (by omega)
  obtain ⟨dst, op, type, pos, after, guard⟩ := o
  dsimp only at ho
  subst ho
  refine .inl ?_
  simp only [execOp, e0]
  go_simp
end

set_option maxRecDepth 100000 in
set_option maxHeartbeats 8000000 in
theorem uequals_any (xs : List Nd) (A : Option Addr) (c : Nat) (a0 o0 a1 o1 d : Int) (w : World) (hL : TabL w) (hX : TblC w (.slice A xs.length c) xs) :
    Calls Tryd.prog 3 #[.slice A xs.length c, .agg #[.int .i64 a0, .int .i64 o0, .int .i64 a1, .int .i64 o1], .int .i64 d] w fun e w' => e = .returned (.bool true) ∧ w.grownBy w' none := by
  have HL := Lib.hid hL
  have HT := Lib.hid hX
  obtain ⟨zs, hzs⟩ : ∃ zs, smallL xs 24 = zs := ⟨_, rfl⟩
  have hzl : zs.length ≤ 24 := by rw [← hzs]; exact small_len xs 24
  have HZS := Lib.hid hzs
  obtain ⟨d40, hd40⟩ : ∃ r, Int.tmod d 40 = r := ⟨_, rfl⟩
  have HD40 := Lib.hid hd40
  obtain ⟨p0, hp0⟩ : ∃ p, Int.tmod o0 1000 = p := ⟨_, rfl⟩
  obtain ⟨p1, hp1⟩ : ∃ p, Int.tmod o1 1000 = p := ⟨_, rfl⟩
  have HP1 := Lib.hid hp1
  clear hL hX hzs hd40 hp1
  go_enter Tryd.func3, Tryd.ntmps3
  go_upto_region 1 with fail
  generalize hWa : World.alloc w _ = Wa
  have HBX : Hid (Blk Wa w.heap.size 25 #[.int .i64 a0, .int .i64 o0, .int .i64 a1, .int .i64 o1]) := Lib.hid (by rw [← hWa]; exact Blk.new _ _ _)
  have HGa : Hid (w.grownBy Wa none) := Lib.hid (by rw [← hWa]; exact only_alloc (only_refl _ _) _)
  revert HBX
  generalize w.heap.size = Bx
  intro HBX
  clear hWa
  go_upto_region 2 with (first
    | (go_at_call 7; go_must (refine (small_any xs A c 24 (by decide) _ (HT.out.keep (.grown HGa.out))).mono ?_; rintro en W1 ⟨⟨v, ns, rfl, hot, hns⟩, hg1⟩; have htb := hot.tbl; rw [hns, HZS.out] at htb; have HT1 := Lib.hid htb; have HG1 := Lib.hid (only_trans HGa.out hg1); have HBX1 := Lib.hid (HBX.out.kept hg1); obtain ⟨A1, c1, rfl, _⟩ := htb; clear hot hns hg1))
    | fail)
  clear HBX HGa
  obtain ⟨n, hn⟩ : ∃ n, zs.length = n := ⟨_, rfl⟩
  have HN := Lib.hid hn
  have hn24 : n ≤ 24 := by omega
  have HZL : Hid (zs.length ≤ 1000) := Lib.hid (by omega)
  rw [hn]
  rw [hn] at HT1
  clear hn hzl
  go_cut [7, 8] from 14 to 17 (fun u v wx => BoxesB W1 24 (edCells (a0, o0)) (edCells (a1, o1)) u v wx)
  case first =>
    have x0 := HBX1.out.cell 0
    have x1 := HBX1.out.cell 1
    have x2 := HBX1.out.cell 2
    have x3 := HBX1.out.cell 3
    refine region_two (by kernel_rfl) (by kernel_rfl) [14, 15, 16, 17, 7, 8] (by kernel_rfl) (by kernel_rfl) (by decide)
      [(4, .pointer (some ⟨Bx, 0, none⟩)), (14, .pointer (some ⟨Bx, 0, none⟩)), (15, edV (a0, o0)), (16, .pointer (some ⟨Bx, 2, none⟩)), (17, edV (a1, o1))]
      ⟨7, 24, edCells (0, 0), edCells (a0, o0), 15, 4, 6⟩ ⟨8, 24, edCells (0, 0), edCells (a1, o1), 17, 5, 7⟩
      ?h0 (boxed_type _ _ _ _ _) (boxed_type _ _ _ _ _) rfl rfl rfl rfl (by dsimp only; decide) (by kernel_rfl) (by kernel_rfl) (by kernel_rfl) (by kernel_rfl) ?hops ?hQ
    case h0 =>
      intro p hp hn
      simp only [List.mem_cons, List.not_mem_nil, or_false] at hp
      rcases hp with rfl | rfl | rfl | rfl | rfl
      all_goals first | rfl | exact absurd (by dsimp only; decide) hn
    case hops =>
      exact ⟨.val 14 _ rfl rfl rfl (ov_two0 rfl rfl), .val 15 _ rfl rfl rfl (ov_ld_typeA rfl rfl x0 x1), .val 16 _ rfl rfl rfl (ov_two1 rfl rfl), .val 17 _ rfl rfl rfl (ov_ld_typeA rfl rfl x2 x3),
        .al1 rfl rfl rfl, .al2 rfl rfl rfl, .st1 rfl rfl rfl, .st2 rfl rfl rfl, trivial⟩
    case hQ =>
      intro vs W Cx Cy hg e1 e2 hne h1 h2 k1 k2
      have HZ : Hid (BoxesB W1 24 (edCells (a0, o0)) (edCells (a1, o1)) (vs 7) (vs 8) W) := Lib.hid ⟨Cx, Cy, e1, e2, hne, k1, k2, hg⟩
      clear hg e1 e2 hne h1 h2 k1 k2
      simp only [List.foldl_cons, List.foldl_nil, List.setIfInBounds_toArray, List.set_cons_zero, List.set_cons_succ]
      go_wp2_with fail
      go_meet
      exact HZ.out
  case rest =>
    obtain ⟨Ba, Bb, rfl, rfl, _, kx, ky, hg2⟩ := hcut
    generalize wc = W2 at *
    have HBa := Lib.hid kx
    have HBb := Lib.hid ky
    have HG2 := Lib.hid (only_trans HG1.out hg2)
    have HT2 := Lib.hid (HT1.out.keep (.grown hg2))
    clear kx ky hg2 HG1 HT1 HBX1
    go_upto_region 3 with fail
    go_cut [28] from 18 to 28 (fun u wx => u = .bool false ∧ W2.grownBy wx none)
    case first =>
      obtain ⟨r, hr⟩ : ∃ r, equalA zs (a0, o0) (a1, o1) d = r := ⟨_, rfl⟩
      have HC1 : Hid (∀ W, W2.grownBy W none → Calls Tryd.prog 8 #[.slice A1 n c1, edV (a0, o0), edV (a1, o1), .int .i64 d] W fun e w' => e = .returned (.bool r) ∧ W.grownBy w' none) := Lib.hid fun W hg => by
        have h := uequal_any zs (.slice A1 n c1) (a0, o0) (a1, o1) d W (HT2.out.keep (.grown hg)) HZL.out
        rw [hr] at h
        exact h
      have HC2 : Hid (∀ W, W2.grownBy W none → Calls Tryd.prog 9 #[.slice A1 n c1, edV (a0, o0), edV (a1, o1), .int .i64 d] W fun e w' => e = .returned (.bool r) ∧ W.grownBy w' none) := Lib.hid fun W hg => by
        have h := requal_any zs (.slice A1 n c1) (a0, o0) (a1, o1) d W (HT2.out.keep (.grown hg)) HZL.out
        rw [hr] at h
        exact h
      clear hr
      refine region_known (by kernel_rfl)
        [(18, .slice A1 n c1), (19, edV (a0, o0)), (20, edV (a1, o1)), (21, .int .i64 d), (22, .bool r), (23, .slice A1 n c1), (24, edV (a0, o0)), (25, edV (a1, o1)), (26, .int .i64 d), (27, .bool r), (28, .bool false)]
        [(0, .slice A1 n c1), (2, .int .i64 d), (7, .pointer (some ⟨Ba, 0, none⟩)), (8, .pointer (some ⟨Bb, 0, none⟩))]
        (by kernel_rfl) [18, 19, 20, 21, 22, 23, 24, 25, 26, 27, 28] (by kernel_rfl) (by kernel_rfl) (by decide) (by kernel_rfl) ⟨rfl, rfl, rfl, rfl, trivial⟩ ?hops ?hQ
      case hops =>
        exact ⟨og (t := 18) (c := .slice A1 n c1) rfl (by kernel_rfl) (ov_move rfl (by kernel_rfl)),
          og (t := 19) (c := edV (a0, o0)) rfl (by kernel_rfl) (ov_load_type rfl (by kernel_rfl) HBa.out),
          og (t := 20) (c := edV (a1, o1)) rfl (by kernel_rfl) (ov_load_type rfl (by kernel_rfl) HBb.out),
          og (t := 21) (c := .int .i64 d) rfl (by kernel_rfl) (ov_move rfl (by kernel_rfl)),
          og (t := 22) (c := .bool r) rfl (by kernel_rfl) (ov_call4 rfl (by kernel_rfl) (by kernel_rfl) (by kernel_rfl) (by kernel_rfl) (fun W => by kernel_rfl) HC1.out),
          og (t := 23) (c := .slice A1 n c1) rfl (by kernel_rfl) (ov_move rfl (by kernel_rfl)),
          og (t := 24) (c := edV (a0, o0)) rfl (by kernel_rfl) (ov_load_type rfl (by kernel_rfl) HBa.out),
          og (t := 25) (c := edV (a1, o1)) rfl (by kernel_rfl) (ov_load_type rfl (by kernel_rfl) HBb.out),
          og (t := 26) (c := .int .i64 d) rfl (by kernel_rfl) (ov_move rfl (by kernel_rfl)),
          og (t := 27) (c := .bool r) rfl (by kernel_rfl) (ov_call4 rfl (by kernel_rfl) (by kernel_rfl) (by kernel_rfl) (by kernel_rfl) (fun W => by kernel_rfl) HC2.out),
          og (t := 28) (c := .bool false) rfl (by kernel_rfl) (ov_neq_bool (a := r) (c := r) rfl (by kernel_rfl) (by kernel_rfl) (by cases r <;> rfl)),
          trivial⟩
      case hQ =>
        intro vs W hg hv
        have hv28 := hv 28 (.bool false) (by kernel_rfl) (by decide)
        clear hv
        have HV28 := Lib.hid hv28
        have HGW := Lib.hid hg
        clear hg hv28
        simp only [List.foldl_cons, List.foldl_nil, List.setIfInBounds_toArray, List.set_cons_zero, List.set_cons_succ]
        go_wp2_with fail
        go_meet
        exact ⟨HV28.out, HGW.out⟩
    case rest =>
      obtain ⟨rfl, hg3⟩ := hcut
      generalize wc = W3 at *
      have HBa3 := Lib.hid (HBa.out.kept hg3)
      have HBb3 := Lib.hid (HBb.out.kept hg3)
      have HG3 := Lib.hid (only_trans HG2.out hg3)
      have HT3 := Lib.hid (HT2.out.keep (.grown hg3))
      clear HBa HBb HG2 HT2 hg3
      go_wp2_with fail
      go_loopw [9] (fun v wr => ∃ i : Nat, i ≤ n ∧ i ≤ 6 ∧ v = .int .i64 (i : Int) ∧ W3.grownBy wr none) (fun v _ => 6 - (intOf v).toNat)
      case atStart => exact ⟨0, Nat.zero_le _, Nat.zero_le _, rfl, only_refl _ _⟩
      case round =>
        obtain ⟨i, hin, hi6, rfl, hg4⟩ := hrel
        by_cases hlt : i < n ∧ i < 6
        · have h0 : (0 : Int) ≤ (i : Int) := by omega
          have h1 : (i : Int) < (n : Int) := by omega
          have h2 : (i : Int) < 6 := by omega
          have HBa4 := Lib.hid (HBa3.out.kept hg4)
          have HBb4 := Lib.hid (HBb3.out.kept hg4)
          have HG4 := Lib.hid hg4
          have y1 : wr.cell? ⟨Ba, 1, none⟩ = some (.int .i64 o0) := HBa4.out.cell 1
          clear hg4
          go_upto_region 9 with fail
          generalize hW4 : World.alloc wr _ = W4
          have HX4 : Hid (Blk W4 wr.heap.size 24 (edCells ((i : Int), p0))) := Lib.hid (by rw [← hW4]; exact Blk.new _ _ _)
          have HG5 : Hid (W3.grownBy W4 none) := Lib.hid (by rw [← hW4]; exact only_alloc HG4.out _)
          have HBb5 : Hid (Blk W4 Bb 24 (edCells (a1, o1))) := Lib.hid (by rw [← hW4]; exact HBb4.out.alloc _)
          revert HX4
          generalize wr.heap.size = Bi
          intro HX4
          clear hW4 y1 HBa4 HBb4 HG4
          obtain ⟨m, hm⟩ : ∃ m : Int, Int.tmod ((i : Int) + 1) (n : Int) = m := ⟨_, rfl⟩
          have HM := Lib.hid hm
          clear hm
          have hn0 : (0 : Int) < (n : Int) := by omega
          go_cut [11] from 44 to 52 (fun u wx => ∃ By, u = .pointer (some ⟨By, 0, none⟩) ∧ Blk wx By 24 (edCells (m, p1)) ∧ W4.grownBy wx none)
          case first =>
            have z1 : W4.cell? ⟨Bb, 1, none⟩ = some (.int .i64 o1) := HBb5.out.cell 1
            refine region_one (by kernel_rfl) (by kernel_rfl) [44, 45, 46, 47, 48, 49, 50, 51, 52, 11] (by kernel_rfl) (by kernel_rfl) (by decide)
              [(0, .slice A1 n c1), (8, .pointer (some ⟨Bb, 0, none⟩)), (9, .int .i64 (i : Int)), (44, .int .i64 (i : Int)), (45, .int .i64 ((i : Int) + 1)), (46, .slice A1 n c1), (47, .int .i64 (n : Int)), (48, .int .i64 m), (49, .pointer (some ⟨Bb, 1, none⟩)), (50, .int .i64 o1), (51, .int .i64 p1), (52, edV (m, p1))]
              ⟨11, 24, edCells (0, 0), edCells (m, p1), 52, 9, 10⟩
              ?h0 (boxed_type _ _ _ _ _) rfl rfl (by dsimp only; decide) (by kernel_rfl) (by kernel_rfl) ?hops ?hQ
            case h0 =>
              intro p hp hn
              simp only [List.mem_cons, List.not_mem_nil, or_false] at hp
              rcases hp with rfl | rfl | rfl | rfl | rfl | rfl | rfl | rfl | rfl | rfl | rfl | rfl
              all_goals first | rfl | exact absurd (by dsimp only; decide) hn
            case hops =>
              exact ⟨.val 44 _ rfl rfl rfl (ov_move rfl rfl), .val 45 _ rfl rfl rfl (ov_inc rfl rfl h0 (by omega)), .val 46 _ rfl rfl rfl (ov_move rfl rfl), .val 47 _ rfl rfl rfl (ov_len_nodes (A := A1) (c := c1) rfl rfl),
                .val 48 _ rfl rfl rfl (ov_rem_n rfl rfl rfl hn0 (by omega) HM.out), .val 49 _ rfl rfl rfl (ov_fld_Type1 (off := 0) rfl rfl), .val 50 _ rfl rfl rfl (ov_ld_int rfl rfl z1), .val 51 _ rfl rfl rfl (ov_rem_c rfl rfl (by decide) (by decide) HP1.out),
                .val 52 _ rfl rfl rfl (ov_build_type rfl rfl rfl), .al rfl rfl rfl, .st rfl rfl rfl, trivial⟩
            case hQ =>
              intro vs W Cx hg e1 hne k1 hv
              have HZ : Hid (∃ By, vs 11 = .pointer (some ⟨By, 0, none⟩) ∧ Blk W By 24 (edCells (m, p1)) ∧ W4.grownBy W none) := Lib.hid ⟨Cx, e1, k1, hg⟩
              clear hg e1 hne k1 hv
              simp only [List.foldl_cons, List.foldl_nil, List.setIfInBounds_toArray, List.set_cons_zero, List.set_cons_succ]
              go_wp2_with fail
              go_meet
              exact HZ.out
          case rest =>
            obtain ⟨By, rfl, ky, hg5⟩ := hcut
            generalize wc = W5 at *
            have HBa := Lib.hid (HX4.out.kept hg5)
            have HBb := Lib.hid ky
            have HG6 := Lib.hid (only_trans HG5.out hg5)
            clear ky hg5 HX4 HBb5 HG5
            go_upto_region 10 with fail
            go_cut [65] from 53 to 65 (fun u wx => u = .bool false ∧ W5.grownBy wx none)
            case first =>
              obtain ⟨r, hr⟩ : ∃ r, equalA zs ((i : Int), p0) (m, p1) d40 = r := ⟨_, rfl⟩
              have HC1 : Hid (∀ W, W5.grownBy W none → Calls Tryd.prog 8 #[.slice A1 n c1, edV ((i : Int), p0), edV (m, p1), .int .i64 d40] W fun e w' => e = .returned (.bool r) ∧ W.grownBy w' none) := Lib.hid fun W hg => by
                have h := uequal_any zs (.slice A1 n c1) ((i : Int), p0) (m, p1) d40 W (HT3.out.keep (.grown (only_trans HG6.out hg))) HZL.out
                rw [hr] at h
                exact h
              have HC2 : Hid (∀ W, W5.grownBy W none → Calls Tryd.prog 9 #[.slice A1 n c1, edV ((i : Int), p0), edV (m, p1), .int .i64 d40] W fun e w' => e = .returned (.bool r) ∧ W.grownBy w' none) := Lib.hid fun W hg => by
                have h := requal_any zs (.slice A1 n c1) ((i : Int), p0) (m, p1) d40 W (HT3.out.keep (.grown (only_trans HG6.out hg))) HZL.out
                rw [hr] at h
                exact h
              clear hr
              refine region_known (by kernel_rfl)
                [(53, .slice A1 n c1), (54, edV ((i : Int), p0)), (55, edV (m, p1)), (56, .int .i64 d), (57, .int .i64 d40), (58, .bool r), (59, .slice A1 n c1), (60, edV ((i : Int), p0)), (61, edV (m, p1)), (62, .int .i64 d), (63, .int .i64 d40), (64, .bool r), (65, .bool false)]
                [(0, .slice A1 n c1), (2, .int .i64 d), (10, .pointer (some ⟨Bi, 0, none⟩)), (11, .pointer (some ⟨By, 0, none⟩))]
                (by kernel_rfl) [53, 54, 55, 56, 57, 58, 59, 60, 61, 62, 63, 64, 65] (by kernel_rfl) (by kernel_rfl) (by decide) (by kernel_rfl) ⟨rfl, rfl, rfl, rfl, trivial⟩ ?hops ?hQ
              case hops =>
                exact ⟨og (t := 53) (c := .slice A1 n c1) rfl (by kernel_rfl) (ov_move rfl (by kernel_rfl)),
                  og (t := 54) (c := edV ((i : Int), p0)) rfl (by kernel_rfl) (ov_load_type rfl (by kernel_rfl) HBa.out),
                  og (t := 55) (c := edV (m, p1)) rfl (by kernel_rfl) (ov_load_type rfl (by kernel_rfl) HBb.out),
                  og (t := 56) (c := .int .i64 d) rfl (by kernel_rfl) (ov_move rfl (by kernel_rfl)),
                  og (t := 57) (c := .int .i64 d40) rfl (by kernel_rfl) (ov_rem_c (a := d) rfl (by kernel_rfl) (by decide) (by decide) HD40.out),
                  og (t := 58) (c := .bool r) rfl (by kernel_rfl) (ov_call4 rfl (by kernel_rfl) (by kernel_rfl) (by kernel_rfl) (by kernel_rfl) (fun W => by kernel_rfl) HC1.out),
                  og (t := 59) (c := .slice A1 n c1) rfl (by kernel_rfl) (ov_move rfl (by kernel_rfl)),
                  og (t := 60) (c := edV ((i : Int), p0)) rfl (by kernel_rfl) (ov_load_type rfl (by kernel_rfl) HBa.out),
                  og (t := 61) (c := edV (m, p1)) rfl (by kernel_rfl) (ov_load_type rfl (by kernel_rfl) HBb.out),
                  og (t := 62) (c := .int .i64 d) rfl (by kernel_rfl) (ov_move rfl (by kernel_rfl)),
                  og (t := 63) (c := .int .i64 d40) rfl (by kernel_rfl) (ov_rem_c (a := d) rfl (by kernel_rfl) (by decide) (by decide) HD40.out),
                  og (t := 64) (c := .bool r) rfl (by kernel_rfl) (ov_call4 rfl (by kernel_rfl) (by kernel_rfl) (by kernel_rfl) (by kernel_rfl) (fun W => by kernel_rfl) HC2.out),
                  og (t := 65) (c := .bool false) rfl (by kernel_rfl) (ov_neq_bool (a := r) (c := r) rfl (by kernel_rfl) (by kernel_rfl) (by cases r <;> rfl)),
                  trivial⟩
              case hQ =>
                intro vs W hg hv
                have hv65 := hv 65 (.bool false) (by kernel_rfl) (by decide)
                clear hv
                have HV65 := Lib.hid hv65
                have HGW := Lib.hid hg
                clear hg hv65
                simp only [List.foldl_cons, List.foldl_nil, List.setIfInBounds_toArray, List.set_cons_zero, List.set_cons_succ]
                go_wp2_with fail
                go_meet
                exact ⟨HV65.out, HGW.out⟩
            case rest =>
              obtain ⟨rfl, hg6⟩ := hcut
              have HG7 := Lib.hid (only_trans HG6.out hg6)
              clear hg6
              go_wp2_with fail
              go_roundw
              case rel => exact ⟨i + 1, by omega, by omega, by go_num, HG7.out⟩
              case measure => simp [intOf]; omega
        · have HG4 := Lib.hid (only_trans HG3.out hg4)
          clear hg4
          by_cases h1 : i < n
          · have h1' : (i : Int) < (n : Int) := by omega
            have h2 : ¬ (i : Int) < 6 := by omega
            have h2' : (6 : Int) ≤ (i : Int) := by omega
            clear hlt h1
            go_wp2_with (first
              | (go_at_call 10; go_must (refine (uworks_of ucon itoa_12 itoa_13 _ (tabL_kept HL.out HG4.out)).mono ?_; rintro en W0 ⟨rfl, hg0⟩; have HG0 := Lib.hid (only_trans HG4.out hg0); clear hg0))
              | fail)
            go_ret
            exact ⟨rfl, HG0.out⟩
          · have h1' : ¬ (i : Int) < (n : Int) := by omega
            have h2' : (n : Int) ≤ (i : Int) := by omega
            clear hlt h1
            go_wp2_with (first
              | (go_at_call 10; go_must (refine (uworks_of ucon itoa_12 itoa_13 _ (tabL_kept HL.out HG4.out)).mono ?_; rintro en W0 ⟨rfl, hg0⟩; have HG0 := Lib.hid (only_trans HG4.out hg0); clear hg0))
              | fail)
            go_ret
            exact ⟨rfl, HG0.out⟩
end Go.Proofs.YtoklaajiajilhaaDoor

/- GraphLeads: the walk. -/
import Derived.Test.YthjkgjkiikomdaaGShapes
import Derived.Test.YthjkgjkiikomdaaGOwn
import Derived.Deep.CutBlock
import Derived.Deep.CutRange
import Derived.Deep.RegionHeld3
import Derived.Deep.RegionWith
namespace Go.Proofs.Ythjkgjkiikomdaa
open Go.RowKit Go.Shelf

/-- What stands as the table of aliases is made. -/
def LO (w : World) (t : Ed) (k : Nat) (v : Value) (W : World) : Prop := ∃ ns, ns.length = k ∧ OT (w.heap.size + 1) W v ns ∧ w.grownBy W none ∧ Blk W w.heap.size 30 (edCells t)

/-- The node that is to be appended, in its box. -/
def BX (base : Nat) (wr W : World) : Prop := ∃ nd e, EdgesO base W e nd.next ∧ Blk W wr.heap.size 35 (ndCells nd e) ∧ wr.grownBy W none
theorem bx_alias (base : Nat) (wr : World) (a b : Int) : BX base wr (((wr.alloc (.cells #[.int .i64 5, .int .i64 0, .bool false, .int .i64 0, .int .i64 0, .slice (some ⟨wr.heap.size + 1, 0, none⟩) 1 1] 35)).alloc (.cells #[.int .i64 a, .int .i64 b] 32)).drew) :=
  ⟨⟨5, 0, false, (0, 0), [(a, b)]⟩, _, EdgesO.one (Blk.drew (blk_at (by simp) _ (edCells (a, b)))), Blk.drew ((Blk.new _ _ _).alloc _), only_drew (only_alloc (only_alloc (only_refl _ _) _) _)⟩
theorem lo_next {w wr wc W' : World} {t : Ed} {k : Nat} {v v' : Value} {ns : List (Nd × Value)} {p : Nd × Value} {o : Obj} (hns : ns.length = k) (hot : OT (w.heap.size + 1) wr v ns) (hg : w.grownBy wr none) (hb : Blk wr w.heap.size 30 (edCells t)) (hc : wr.grownBy wc none)
    (hot' : OT (w.heap.size + 1) W' v' (ns ++ [p])) (hgr : (wc.alloc o).grownBy W' v.ownBlock) : LO w t (k + 1) v' W' := by
  refine ⟨ns ++ [p], by simp [hns], hot', grown_own (only_alloc (only_trans hg hc) o) (fun g e => by have := (own_row hot.row g e).1; omega) hgr, ((hb.kept hc).alloc o).grown hgr (fun e => ?_)⟩
  have := (own_row hot.row _ e.symm).1
  omega
def SomeB (next : List Ed) (c : Value) : Prop := ∃ b : Bool, c = .bool b ∧ (b = true → 0 < next.length)

/-- What stands behind the making: both tables, a type's box. -/
structure GS (w : World) (ys : List Nd) (v1 v2 : Value) (zs : List Nd) (Bt : Nat) (t : Ed) (W : World) : Prop where
  step : w.grownBy W none
  nodes : Tbl W v1 ys
  own : Tbl W v2 zs
  box : Blk W Bt 30 (edCells t)
section
variable {w W W' : World} {ys zs : List Nd} {v1 v2 : Value} {Bt : Nat} {t : Ed}
theorem GS.none_ (h : GS w ys v1 v2 zs Bt t W) (hg : W.grownBy W' none) : GS w ys v1 v2 zs Bt t W' := ⟨only_trans h.step hg, h.nodes.keep (.grown hg), h.own.keep (.grown hg), h.box.kept hg⟩
theorem GS.drew (h : GS w ys v1 v2 zs Bt t W) : GS w ys v1 v2 zs Bt t W.drew := h.none_ (only_drew (only_refl _ _))
theorem GS.start {Bt' : Nat} {t' : Ed} (h : GS w ys v1 v2 zs Bt t W) (hg : W.grownBy W' none) (hb : Blk W' Bt' 30 (edCells t')) : GS W ys v1 v2 zs Bt' t' W' := ⟨hg, h.nodes.keep (.grown hg), h.own.keep (.grown hg), hb⟩
theorem refRes_any (xs : List Nd) (v : Value) (t : Ed) (w : World) (hT : Tbl w v xs) (hxs : xs.length ≤ 1000000) :
    Calls Try.prog 12 #[v, edV t] w fun e w' => e = .returned (edV (resolveL xs t)) ∧ w.grownBy w' none := by
  have := refResolve_any xs v t w hT hxs
  rwa [pick_more] at this
theorem GS.cells (h : GS w ys v1 v2 zs Bt t W) : W.cell? ⟨Bt, 0, none⟩ = some (.int .i64 t.1) ∧ W.cell? ⟨Bt, 1, none⟩ = some (.int .i64 t.2) := ⟨h.box.cell 0, h.box.cell 1⟩
end

set_option maxRecDepth 100000 in
set_option maxHeartbeats 4000000 in
theorem gleads_any (xs : List Nd) (A : Option Addr) (c : Nat) (bits : Int) (_hb0 : 0 ≤ bits) (_hb1 : bits < 18446744073709551616) (t : Ed) (w : World) (hT : Tbl w (.slice A xs.length c) xs) (hc : xs.length ≤ c) :
    Calls Try.prog 4 #[.slice A xs.length c, .int .u64 bits, edV t] w fun e w' => e = .returned (.bool true) ∧ w.grownBy w' none := by
  obtain ⟨ys, hys⟩ : ∃ ys, xs.take 70 = ys := ⟨_, rfl⟩
  have hyl : ys.length = min 70 xs.length := by rw [← hys]; exact List.length_take
  have HT : Hid (Tbl w (.slice A ys.length c) ys) := by
    have := hT.take (m := ys.length) (by omega)
    rwa [hyl, ← List.take_eq_take_min, hys, ← hyl] at this
  have h7 : ys.length ≤ 70 := by omega
  have HL : Hid (ys.length ≤ 140737488351232 ∧ ys.length ≤ 1000000) := ⟨by omega, by omega⟩
  clear hT hys
  go_enter Try.func4, Try.ntmps4
  go_upto_region 1 with fail
  go_cut [0] from 16 to 20 (fun s wx => s = .slice A ys.length c ∧ wx = w.alloc (.cells #[.int .i64 t.1, .int .i64 t.2] 30))
  case first =>
    by_cases h70 : xs.length ≤ 70
    · have h70' : (xs.length : Int) ≤ 70 := by omega
      have HQ : Hid (ys.length = xs.length) := show _ = _ by omega
      clear hyl
      go_wp2_with fail
      go_meet
      exact ⟨by rw [HQ.out], rfl⟩
    · have h70' : (70 : Int) < (xs.length : Int) := by omega
      have hc7 : (70 : Int) ≤ (c : Int) := by omega
      have HQ : Hid (ys.length = 70) := show _ = _ by omega
      clear hyl
      go_wp2_with fail
      go_meet
      exact ⟨by rw [HQ.out], rfl⟩
  case rest =>
    obtain ⟨rfl, rfl⟩ := hcut
    have H0 : Hid (LO w t 0 (.slice none 0 0) (w.alloc (.cells #[.int .i64 t.1, .int .i64 t.2] 30))) :=
      ⟨[], rfl, OT.start _ _, only_alloc (only_refl _ _) _, Blk.new w _ _⟩
    clear hyl hc
    go_wp2_with fail
    go_loopw [7, 8] (fun v i wr => ∃ k : Nat, k ≤ ys.length ∧ i = .int .i64 (k : Int) ∧ LO w t k v wr) (fun _ i _ => ys.length - (intOf i).toNat)
    case atStart => exact ⟨0, Nat.zero_le _, rfl, H0.out⟩
    case round =>
      clear H0
      obtain ⟨k, hk, rfl, ns, hns, hot, hg, hbox⟩ := hrel
      have HO := Lib.hid hot
      have HG := Lib.hid hg
      have HB := Lib.hid hbox
      have HNS := Lib.hid hns
      clear hot hg hbox hns
      by_cases hlt : k < ys.length
      · have hk0 : (0 : Int) ≤ (k : Int) := by omega
        have hk1 : (k : Int) < (ys.length : Int) := by omega
        obtain ⟨y, hy⟩ : ∃ y, ys[k]? = some y := ⟨_, List.getElem?_eq_getElem hlt⟩
        obtain ⟨A', c', hA, hcl⟩ := HT.out
        obtain ⟨bb, off, hAb, hcl2⟩ := hcl (by intro e0; rw [e0] at hlt; simp at hlt)
        obtain ⟨v', hE, m0, m1, m2, m3, m4, m5⟩ := hcl2 k y hy
        obtain ⟨rfl, rfl⟩ : A = A' ∧ c = c' := by simpa using hA
        subst hAb
        clear hA hcl hcl2
        obtain ⟨kind, prio, chan, ⟨ea, es⟩, next⟩ := y
        dsimp only at m0 m1 m2 m3 m4 m5 hE
        have hE3 := hE.keep (Keeps.grown HG.out)
        have HE := Lib.hid ((hE.old (base := w.heap.size + 1) (Nat.le_succ _)).kept HG.out)
        obtain ⟨A2, c2, rfl, hl3, hE2⟩ := hE3
        have HE2 := Lib.hid hE2
        have n0 := Keeps.grown HG.out _ _ m0
        have n1 := Keeps.grown HG.out _ _ m1
        have n2 := Keeps.grown HG.out _ _ m2
        have n3 := Keeps.grown HG.out _ _ m3
        have n4 := Keeps.grown HG.out _ _ m4
        have n5 := Keeps.grown HG.out _ _ m5
        clear hE hE2 hy m0 m1 m2 m3 m4 m5
        go_upto_region 7 with fail
        go_cut [42] from 31 to 41 (fun cv wx => SomeB next cv ∧ wx = wr.alloc (.cells #[.int .i64 kind, .int .i64 prio, .bool chan, .int .i64 ea, .int .i64 es, .slice A2 next.length c2] 35))
        case first =>
          go_wp2_with fail
          all_goals go_meet
          all_goals (first | exact ⟨⟨false, rfl, fun h => by cases h⟩, rfl⟩ | exact ⟨⟨_, rfl, fun h => of_decide_eq_true h⟩, rfl⟩)
        case rest =>
          obtain ⟨⟨b, rfl, hbl⟩, rfl⟩ := hcut
          have HBL := Lib.hid hbl
          clear hbl
          go_upto_if 42 with fail
          go_cut [9] from 43 to 65 (fun p wx => p = .pointer (some ⟨wr.heap.size, 0, none⟩) ∧ BX (w.heap.size + 1) wr wx)
          case first =>
            cases b
            · go_wp2_with fail
              go_meet
              exact ⟨rfl, ⟨kind, prio, chan, (ea, es), next⟩, _, HE.out.kept (only_alloc (only_refl _ _) _), Blk.new _ _ _, only_alloc (only_refl _ _) _⟩
            · have hnl := HBL.out rfl
              obtain ⟨⟨a0, s0⟩, he⟩ : ∃ e, next[0]? = some e := ⟨_, List.getElem?_eq_getElem hnl⟩
              obtain ⟨b2, off2, rfl, hce⟩ := HE2.out (by intro e0; rw [e0] at hnl; simp at hnl)
              obtain ⟨e0, e1⟩ := hce 0 _ he
              simp only [Nat.zero_mul, Nat.add_zero] at e0 e1
              have hb2 : b2 < wr.heap.size := cell_lt e0
              have hnl' : (0 : Int) < (next.length : Int) := by omega
              have hyn : ¬ ys = [] := by intro e; rw [e] at hlt; simp at hlt
              have hyl0 : ((ys.length : Int) == 0) = false := beq_eq_false_iff_ne.2 (by omega)
              have hyl1 : (ys.length : Int) ≤ 70 := by omega
              clear hce he
              go_wp2_with fail
              go_region_with (fail)
              all_goals go_wp2
              all_goals go_meet
              all_goals exact ⟨rfl, bx_alias _ _ _ _⟩
          case rest =>
            obtain ⟨rfl, nd, e, hEe, hblk, hgw⟩ := hcut
            have hEe2 := hEe
            obtain ⟨A3, c3, rfl, _⟩ := hEe2
            obtain ⟨p0, p1, p2, p3, p4, p5⟩ := nd_cells hblk
            have HEe := Lib.hid hEe
            have HGW := Lib.hid hgw
            have HN1 : Hid (ns.length ≤ 1000) := show _ ≤ _ by have := HNS.out; omega
            have HB1 : Hid (w.heap.size + 1 ≤ (wc.alloc (.cells (ndCells nd (.slice A3 nd.next.length c3)) 35)).heap.size) := show _ ≤ _ by have := HB.out.lt; have := hgw.size; simp; omega
            clear hEe hblk hgw n0 n1 n2 n3 n4 n5
            go_wp2_with (at_builtin; refine wpList_append_node rfl (.tmp 66) (.tmp 68) rfl rfl rfl ((HO.out.kept HGW.out).kept (only_alloc (only_refl _ _) _)) (Blk.new _ _ _) (HEe.out.kept (only_alloc (only_refl _ _) _)) HN1.out HB1.out ?_; intro v2 W2 hot2 hgr2; have HOT2 := Lib.hid hot2; have HGR2 := Lib.hid hgr2; clear hot2 hgr2)
            go_roundw
            case rel => exact ⟨k + 1, by omega, by go_num, lo_next HNS.out HO.out HG.out HB.out HGW.out HOT2.out HGR2.out⟩
            case measure => simp [intOf]; omega
      · have hke : k = ys.length := by omega
        have hge : decide (k < ys.length) = false := decide_eq_false hlt
        have HGS : Hid (GS w ys (.slice A ys.length c) u7 (ns.map (·.1)) w.heap.size t wr) := ⟨HG.out, HT.out.keep (.grown HG.out), HO.out.tbl, HB.out⟩
        have HNL : Hid ((ns.map (·.1)).length ≤ 140737488351232 ∧ (ns.map (·.1)).length ≤ 1000000) := by rw [List.length_map, HNS.out, hke]; exact HL.out
        clear hlt hk hke HO HG HB HNS
        generalize ns.map (·.1) = zs at *
        go_wp2_with fail
        go_loopw [10] (fun i wr2 => ∃ j : Nat, j ≤ ys.length + 2 ∧ i = .int .i64 ((j : Int) - 1) ∧ GS w ys (.slice A ys.length c) u7 zs w.heap.size t wr2) (fun i _ => ys.length + 2 - (intOf i + 1).toNat)
        case atStart => exact ⟨0, by omega, rfl, HGS.out⟩
        case round =>
          clear HGS
          obtain ⟨wo, rfl⟩ : ∃ wo : World, wo = wr := ⟨_, rfl⟩
          obtain ⟨j, hj, rfl, hgs⟩ := hrel
          have hbt := hgs.box.lt
          have HGS := Lib.hid hgs
          have c1 := hgs.cells.2
          by_cases hlt : j ≤ ys.length + 1
          · have hj1 : (j : Int) - 1 ≤ (ys.length : Int) := by omega
            have hj0 : -1 ≤ (j : Int) - 1 := by omega
            have hj2 : (ys.length : Int) ≤ 70 := by omega
            generalize hi : (j : Int) - 1 = i at *
            have HI := Lib.hid hi
            clear hi hgs
            go_wp2_with fail
            generalize hW : wo.alloc (Obj.cells #[Value.int IntKind.i64 i, Value.int IntKind.i64 (t.2.tmod 1000)] 30) = W7 at *
            have s : GS wo ys (.slice A ys.length c) u7 zs wo.heap.size (i, t.2.tmod 1000) W7.drew := by rw [← hW]; exact (HGS.out.start (only_alloc (only_refl _ _) _) (Blk.new _ _ (edCells (i, t.2.tmod 1000)))).drew
            clear hW
            go_region_held3 (fun w' => w'.cell? ⟨wo.heap.size, 0, none⟩ = some (.int .i64 i) ∧ w'.cell? ⟨wo.heap.size, 1, none⟩ = some (.int .i64 (t.2.tmod 1000))) (exact s.cells) (first | (go_at_call 11; ((with_reducible refine (resolve_any zs u7 (i, t.2.tmod 1000) _ s.own HNL.out.1).mono ?_); rintro e W8 ⟨rfl, hs⟩); replace s := s.none_ hs; clear hs) | (go_at_call 11; ((with_reducible refine (resolve_any ys _ (i, t.2.tmod 1000) _ s.nodes HL.out.1).mono ?_); rintro e W8 ⟨rfl, hs⟩); replace s := s.none_ hs; clear hs) | (go_at_call 12; ((with_reducible refine (refRes_any zs u7 (i, t.2.tmod 1000) _ s.own HNL.out.2).mono ?_); rintro e W8 ⟨rfl, hs⟩); replace s := s.none_ hs; clear hs) | (go_at_call 12; ((with_reducible refine (refRes_any ys _ (i, t.2.tmod 1000) _ s.nodes HL.out.2).mono ?_); rintro e W8 ⟨rfl, hs⟩); replace s := s.none_ hs; clear hs))
            have HZ := Lib.hid (HGS.out.none_ s.step)
            clear s
            go_wp2
            go_roundw
            case rel => exact ⟨j + 1, by omega, by rw [show ((j + 1 : Nat) : Int) - 1 = i + 1 by have := HI.out; omega], HZ.out⟩
            case measure => have := HI.out; simp [intOf]; omega
          · have hge : (ys.length : Int) < (j : Int) - 1 := by omega
            generalize (j : Int) - 1 = i at *
            clear hj hlt c1
            have s := HGS.out
            clear HGS hgs
            go_wp2_with (first | (go_at_call 8; go_must (refine (check_any zs u7 _ s.own HNL.out.1).mono ?_; rintro e W8 ⟨rfl, hs⟩; replace s := s.none_ hs; clear hs)) | (go_at_call 9; go_must (refine (refCheck_any zs u7 _ s.own HNL.out.2).mono ?_; rintro e W8 ⟨rfl, hs⟩; replace s := s.none_ hs; clear hs)))
            rename_i W8
            replace s := s.drew
            go_region_held3 (fun w' => w'.cell? ⟨w.heap.size, 0, none⟩ = some (.int .i64 t.1) ∧ w'.cell? ⟨w.heap.size, 1, none⟩ = some (.int .i64 t.2)) (exact s.cells) (first | (go_at_call 11; ((with_reducible refine (resolve_any ys _ t _ s.nodes HL.out.1).mono ?_); rintro e W8 ⟨rfl, hs⟩); replace s := s.none_ hs; clear hs) | (go_at_call 12; ((with_reducible refine (refRes_any ys _ t _ s.nodes HL.out.2).mono ?_); rintro e W8 ⟨rfl, hs⟩); replace s := s.none_ hs; clear hs) | (go_at_call 10; ((with_reducible refine (works_any _).mono ?_); rintro e W8 ⟨rfl, hs⟩); replace s := s.none_ hs; clear hs))
            all_goals (try go_wp2)
            all_goals (go_ret; exact ⟨rfl, s.step⟩)
end Go.Proofs.Ythjkgjkiikomdaa

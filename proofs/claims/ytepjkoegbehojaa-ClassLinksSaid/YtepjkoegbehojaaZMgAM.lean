/- Texts joined for the claim's sake: DRef, DRTab, OFn, OEds. -/
import Derived.Test.YtepjkoegbehojaaZMgAJ
import Derived.Deep.QuietTactic
import Derived.BigQuiet
import Derived.Test.YtepjkoegbehojaaZMgAL
import Derived.Deep.CutBlock
import Derived.Deep.CutRange
import Derived.Test.YtepjkoegbehojaaZMgAI
import Derived.Deep.RegionHeld3
/- The document's own answers of layer 6: the dual kind, the mate, whether two nodes are the same; and the statements' own 'edges', 'opposite'. -/
namespace Go.Proofs.Ytepjkoegbehojaa
open Go.RowKit Go.Shelf

set_option maxHeartbeats 400000 in
theorem rkind_any (k : Int) (w : World) : Calls Try.prog 52 #[.int .i64 k] w fun e w' => e = .returned (.int .i64 (dualK k)) ∧ w = w' := by
  by_cases h1 : k = 1
  · subst h1
    go_enter Try.func52, Try.ntmps52
    go_wp2
    go_ret
    exact ⟨rfl, rfl⟩
  · by_cases h2 : k = 2
    · subst h2
      go_enter Try.func52, Try.ntmps52
      go_wp2
      go_ret
      exact ⟨rfl, rfl⟩
    · by_cases h3 : k = 3
      · subst h3
        go_enter Try.func52, Try.ntmps52
        go_wp2
        go_ret
        exact ⟨rfl, rfl⟩
      · by_cases h4 : k = 4
        · subst h4
          go_enter Try.func52, Try.ntmps52
          go_wp2
          go_ret
          exact ⟨rfl, rfl⟩
        · have hd : dualK k = k := by simp [dualK, h1, h2, h3, h4]
          rw [hd]
          clear hd
          go_enter Try.func52, Try.ntmps52
          go_wp2
          go_ret
          exact ⟨rfl, rfl⟩

end Go.Proofs.Ytepjkoegbehojaa

/- The document's own Table of layer 6. -/
namespace Go.Proofs.Ytepjkoegbehojaa
open Go.RowKit Go.Shelf

/-- A table that the call made. -/
def MadeT (w : World) (l : List Nd) (e : Ending) (w' : World) : Prop := (∃ u ns, e = .returned u ∧ OT w.heap.size w' u ns ∧ ns.map (·.1) = l) ∧ w.grownBy w' none
/-- What stands behind k rounds. -/
def RT (w : World) (xs : List Nd) (g n2 k : Nat) (W : World) : Prop := ∃ ns, ns.length = n2 ∧ (∀ j x, j < k → xs[j]? = some x → ∃ e1 e2, ns[j]? = some (x, e1) ∧ ns[xs.length + j]? = some (dualN xs.length x, e2)) ∧ OT w.heap.size W (.slice (some ⟨g, 0, none⟩) n2 n2) ns ∧ w.grownBy W none ∧ w.heap.size ≤ g ∧ g < W.heap.size

/-- Between two stores. -/
structure TS (w : World) (g n2 : Nat) (ns : List (Nd × Value)) (W : World) : Prop where
  len : ns.length = n2
  ot : OT w.heap.size W (.slice (some ⟨g, 0, none⟩) n2 n2) ns
  gr : w.grownBy W none
  gb : w.heap.size ≤ g
section
variable {w W : World} {g n2 k : Nat} {ns : List (Nd × Value)} {p : Nd × Value}
theorem TS.put6 (h : TS w g n2 ns W) (hk : ns[k]? = some p) (x : Nd) (e : Value) (hE : EdgesO w.heap.size W e x.next) :
    TS w g n2 (ns.set k (x, e)) ((((((W.setCell ⟨g, k * 6, none⟩ (.int .i64 x.kind)).setCell ⟨g, k * 6 + 1, none⟩ (.int .i64 x.prio)).setCell ⟨g, k * 6 + 2, none⟩ (.bool x.chan)).setCell ⟨g, k * 6 + 3, none⟩ (.int .i64 x.pay.1)).setCell ⟨g, k * 6 + 4, none⟩ (.int .i64 x.pay.2)).setCell ⟨g, k * 6 + 5, none⟩ e) ∧
    (∀ v es, EdgesO w.heap.size W v es → EdgesO w.heap.size ((((((W.setCell ⟨g, k * 6, none⟩ (.int .i64 x.kind)).setCell ⟨g, k * 6 + 1, none⟩ (.int .i64 x.prio)).setCell ⟨g, k * 6 + 2, none⟩ (.bool x.chan)).setCell ⟨g, k * 6 + 3, none⟩ (.int .i64 x.pay.1)).setCell ⟨g, k * 6 + 4, none⟩ (.int .i64 x.pay.2)).setCell ⟨g, k * 6 + 5, none⟩ e) v es) ∧
    g < (((((((W.setCell ⟨g, k * 6, none⟩ (.int .i64 x.kind)).setCell ⟨g, k * 6 + 1, none⟩ (.int .i64 x.prio)).setCell ⟨g, k * 6 + 2, none⟩ (.bool x.chan)).setCell ⟨g, k * 6 + 3, none⟩ (.int .i64 x.pay.1)).setCell ⟨g, k * 6 + 4, none⟩ (.int .i64 x.pay.2)).setCell ⟨g, k * 6 + 5, none⟩ e)).heap.size := by
  obtain ⟨h1, h2⟩ := h.ot.put6 h.len hk x e hE
  exact ⟨⟨by rw [List.length_set]; exact h.len, h1, only_new h.gr h2 h.gb, h.gb⟩, (fun v es hv => h.ot.edges_kept hv h2), (World.ownsRow.lt h1.row g rfl).2⟩
theorem TS.putc (h : TS w g n2 ns W) (hk : ns[k]? = some p) (j : Nat) (hj : j < 6) (u : Value) (x : Nd) (e : Value) (hset : (ndCells p.1 p.2).toList.set j u = (ndCells x e).toList) (hE : EdgesO w.heap.size W e x.next) :
    TS w g n2 (ns.set k (x, e)) (W.setCell ⟨g, k * 6 + j, none⟩ u) ∧ (∀ v es, EdgesO w.heap.size W v es → EdgesO w.heap.size (W.setCell ⟨g, k * 6 + j, none⟩ u) v es) ∧ g < (W.setCell ⟨g, k * 6 + j, none⟩ u).heap.size := by
  obtain ⟨h1, h2⟩ := h.ot.putc h.len hk j hj u x e hset hE
  exact ⟨⟨by rw [List.length_set]; exact h.len, h1, only_new h.gr h2 h.gb, h.gb⟩, (fun v es hv => h.ot.edges_kept hv h2), (World.ownsRow.lt h1.row g rfl).2⟩
end
theorem rt_step {w W : World} {xs : List Nd} {g n2 k : Nat} {ns : List (Nd × Value)} {x : Nd} {e1 e2 : Value} (hat : ∀ j x, j < k → xs[j]? = some x → ∃ e1 e2, ns[j]? = some (x, e1) ∧ ns[xs.length + j]? = some (dualN xs.length x, e2)) (hns : ns.length = n2) (hn2 : n2 = 2 * xs.length) (hx : xs[k]? = some x)
    (h : TS w g n2 ((ns.set k (x, e1)).set (xs.length + k) (dualN xs.length x, e2)) W) (hl : g < W.heap.size) : RT w xs g n2 (k + 1) W := by
  have hk := (List.getElem?_eq_some_iff.1 hx).1
  refine ⟨_, h.len, fun j y hj hy => ?_, h.ot, h.gr, h.gb, hl⟩
  have hj2 := (List.getElem?_eq_some_iff.1 hy).1
  by_cases e : j = k
  · subst e
    obtain rfl : x = y := by rw [hx] at hy; exact Option.some.inj hy
    refine ⟨e1, e2, ?_, ?_⟩
    · rw [List.getElem?_set, if_neg (by omega), List.getElem?_set, if_pos rfl, if_pos (by omega)]
    · rw [List.getElem?_set, if_pos rfl, if_pos (by rw [List.length_set]; omega)]
  · obtain ⟨a1, a2, h1, h2⟩ := hat j y (by omega) hy
    refine ⟨a1, a2, ?_, ?_⟩
    · rw [List.getElem?_set, if_neg (by omega), List.getElem?_set, if_neg (by omega)]; exact h1
    · rw [List.getElem?_set, if_neg (by omega), List.getElem?_set, if_neg (by omega)]; exact h2
/-- All rounds done, it is the dual table. -/
theorem rt_end {w W : World} {xs : List Nd} {g n2 : Nat} (hn2 : n2 = 2 * xs.length) (h : RT w xs g n2 xs.length W) : ∃ ns, OT w.heap.size W (.slice (some ⟨g, 0, none⟩) n2 n2) ns ∧ ns.map (·.1) = twoL xs ∧ w.grownBy W none := by
  obtain ⟨ns, hl, hat, hot, hg, _⟩ := h
  refine ⟨ns, hot, ?_, hg⟩
  apply List.ext_getElem?
  intro i
  rw [List.getElem?_map]
  rcases Nat.lt_or_ge i xs.length with h1 | h1
  · obtain ⟨a1, a2, e1, _⟩ := hat i xs[i] h1 (List.getElem?_eq_getElem h1)
    rw [e1, two_at (List.getElem?_eq_getElem h1)]; rfl
  · rcases Nat.lt_or_ge i (2 * xs.length) with h2 | h2
    · obtain ⟨j, rfl⟩ : ∃ j, i = xs.length + j := ⟨i - xs.length, by omega⟩
      have hj : j < xs.length := by omega
      obtain ⟨a1, a2, _, e2⟩ := hat j xs[j] hj (List.getElem?_eq_getElem hj)
      rw [e2, two_up (List.getElem?_eq_getElem hj)]; rfl
    · rw [List.getElem?_eq_none (by rw [hl]; omega), List.getElem?_eq_none (by rw [twoL_len]; omega)]; rfl
theorem e2_box {base : Nat} {wr W W' : World} {u v : Value} {es fs : List Ed} {t : TypeId} {cs : Array Value} (h : E2 base wr u v es fs) (hb : Blk W wr.heap.size t cs) (hg : W.grownBy W' u.ownBlock) : Blk W' wr.heap.size t cs :=
  hb.grown hg (fun e => by have := (World.ownsRow.lt h.o1 _ e.symm).2; omega)
theorem e2_step {w0 W W' : World} {u v : Value} {es fs : List Ed} (h : E2 w0.heap.size W u v es fs) (hw : w0.grownBy W none) (hg : W.grownBy W' u.ownBlock) : w0.grownBy W' none := grown_own hw (fun g e => (World.ownsRow.lt h.o1 g e).1) hg

set_option maxRecDepth 100000 in
set_option maxHeartbeats 4000000 in
theorem rtable_any (xs : List Nd) (v : Value) (w : World) (hT : Tbl w v xs) (hxs : xs.length ≤ 1000) : Calls Try.prog 29 #[v] w (MadeT w (tableL xs)) := by
  have HT := Lib.hid hT
  have HL := Lib.hid hxs
  obtain ⟨A, cap, rfl, hcl⟩ := hT
  clear hcl hxs
  by_cases hc : (checkL xs).2 = 0
  · have HC := Lib.hid (okt_check hc)
    have HK := Lib.hid (okt_of hc)
    have HTL := Lib.hid (tableL_ok hc)
    have h64 := HK.out.le
    have hpos := HK.out.pos
    have HN : Hid (xs.length ≤ 64 ∧ 1 ≤ xs.length) := Lib.hid ⟨h64, hpos⟩
    clear hc h64 hpos
    obtain ⟨n2, hn2⟩ : ∃ n2 : Nat, n2 = 2 * xs.length := ⟨_, rfl⟩
    have HN2 := Lib.hid hn2
    clear hn2
    have hl0 : (xs.length : Int) ≤ 64 := by have := HN.out; omega
    go_enter Try.func29, Try.ntmps29
    go_wp2_with (first | (go_at_call 49; go_must (refine (refCheck_any xs _ _ HT.out (by have := HL.out; omega)).mono ?_; rw [HC.out]; rintro e w1 ⟨rfl, hg1⟩; have HG1 := Lib.hid hg1; clear hg1)) | (refine wpList_make_nodes rfl (.tmp 22) (.tmp 22) rfl rfl rfl (n := n2) (by have := HN2.out; omega) (by have := HN2.out; have := HN.out; omega) (base := w.heap.size) HG1.out.size ?_; intro g W2 hgs hgb hot hg2; have HOT := Lib.hid hot; have HG2 := Lib.hid (only_trans HG1.out hg2); have HGB := Lib.hid hgb; have HGS := Lib.hid hgs; clear hgs hgb hot hg2))
    go_loopw [7] (fun i W => ∃ k : Nat, k ≤ xs.length ∧ i = .int .i64 (k : Int) ∧ RT w xs g n2 k W) (fun i _ => 64 - (intOf i).toNat)
    case atStart => exact ⟨0, Nat.zero_le _, rfl, _, List.length_replicate, (fun j x h => by omega), HOT.out, HG2.out, HGB.out, by have := HGS.out; omega⟩
    case round =>
      obtain ⟨k, hk, rfl, ns, hns, hat, hot, hg, hgb, hgl⟩ := hrel
      have HNS := Lib.hid hns
      have HAT := Lib.hid hat
      have HOK := Lib.hid hot
      have HGK := Lib.hid hg
      have HGB := Lib.hid hgb
      have HGL := Lib.hid hgl
      clear hns hat hot hg hgb hgl HOT HGS
      by_cases hlt : k < xs.length
      · have hltI : (k : Int) < (xs.length : Int) := by omega
        have hk0 : (0 : Int) ≤ (k : Int) := by omega
        obtain ⟨x, hx⟩ : ∃ x, xs[k]? = some x := ⟨_, List.getElem?_eq_getElem hlt⟩
        have HX := Lib.hid hx
        obtain ⟨A', cap', hA, hcl⟩ := HT.out
        obtain ⟨b, off, hAb, hcl2⟩ := hcl (by intro e0; rw [e0] at hlt; simp at hlt)
        obtain ⟨ve, hE, m0, m1, m2, m3, m4, m5⟩ := hcl2 k x hx
        obtain ⟨rfl, rfl⟩ : A = A' ∧ cap = cap' := by simpa using hA
        subst hAb
        clear hA hcl hcl2 hx
        have HM : Hid (w.cell? ⟨b, off + k * 6, none⟩ = some (.int .i64 x.kind) ∧ w.cell? ⟨b, off + k * 6 + 1, none⟩ = some (.int .i64 x.prio) ∧ w.cell? ⟨b, off + k * 6 + 2, none⟩ = some (.bool x.chan) ∧ w.cell? ⟨b, off + k * 6 + 3, none⟩ = some (.int .i64 x.pay.1) ∧ w.cell? ⟨b, off + k * 6 + 4, none⟩ = some (.int .i64 x.pay.2) ∧ w.cell? ⟨b, off + k * 6 + 5, none⟩ = some ve) := ⟨m0, m1, m2, m3, m4, m5⟩
        have HE := Lib.hid hE
        have hE3 := hE
        obtain ⟨A4, c4, rfl, hl3, _⟩ := hE3
        have h9 : (x.next.length : Int) ≤ 8 := by have := (HK.out.good x (List.mem_of_getElem? HX.out)).2; omega
        clear m0 m1 m2 m3 m4 m5 hE hl3
        generalize wr = Wk at *
        go_wp2_with fail
        go_loopw [8, 9, 10] (fun s o j W => ∃ q : Nat, q ≤ x.next.length ∧ j = .int .i64 (q : Int) ∧ E2 Wk.heap.size W s o (x.next.take q) ((x.next.take q).map (upE xs.length)) ∧ Wk.grownBy W none) (fun _ _ j _ => 16 - (intOf j).toNat)
        case atStart => exact ⟨0, Nat.zero_le _, rfl, E2.start _ _, only_refl _ _⟩
        case round =>
          obtain ⟨q, hq, rfl, he2, hgw⟩ := hrel
          have HE2 := Lib.hid he2
          have HGW := Lib.hid hgw
          have HW := Lib.hid (only_trans HGK.out hgw)
          have m5 := Keeps.grown HW.out _ _ HM.out.2.2.2.2.2
          clear he2 hgw
          have HLQ : Hid ((x.next.take q).length = q) := Lib.hid (by rw [List.length_take]; omega)
          by_cases hql : q < x.next.length
          · have hqI : (q : Int) < (x.next.length : Int) := by omega
            have hq0 : (0 : Int) ≤ (q : Int) := by omega
            obtain ⟨⟨ea, es⟩, he⟩ : ∃ e, x.next[q]? = some e := ⟨_, List.getElem?_eq_getElem hql⟩
            obtain ⟨A', c', hA, _, hcl⟩ := HE.out
            obtain ⟨b5, off5, hb5, hce⟩ := hcl (by intro e0; rw [e0] at hql; simp at hql)
            obtain ⟨rfl, rfl⟩ : A4 = A' ∧ c4 = c' := by simpa using hA
            subst hb5
            obtain ⟨e0', e1'⟩ := hce q _ he
            have e0 := Keeps.grown HW.out _ _ e0'
            have e1 := Keeps.grown HW.out _ _ e1'
            have HEQ := Lib.hid he
            have HED := HK.out.edge HX.out (List.mem_append_left _ (List.mem_of_getElem? he))
            have ha0 : 0 ≤ ea := HED.1
            have ha1 : ea < (xs.length : Int) := HED.2.1
            clear hcl hce hA he e0' e1' HED
            have hWk := HGW.out.size
            go_wp2_with (first | (at_builtin; refine wpList_append_edgeB (e := (ea, es)) rfl (.tmp 47) (.tmp 49) rfl rfl rfl ((HE2.out.kept (only_alloc (only_alloc (only_refl _ _) _) _)).o1) (blk_at (by simp) _ _) (by have := HLQ.out; omega) (by simp; omega) ?_; intro v1 W3 ho1 hg1 hb1; have he3 := (HE2.out.kept (only_alloc (only_alloc (only_refl _ _) _) _)).put1 hg1 ho1 hb1; have HE3 := Lib.hid he3; have HG3 := Lib.hid (e2_step (HE2.out.kept (only_alloc (only_alloc (only_refl _ _) _) _)) (only_trans HGW.out (only_alloc (only_alloc (only_refl _ _) _) _)) hg1); have hbx := e2_box HE2.out ((Blk.new _ _ _).alloc _) hg1; have x0 := hbx.cell 0; have x1 := hbx.cell 1; have hbl := hbx.lt; have hW3 := HG3.out.size; clear hbx he3 ho1 hg1 hb1) | (at_builtin; refine wpList_append_edgeB (e := (ea + (xs.length : Int), es)) rfl (.tmp 51) (.tmp 59) rfl rfl rfl ((HE3.out.kept (only_alloc (only_refl _ _) _)).o2) (blk_at (by simp) _ _) (by have := HLQ.out; rw [List.length_map]; omega) (by simp; omega) ?_; intro v2 W4 ho2 hg2 hb2; have he4 := ((HE3.out.kept (only_alloc (only_refl _ _) _)).rot.put1 hg2 ho2 hb2).rot; have HE4 := Lib.hid he4; have HG4 := Lib.hid (e2_step (HE3.out.kept (only_alloc (only_refl _ _) _)).rot (only_trans HG3.out (only_alloc (only_refl _ _) _)) hg2); clear he4 ho2 hg2 hb2))
            go_roundw
            case rel =>
              refine ⟨q + 1, by omega, by go_num, ?_, HG4.out⟩
              rw [take_len HEQ.out, List.map_append]
              exact HE4.out
            case measure => simp [intOf]; omega
          · have hqe : q = x.next.length := by omega
            have hqI : (x.next.length : Int) ≤ (q : Int) := by omega
            have he5 := HE2.out
            rw [hqe, List.take_length] at he5
            have HE5 := Lib.hid he5
            clear he5 hqe
            have hts : TS w g n2 ns wr := ⟨HNS.out, HOK.out.kept HGW.out, only_trans HGK.out HGW.out, HGB.out⟩
            have hkn : k < ns.length := by rw [HNS.out, HN2.out]; omega
            obtain ⟨p, hp⟩ : ∃ p, ns[k]? = some p := ⟨_, List.getElem?_eq_getElem hkn⟩
            have HP := Lib.hid hp
            obtain ⟨⟨c0, c1, c2, c3, c4', c5⟩, f0, f1, f2, f3, f4, f5⟩ := hts.ot.six HNS.out hp
            have HTS := Lib.hid hts
            have hkI : (k : Int) < (n2 : Int) := by have := HN2.out; omega
            have m0 := Keeps.grown HW.out _ _ HM.out.1
            have m1 := Keeps.grown HW.out _ _ HM.out.2.1
            have m2 := Keeps.grown HW.out _ _ HM.out.2.2.1
            have m3 := Keeps.grown HW.out _ _ HM.out.2.2.2.1
            have m4 := Keeps.grown HW.out _ _ HM.out.2.2.2.2.1
            have hbg : b ≠ g := by have := cell_lt HM.out.1; have := HGB.out; simp at *; omega
            have hl8 := HE5.out.o1.len
            have hl9 := HE5.out.o2.len
            rw [List.length_map] at hl9
            obtain ⟨A8, c8, rfl⟩ := hl8
            obtain ⟨A9, c9, rfl⟩ := hl9
            have HS1 : Hid (EdgesO w.heap.size wr (.slice A8 x.next.length c8) x.next) := Lib.hid ((HE5.out.o1.base_ HGK.out.size).edges (by omega))
            have HS2 : Hid (EdgesO w.heap.size wr (.slice A9 x.next.length c9) (x.next.map (upE xs.length))) := Lib.hid ((HE5.out.o2.base_ HGK.out.size).edges (by rw [List.length_map]; omega))
            have HS3 : Hid (EdgesO w.heap.size wr (.slice A4 x.next.length c4) x.next) := Lib.hid ((HE.out.old (Nat.le_refl _)).kept HW.out)
            clear hts hkn hp
            go_upto_region 17 with fail
            obtain ⟨t5, e5, l5⟩ := HTS.out.put6 HP.out x (.slice A4 x.next.length c4) HS3.out
            have q1 := e5 _ _ HS1.out
            have q2 := e5 _ _ HS2.out
            have q3 := e5 _ _ HS3.out
            clear e5 c0 c1 c2 c3 c4' c5 f0 f1 f2 f3 f4 f5 m0 m1 m2 m3 m4 m5
            revert t5 q1 q2 q3 l5
            generalize World.setCell _ _ _ = W5
            intro t5 l5 q1 q2 q3
            have p5 : (ns.set k (x, Value.slice A4 x.next.length c4))[k]? = some (x, .slice A4 x.next.length c4) := by rw [List.getElem?_set, if_pos rfl, if_pos (List.getElem?_eq_some_iff.1 HP.out).1]
            obtain ⟨⟨_, _, _, _, _, c5⟩, _, _, _, _, _, f5⟩ := t5.ot.six t5.len p5
            have HT5 := Lib.hid t5
            have HQ1 := Lib.hid q1
            have HQ2 := Lib.hid q2
            have HQ3 := Lib.hid q3
            have HP5 := Lib.hid p5
            clear t5 q1 q2 q3 p5
            go_upto_region 18 with fail
            obtain ⟨t5, e5, l5⟩ := HT5.out.putc HP5.out 5 (by omega) (.slice A8 x.next.length c8) x (.slice A8 x.next.length c8) rfl HQ1.out
            have q2 := e5 _ _ HQ2.out
            have q3 := e5 _ _ HQ3.out
            clear e5 c5 f5
            rw [List.set_set] at t5
            revert t5 q2 q3 l5
            generalize World.setCell _ _ _ = W6
            intro t6 l6 q2 q3
            have hkn : xs.length + k < (ns.set k (x, Value.slice A8 x.next.length c8)).length := by rw [t6.len, HN2.out]; omega
            obtain ⟨p6, hp6⟩ : ∃ p, (ns.set k (x, Value.slice A8 x.next.length c8))[xs.length + k]? = some p := ⟨_, List.getElem?_eq_getElem hkn⟩
            obtain ⟨⟨c0, c1, c2, c3, c4', c5⟩, f0, f1, f2, f3, f4, f5⟩ := t6.ot.six t6.len hp6
            have m0 := Keeps.grown t6.gr _ _ HM.out.1
            have m1 := Keeps.grown t6.gr _ _ HM.out.2.1
            have m2 := Keeps.grown t6.gr _ _ HM.out.2.2.1
            have m3 := Keeps.grown t6.gr _ _ HM.out.2.2.2.1
            have m4 := Keeps.grown t6.gr _ _ HM.out.2.2.2.2.1
            have m5 := Keeps.grown t6.gr _ _ HM.out.2.2.2.2.2
            have hkn2 : (xs.length : Int) + (k : Int) < (n2 : Int) := by have := HN2.out; omega
            have hkn3 : 0 ≤ (xs.length : Int) + (k : Int) := by omega
            have hkt : ((xs.length : Int) + (k : Int)).toNat = xs.length + k := by omega
            have HT6 := Lib.hid t6
            have HR2 := Lib.hid q2
            have HR3 := Lib.hid q3
            have HP6 := Lib.hid hp6
            clear t6 q2 q3 hkn hp6
            go_upto_region 19 with fail
            obtain ⟨t5, e5, l5⟩ := HT6.out.put6 HP6.out x (.slice A4 x.next.length c4) HR3.out
            have q2 := e5 _ _ HR2.out
            have q3 := e5 _ _ HR3.out
            have g5 := t5.gr
            clear e5 c0 c1 c2 c3 c4' c5 f0 f1 f2 f3 f4 f5 m0 m1 m2 m3 m4 m5
            revert t5 q2 q3 l5 g5
            generalize World.setCell _ _ _ = W7
            intro t7 l7 q2 q3 g7
            have HP7 : Hid (((ns.set k (x, Value.slice A8 x.next.length c8)).set (xs.length + k) (x, .slice A4 x.next.length c4))[xs.length + k]? = some (x, .slice A4 x.next.length c4)) := Lib.hid (by rw [List.getElem?_set, if_pos rfl, if_pos (List.getElem?_eq_some_iff.1 HP6.out).1])
            obtain ⟨⟨c0, _, _, _, _, _⟩, f0, _, _, _, _, _⟩ := t7.ot.six t7.len HP7.out
            have m0 := Keeps.grown g7 _ _ HM.out.1
            have HT7 := Lib.hid t7
            have HU2 := Lib.hid q2
            have HU3 := Lib.hid q3
            clear t7 q2 q3 g7
            go_upto_region 20 with (go_at_call 52; go_must (refine (rkind_any _ _).mono ?_; rintro e W9 ⟨rfl, rfl⟩))
            obtain ⟨t5, e5, l5⟩ := HT7.out.putc HP7.out 0 (by omega) (.int .i64 (dualK x.kind)) (turnN x) (.slice A4 x.next.length c4) rfl HU3.out
            simp only [Nat.add_zero] at t5 e5 l5
            have q2 := e5 _ _ HU2.out
            clear e5 c0 f0 m0
            rw [List.set_set] at t5
            revert t5 q2 l5
            generalize World.setCell _ _ _ = W8
            intro t8 l8 q2
            have HP8 : Hid (((ns.set k (x, Value.slice A8 x.next.length c8)).set (xs.length + k) (turnN x, .slice A4 x.next.length c4))[xs.length + k]? = some (turnN x, .slice A4 x.next.length c4)) := Lib.hid (by rw [List.getElem?_set, if_pos rfl, if_pos (List.getElem?_eq_some_iff.1 HP6.out).1])
            obtain ⟨⟨_, _, _, _, _, c5⟩, _, _, _, _, _, f5⟩ := t8.ot.six t8.len HP8.out
            have HT8 := Lib.hid t8
            have HV2 := Lib.hid q2
            clear t8 q2
            go_wp2_with fail
            obtain ⟨t5, e5, l5⟩ := HT8.out.putc HP8.out 5 (by omega) (.slice A9 x.next.length c9) (dualN xs.length x) (.slice A9 x.next.length c9) rfl HV2.out
            rw [List.set_set] at t5
            have HT9 := Lib.hid t5
            have HL9 := Lib.hid l5
            clear t5 e5 l5 c5 f5
            go_roundw
            case rel => exact ⟨k + 1, by omega, by go_num, rt_step HAT.out HNS.out HN2.out HX.out HT9.out HL9.out⟩
            case measure => simp [intOf]; omega
      · have hke : k = xs.length := by omega
        have hkI : (xs.length : Int) ≤ (k : Int) := by omega
        have HKE := Lib.hid hke
        clear hke hlt hk
        go_wp2_with fail
        go_ret
        have hrt : RT w xs g n2 xs.length wr := ⟨ns, HNS.out, by have h := HAT.out; rw [HKE.out] at h; exact h, HOK.out, HGK.out, HGB.out, HGL.out⟩
        obtain ⟨ms, h1, h2, h3⟩ := rt_end HN2.out hrt
        exact ⟨⟨_, ms, rfl, h1, by rw [h2, HTL.out]⟩, h3⟩
  · obtain ⟨a, e, hae⟩ : ∃ a e, checkL xs = (a, e) := ⟨_, _, rfl⟩
    rw [hae] at hc
    have HTL : Hid (tableL xs = []) := Lib.hid (tableL_not (by rw [hae]; exact hc))
    have HAE := Lib.hid hae
    have he : ¬ e = 0 := hc
    have he2 : (e == 0) = false := by simp [he]
    have he3 : decide (e = 0) = false := decide_eq_false he
    clear hae hc
    go_enter Try.func29, Try.ntmps29
    go_wp2_with (go_at_call 49; go_must (refine (refCheck_any xs _ _ HT.out (by have := HL.out; omega)).mono ?_; rw [HAE.out]; rintro e w1 ⟨rfl, hg1⟩; have HG1 := Lib.hid hg1; clear hg1))
    go_ret
    exact ⟨⟨_, [], rfl, OT.start _ _, by rw [HTL.out]; rfl⟩, HG1.out⟩
end Go.Proofs.Ytepjkoegbehojaa

/- order: acts, isNode, jump. -/
namespace Go.Proofs.Ytepjkoegbehojaa
open Go.RowKit Go.Shelf

set_option maxHeartbeats 400000 in
theorem oacts_any (x : Nd) (v : Value) (w : World) : Calls Try.prog 43 #[ndV x v] w fun e w' => e = .returned (.bool (actB x.kind)) ∧ w.grownBy w' none := by
  go_enter Try.func43, Try.ntmps43
  go_wp2_with fail
  all_goals go_ret
  · exact ⟨by simp [actB, *], only_alloc (only_refl _ _) _⟩
  · exact ⟨by simp [actB, *]; cases h : (x.kind == 5) <;> simp_all, only_alloc (only_refl _ _) _⟩
theorem oisNode_any (A : Option Addr) (n c : Nat) (i : Int) (w : World) : Calls Try.prog 58 #[.slice A n c, .int .i64 i] w fun e w' => e = .returned (.bool (nodeB n i)) ∧ w' = w := by
  go_enter Try.func58, Try.ntmps58
  go_wp2_with fail
  all_goals go_ret
  all_goals refine ⟨?_, rfl⟩
  all_goals simp [nodeB, withinB, *]
  all_goals omega

abbrev jump3 (p : Option (Int × Int)) : Value := match p with | some (t, r) => .tuple #[.int .i64 t, .int .i64 r, .bool true] | none => .tuple #[.int .i64 0, .int .i64 0, .bool false]
set_option maxRecDepth 100000 in
set_option maxHeartbeats 2000000 in
theorem ojump_any (xs : List Nd) (v : Value) (fr : Int) (e : Ed) (x y : Nd) (w : World) (hT : Tbl w v xs) (hxs : xs.length ≤ 1000) (hx : nodeAt xs fr = some x) (hy : nodeAt xs (resolveL xs e).1 = some y) :
    Calls Try.prog 59 #[v, .int .i64 fr, edV e] w fun en w' => en = .returned (jump3 (jumpP xs x.prio e)) ∧ w.grownBy w' none := by
  have HT := Lib.hid hT
  have HL := Lib.hid hxs
  obtain ⟨A, cap, rfl, hcl⟩ := hT
  have hxs' : (xs.length : Int) ≤ 1000 := by omega
  obtain ⟨q, hq⟩ : ∃ q, resolveL xs e = q := ⟨_, rfl⟩
  have HQ := Lib.hid hq
  rw [hq] at hy
  obtain ⟨qn, qo⟩ := q
  have hx2 := nodeAt_some hx
  have hy2 := nodeAt_some hy
  obtain ⟨f, rfl⟩ : ∃ f : Nat, fr = f := ⟨fr.toNat, by omega⟩
  dsimp only at hy2
  obtain ⟨m, rfl⟩ : ∃ m : Nat, qn = m := ⟨qn.toNat, by omega⟩
  obtain ⟨hx0, hx1, hx3⟩ := hx2
  obtain ⟨hy0, hy1, hy3⟩ := hy2
  have HY := Lib.hid hy
  obtain ⟨b, off, rfl, hcl2⟩ := hcl (by intro e0; rw [e0] at hx1; simp at hx1; omega)
  obtain ⟨vx, _, n0, n1, n2, n3, n4, n5⟩ := hcl2 f x (by simpa using hx3)
  obtain ⟨vy, _, m0, m1, m2, m3, m4, m5⟩ := hcl2 m y (by simpa using hy3)
  have hbb := cell_lt n0
  clear hcl2 hcl hx3 hy3 hx hy hq hxs
  have HR : Hid (jumpP xs x.prio e = if actB y.kind then some ((m : Int), wrap64 (wrap64 (y.prio + qo) - x.prio)) else none) := by
    show _ = _
    unfold jumpP
    rw [HQ.out]
    simp only [HY.out]
  obtain ⟨kk, hkk⟩ : ∃ kk, actB y.kind = kk := ⟨_, rfl⟩
  have HK := Lib.hid hkk
  go_enter Try.func59, Try.ntmps59
  go_wp2_with (first | (go_at_call 22; go_must (refine (resolve_any xs _ e _ (HT.out.keep (.alloc _ _)) (by have := HL.out; omega)).mono ?_; rw [HQ.out]; rintro en w1 ⟨rfl, hg⟩; have HG := Lib.hid (only_trans (only_alloc (only_refl _ _) _) hg); have a1 := Keeps.grown HG.out _ _ n1; have b0 := Keeps.grown HG.out _ _ m0; have b1 := Keeps.grown HG.out _ _ m1; have b2 := Keeps.grown HG.out _ _ m2; have b3 := Keeps.grown HG.out _ _ m3; have b4 := Keeps.grown HG.out _ _ m4; have b5 := Keeps.grown HG.out _ _ m5; have hb1 := cell_lt a1; clear hg)) | (go_at_call 43; go_must (refine (oacts_any y _ _).mono ?_; rw [HK.out]; rintro en w2 ⟨rfl, hg2⟩; have HG2 := Lib.hid (only_trans (only_alloc HG.out _) hg2); have hk2 := (Keeps.alloc w1 _).trans (Keeps.grown hg2); have d1 := hk2 _ _ a1; have d2 := hk2 _ _ b1; have hb2 := cell_lt d1; have hbx : Blk w2 w1.heap.size 35 (edCells ((m : Int), qo)) := (Blk.new w1 _ _).kept hg2; have d3 : w2.cell? ⟨w1.heap.size, 0, none⟩ = some (.int .i64 (m : Int)) := hbx.cell 0; have d4 : w2.cell? ⟨w1.heap.size, 1, none⟩ = some (.int .i64 qo) := hbx.cell 1; clear hg2 hk2 hbx)))
  · go_ret3
    exact ⟨by rw [HR.out]; simp_all, HG2.out⟩
  · go_region_held3 (fun w' => w'.cell? ⟨w1.heap.size, 0, none⟩ = some (.int .i64 (m : Int)) ∧ w'.cell? ⟨w1.heap.size, 1, none⟩ = some (.int .i64 qo) ∧ w'.cell? ⟨b, off + f * 6 + 1, none⟩ = some (.int .i64 x.prio) ∧ w'.cell? ⟨b, off + m * 6 + 1, none⟩ = some (.int .i64 y.prio)) (exact ⟨d3, d4, d1, d2⟩) (fail)
    all_goals go_wp2
    all_goals go_ret3
    all_goals exact ⟨by rw [HR.out]; simp_all [jump3, IntWalk.i64_left], only_drew HG2.out⟩
end Go.Proofs.Ytepjkoegbehojaa

/- order: edges: what a node has. -/
namespace Go.Proofs.Ytepjkoegbehojaa
open Go.RowKit Go.Shelf

theorem empty_row (w : World) : (w.alloc (.cells #[] 43)).ownsRow w.heap.size 43 2 (.slice (some ⟨w.heap.size, 0, none⟩) 0 0) 0 [] :=
  ⟨rfl, .inr ⟨w.heap.size, 0, #[], rfl, Nat.le_refl _, heap_alloc_new w _, Nat.le_refl _, by unfold maxLen; omega, rfl, rfl⟩⟩
theorem edges_cells {w : World} {b off : Nat} {es : List Ed} {o : Obj} (h : ∀ (i : Nat) (e : Ed), es[i]? = some e → w.cell? ⟨b, off + i * 2, none⟩ = some (.int .i64 e.1) ∧ w.cell? ⟨b, off + i * 2 + 1, none⟩ = some (.int .i64 e.2)) (hb : b < w.heap.size) :
    ∀ j u, (edAll es)[j]? = some u → (w.alloc o).cell? ((⟨b, off, none⟩ : Addr).add j) = some u := fun j u hu => by
  rw [addr_plain]
  have hj : j < es.length * 2 := by rw [← edAll_len]; exact (List.getElem?_eq_some_iff.1 hu).1
  have hi : j / 2 < es.length := by omega
  have hx := h (j / 2) _ (List.getElem?_eq_getElem hi)
  have ha := edAll_at (List.getElem?_eq_getElem hi) (j % 2) (by omega)
  rw [show j / 2 * 2 + j % 2 = j by omega, hu] at ha
  rw [World.cell?_alloc_lt w o _ (by exact hb)]
  rcases (by omega : j % 2 = 0 ∨ j % 2 = 1) with e | e
  · rw [e] at ha
    rw [show off + j = off + j / 2 * 2 by omega, hx.1]
    exact ha.symm
  · rw [e] at ha
    rw [show off + j = off + j / 2 * 2 + 1 by omega, hx.2]
    exact ha.symm
set_option maxRecDepth 100000 in
set_option maxHeartbeats 2000000 in
theorem oclone_any (es : List Ed) (v : Value) (w : World) (hE : Edges w v es) (hl : es.length ≤ 1000) (hn : es ≠ []) :
    Calls Try.prog 61 #[v] w fun e w' => ∃ v', e = .returned v' ∧ EOwn w.heap.size w' v' es ∧ w.grownBy w' none := by
  have HE := Lib.hid hE
  obtain ⟨A, cap, rfl, _, hcl⟩ := hE
  obtain ⟨b, off, rfl, hce⟩ := hcl hn
  have he : ∀ (w : World) (a : Addr) (n c : Nat), (binOp .eql 44 (.slice (some a) n c) (.slice none 0 0)).run Try.prog w = .ok (.bool false) w := fun _ _ _ _ => rfl
  go_enter Try.func61, Try.ntmps61
  obtain ⟨i0, hi, hz0, hz1, hz2⟩ := info_parts edge_info
  have hbl := cell_lt (hce 0 _ (List.getElem?_eq_getElem (List.length_pos_iff.2 hn))).1
  have HCE := Lib.hid hce
  have HLN := Lib.hid hl
  clear hce hcl hl hn
  go_wp2_with (at_builtin; refine wpList_append_own _ rfl (.tmp 5) (.tmp 6) 44 rfl w.heap.size 43 i0 _ 2 16 Try.underlying44 hi hz0 hz1 hz2 rfl (by decide) _ 0 [] rfl (empty_row w) ⟨b, off, none⟩ es.length cap (edAll es) rfl (edAll_len es) (edges_cells HCE.out hbl) (edAll_one es) (by have := HLN.out; unfold maxLen; omega) (by have := HLN.out; omega) (by simp) ?_; intro v' w1 hr hg _; have HR := Lib.hid hr; have HG := Lib.hid hg; clear hr hg)
  go_ret
  exact ⟨_, rfl, by have := HR.out; rw [Nat.zero_add, List.nil_append] at this; exact this, only_new (only_alloc (only_refl _ _) _) HG.out (Nat.le_refl _)⟩

set_option maxRecDepth 100000 in
set_option maxHeartbeats 2000000 in
theorem oedges_any (x : Nd) (v : Value) (w : World) (hE : Edges w v x.next) (hl : x.next.length ≤ 900) (hn : x.next ≠ []) :
    Calls Try.prog 45 #[ndV x v] w fun e w' => ∃ v', e = .returned v' ∧ Edges w' v' (allE x) ∧ w.grownBy w' none := by
  have HE := Lib.hid hE
  have HN : Hid (x.next.length ≤ 900 ∧ x.next ≠ []) := ⟨hl, hn⟩
  obtain ⟨kind, prio, chan, ⟨pa, ps⟩, next⟩ := x
  dsimp only at HE HN hE
  obtain ⟨A, cap, rfl, _, _⟩ := hE
  clear hl hn
  cases chan
  rotate_left
  · have HA : Hid (allE ⟨kind, prio, true, (pa, ps), next⟩ = next ++ [(pa, ps)]) := show _ = _ by simp [allE]
    go_enter Try.func45, Try.ntmps45
    go_wp2_with fail
    have hb0 : Blk (w.alloc (.cells #[.int .i64 kind, .int .i64 prio, .bool true, .int .i64 pa, .int .i64 ps, .slice A next.length cap] 46)).drew w.heap.size 46 _ := Blk.drew (Blk.new _ _ _)
    have hg0 : w.grownBy (w.alloc (.cells #[.int .i64 kind, .int .i64 prio, .bool true, .int .i64 pa, .int .i64 ps, .slice A next.length cap] 46)).drew none := only_drew (only_alloc (only_refl _ _) _)
    have hz0 : w.heap.size < (w.alloc (.cells #[.int .i64 kind, .int .i64 prio, .bool true, .int .i64 pa, .int .i64 ps, .slice A next.length cap] 46)).drew.heap.size := by simp [World.drew]
    generalize (w.alloc (.cells #[.int .i64 kind, .int .i64 prio, .bool true, .int .i64 pa, .int .i64 ps, .slice A next.length cap] 46)) = W1 at *
    have HN1 : Hid (next.length ≤ 1000) := Nat.le_trans HN.out.1 (by decide)
    have hzz : W1.drew.heap.size = W1.heap.size := rfl
    have hb1 : Blk (W1.alloc (.cells (edCells (pa, ps)) 43)).drew w.heap.size 46 _ := hb0.alloc (.cells (edCells (pa, ps)) 43)
    have hg1 : w.grownBy (W1.alloc (.cells (edCells (pa, ps)) 43)).drew none := only_alloc hg0 (.cells (edCells (pa, ps)) 43)
    go_region_held3 (fun w' => w'.cell? ⟨w.heap.size, 3, none⟩ = some (.int .i64 pa) ∧ w'.cell? ⟨w.heap.size, 4, none⟩ = some (.int .i64 ps) ∧ w'.cell? ⟨w.heap.size, 5, none⟩ = some (.slice A next.length cap))
      (first | exact ⟨hb0.cell 3, hb0.cell 4, hb0.cell 5⟩ | exact ⟨hb1.cell 3, hb1.cell 4, hb1.cell 5⟩ | exact ⟨hb2.cell 3, hb2.cell 4, hb2.cell 5⟩ | exact ⟨(hb2.alloc _).cell 3, (hb2.alloc _).cell 4, (hb2.alloc _).cell 5⟩ | exact ⟨hb3.cell 3, hb3.cell 4, hb3.cell 5⟩)
      (first
        | (go_at_call 61; ((with_reducible refine (oclone_any next _ _ (HE.out.keep (Keeps.grown hg0)) HN1.out HN.out.2).mono ?_); rintro e W2 ⟨v2, rfl, ho2, hg2⟩; have hb2 := hb0.kept hg2))
        | (go_at_call 61; ((with_reducible refine (oclone_any next _ _ (HE.out.keep (Keeps.grown hg1)) HN1.out HN.out.2).mono ?_); rintro e W2 ⟨v2, rfl, ho2, hg2⟩; have hb2 := hb1.kept hg2))
        | (refine step_append_edge rfl (.tmp 10) (.tmp 13) rfl rfl rfl (ho2.kept0 (only_alloc (only_refl _ _) (.cells (edCells (pa, ps)) 43))) (Blk.new _ _ (edCells (pa, ps))) HN1.out (by have := hg2.size; simp; omega) ?_; intro v3 W3 ho3 hg3; have hb3 := (hb2.alloc (.cells (edCells (pa, ps)) 43)).grown hg3 (fun e => by have := (own_row ho2 _ e.symm).1; omega); have HO3 := Lib.hid (ho3.edges (by have := HN.out.1; simp; omega)).edges; have HG3 := Lib.hid (grown_own (only_alloc (only_trans hg0 hg2) (.cells (edCells (pa, ps)) 43)) (fun g e => by have := (own_row ho2 g e).1; omega) hg3))
        | (refine step_append_edge rfl (.tmp 10) (.tmp 13) rfl rfl rfl ho2 ((Blk.drew (Blk.new W1 _ (edCells (pa, ps)))).kept hg2) HN1.out hg2.size ?_; intro v3 W3 ho3 hg3; have hb3 := hb2.grown hg3 (fun e => by have := (own_row ho2 _ e.symm).1; simp [World.drew] at this; omega); have HO3 := Lib.hid (ho3.edges (by have := HN.out.1; simp; omega)).edges; have HG3 := Lib.hid (grown_own (only_trans hg1 hg2) (fun g e => by have := (own_row ho2 g e).1; simp [World.drew] at this; omega) hg3)))
    all_goals go_wp2
    all_goals go_ret
    all_goals exact ⟨_, rfl, by rw [HA.out]; exact HO3.out, HG3.out⟩
  · have HA : Hid (allE ⟨kind, prio, false, (pa, ps), next⟩ = next) := show _ = _ by simp [allE]
    go_enter Try.func45, Try.ntmps45
    go_wp2_with fail
    go_ret
    exact ⟨_, rfl, by rw [HA.out]; exact HE.out.keep (.alloc _ _), only_alloc (only_refl _ _) _⟩

theorem ojumps_any (vn ve : Value) (fr : Int) (w : World) (A B : Option Addr) (n m c d : Nat) (hn : vn = .slice A n c) (he : ve = .slice B m d) :
    Calls Try.prog 44 #[vn, .int .i64 fr, ve] w fun e w' => e = .returned (.func (.func 60) #[] #[.pointer (some ⟨w.heap.size + 2, 0, none⟩), .pointer (some ⟨w.heap.size, 0, none⟩), .pointer (some ⟨w.heap.size + 1, 0, none⟩)]) ∧
      w' = ((w.alloc (.cells #[vn] 22)).alloc (.cells #[.int .i64 fr] 3)).alloc (.cells #[ve] 44) := by
  subst hn he
  have hmf : ∀ (fn : Fn) (first cap : Array Value) (w : World), (Instr.makeFunc fn first cap).run Try.prog w = .ok (.func fn first cap) w := fun _ _ _ _ => rfl
  go_enter Try.func44, Try.ntmps44
  go_wp2_with fail
  go_ret
  exact ⟨rfl, rfl⟩
end Go.Proofs.Ytepjkoegbehojaa

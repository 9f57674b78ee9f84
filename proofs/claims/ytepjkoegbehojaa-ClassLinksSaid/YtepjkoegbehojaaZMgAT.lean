/- Texts joined for the claim's sake: OOpc, CFew, CWrk. -/
import Derived.Test.YtepjkoegbehojaaZMgAA
import Derived.Test.YtepjkoegbehojaaZMgAS
import Derived.Test.YtepjkoegbehojaaZMgAI
import Derived.Test.YtepjkoegbehojaaZMgAR
/- For the rows: a list of nodes that was handed in reads as a table, and no list of edges is longer than its room. -/
namespace Go.Proofs.Ytepjkoegbehojaa
open Go.ChangeShapes Go.WideShapes Go.RowKit Go.Deep

/-- A slice value that reads as a table, each list of edges with its room. -/
def TblC (w : World) (v : Value) (xs : List Nd) : Prop := ∃ (A : Option Addr) (c : Nat), v = .slice A xs.length c ∧
  (xs ≠ [] → ∃ b off, A = some ⟨b, off, none⟩ ∧ ∀ i x, xs[i]? = some x → NdAt w b (off + i * 6) x ∧ ∀ A' n c', w.cell? ⟨b, off + i * 6 + 5, none⟩ = some (.slice A' n c') → n ≤ c')
theorem TblC.tbl {w : World} {v : Value} {xs : List Nd} (h : TblC w v xs) : Tbl w v xs := by
  obtain ⟨A, c, h1, h2⟩ := h
  refine ⟨A, c, h1, fun hn => ?_⟩
  obtain ⟨b, off, h3, h4⟩ := h2 hn
  exact ⟨b, off, h3, fun i x hx => (h4 i x hx).1⟩
theorem TblC.keep {w w' : World} {v : Value} {xs : List Nd} (h : TblC w v xs) (hk : Keeps w w') : TblC w' v xs := by
  obtain ⟨A, c, h1, h2⟩ := h
  refine ⟨A, c, h1, fun hn => ?_⟩
  obtain ⟨b, off, h3, h4⟩ := h2 hn
  refine ⟨b, off, h3, fun i x hx => ⟨(h4 i x hx).1.keep hk, fun A' n c' hc => ?_⟩⟩
  obtain ⟨⟨v', _, _, _, _, _, _, h5⟩, hcap⟩ := h4 i x hx
  have := hk _ _ h5
  rw [hc] at this
  cases this
  exact hcap _ _ _ h5
section
variable {H : Type} {enc : TypeId × Value → H} {W : World} {sp : Nat → Bool} {fuel : Nat} {x : DataW H × List MemPlace}
set_option maxRecDepth 100000 in
theorem edgesC_of (hsp : ∀ b, sp b = true) {v : Value} (h : DataW.trod enc Try.prog W 0 sp true fuel 44 [v] = some x) : ∃ es, Edges W v es ∧ ∀ A n c, v = .slice A n c → n ≤ c := by
  rcases open_slice_pairs Try.underlying44 Try.underlying43 cells_edge rfl rfl cells_int cells_int h with ⟨hcs, _⟩ | ⟨a, len, cap, m, f, V0, V1, D0, D1, P0, P1, hcs, _, hl, hc, hm, _, hall⟩
  · simp only [List.cons.injEq, and_true] at hcs
    exact ⟨[], by rw [hcs]; exact Edges.nil_ W, fun A n c h => by rw [hcs] at h; simp only [Value.slice.injEq] at h; omega⟩
  · simp only [List.cons.injEq, and_true] at hcs
    rw [hsp, if_pos rfl] at hm
    obtain ⟨b, off, spot⟩ := a
    refine ⟨(List.range len).map fun i => (intOf (V0 i), intOf (V1 i)), ⟨some ⟨b, off, spot⟩, cap, by rw [hcs]; simp, by simp; unfold maxLen at hc; omega, fun hn => ?_⟩, fun A n c h => by rw [hcs] at h; simp only [Value.slice.injEq] at h; omega⟩
    have h0 : 0 < len := by
      rcases Nat.eq_zero_or_pos len with e | e
      · subst e; simp at hn
      · exact e
    have hspot : spot = none := by simpa [Addr.add] using World.cell?_spot (hall 0 (by omega)).1
    subst hspot
    refine ⟨b, off, rfl, fun i e he => ?_⟩
    rw [List.getElem?_map] at he
    rcases Nat.lt_or_ge i len with hi | hi
    · rw [List.getElem?_range hi] at he
      simp only [Option.map_some, Option.some.injEq] at he
      subst he
      obtain ⟨hc0, hc1, ht0, ht1⟩ := hall i (by omega)
      rw [add_plain] at hc0 hc1
      exact ⟨by rw [hc0, ← int_of ht0], by rw [← Nat.add_assoc] at hc1; rw [hc1, ← int_of ht1]⟩
    · rw [List.getElem?_eq_none (by simpa using hi)] at he
      simp at he
set_option maxRecDepth 100000 in
theorem nodeC_of (hsp : ∀ b, sp b = true) {cs : List Value} (hl : cs.length = 6) (h : DataW.trod enc Try.prog W 0 sp true fuel 46 cs = some x) :
    ∃ (nd : Nd) (v : Value), cs = [.int .i64 nd.kind, .int .i64 nd.prio, .bool nd.chan, .int .i64 nd.pay.1, .int .i64 nd.pay.2, v] ∧ Edges W v nd.next ∧ ∀ A n c, v = .slice A n c → n ≤ c := by
  obtain ⟨ys, n, _, _, _, hyl, hf⟩ := DataW.trod_struct Try.underlying46 h
  match cs, hl with
  | [c0, c1, c2, c3, c4, c5], _ =>
    match ys, hyl with
    | [y0, y1, y2, y3, y4], _ =>
      have g0 : DataW.trod enc Try.prog W 0 sp true n 3 [c0] = some y0 := by simpa [cells_int] using hf 0 _ rfl
      have g1 : DataW.trod enc Try.prog W 0 sp true n 3 [c1] = some y1 := by simpa [cells_int] using hf 1 _ rfl
      have g2 : DataW.trod enc Try.prog W 0 sp true n 4 [c2] = some y2 := by simpa [cells_bool] using hf 2 _ rfl
      have g3 : DataW.trod enc Try.prog W 0 sp true n 43 [c3, c4] = some y3 := by simpa [cells_edge] using hf 3 _ rfl
      have g4 : DataW.trod enc Try.prog W 0 sp true n 44 [c5] = some y4 := by simpa [cells_edges] using hf 4 _ rfl
      obtain ⟨zs, n2, _, _, _, hzl, hz⟩ := DataW.trod_struct Try.underlying43 g3
      match zs, hzl with
      | [z0, z1], _ =>
        have k0 : DataW.trod enc Try.prog W 0 sp true n2 3 [c3] = some z0 := by simpa [cells_int] using hz 0 _ rfl
        have k1 : DataW.trod enc Try.prog W 0 sp true n2 3 [c4] = some z1 := by simpa [cells_int] using hz 1 _ rfl
        obtain ⟨es, hes, hcp⟩ := edgesC_of hsp g4
        obtain ⟨b, hb, _⟩ := DataW.trod_bool Try.underlying4 g2
        simp only [List.cons.injEq, and_true] at hb
        refine ⟨⟨intOf c0, intOf c1, b, (intOf c3, intOf c4), es⟩, c5, ?_, hes, hcp⟩
        rw [← int_of g0, ← int_of g1, ← int_of k0, ← int_of k1, hb]
set_option maxRecDepth 100000 in
/-- The argument itself. -/
theorem tableC_of {A0 : Option Addr} {n0 c0 : Nat} (h : DataW.trod enc Try.prog W 0 (fun _ => true) true fuel 22 [.slice A0 n0 c0] = some x) : ∃ xs : List Nd, n0 = xs.length ∧ TblC W (.slice A0 n0 c0) xs ∧ n0 ≤ c0 ∧ c0 ≤ 9223372036854775807 := by
  rcases open_slice Try.underlying22 h with ⟨hcs, _⟩ | ⟨a, len, cap, m, n, D, Pl, hcs, _, hl, hc, hm, _, hall⟩
  · simp only [List.cons.injEq, and_true, Value.slice.injEq] at hcs
    obtain ⟨rfl, rfl, rfl⟩ := hcs
    exact ⟨[], rfl, ⟨none, 0, rfl, fun h => absurd rfl h⟩, by simp, by simp⟩
  · simp only [List.cons.injEq, and_true, Value.slice.injEq] at hcs
    obtain ⟨rfl, rfl, rfl⟩ := hcs
    rw [if_pos rfl] at hm
    obtain ⟨b, off, spot⟩ := a
    have each : ∀ i, i < n0 → ∃ nd : Nd, ∃ v, (∀ j u, [Value.int .i64 nd.kind, Value.int .i64 nd.prio, Value.bool nd.chan, Value.int .i64 nd.pay.1, Value.int .i64 nd.pay.2, v][j]? = some u → W.cell? (((⟨b, off, spot⟩ : Addr).add (i * 6)).add j) = some u) ∧ Edges W v nd.next ∧ ∀ A n c, v = .slice A n c → n ≤ c := fun i hi => by
      obtain ⟨cs', h1, h2⟩ := hall i (by omega)
      rw [cells_node] at h1
      obtain ⟨_, hlen, hcell⟩ := World.cells?_some h1
      obtain ⟨nd, v, rfl, hE, hcp⟩ := nodeC_of (fun _ => rfl) hlen h2
      refine ⟨nd, v, fun j u hu => ?_, hE, hcp⟩
      obtain ⟨hj, rfl⟩ := List.getElem?_eq_some_iff.1 hu
      rw [hcell j (by simpa using hj), List.getElem?_eq_getElem]
    obtain ⟨f, hf⟩ := choose_lt each
    refine ⟨(List.range n0).map f, by simp, ⟨some ⟨b, off, spot⟩, c0, by simp, fun hn => ?_⟩, hl, by unfold maxLen at hc; omega⟩
    have h0 : 0 < n0 := by
      rcases Nat.eq_zero_or_pos n0 with e | e
      · subst e; simp at hn
      · exact e
    have hspot : spot = none := by
      obtain ⟨v, hv, _⟩ := hf 0 h0
      simpa [Addr.add] using World.cell?_spot (hv 0 _ rfl)
    subst hspot
    refine ⟨b, off, rfl, fun i x he => ?_⟩
    rw [List.getElem?_map] at he
    rcases Nat.lt_or_ge i n0 with hi | hi
    · rw [List.getElem?_range hi] at he
      simp only [Option.map_some, Option.some.injEq] at he
      subst he
      obtain ⟨v, hv, hE, hcp⟩ := hf i hi
      have e : ∀ j, ((⟨b, off, none⟩ : Addr).add (i * 6)).add j = ⟨b, off + i * 6 + j, none⟩ := fun j => by rw [add_plain, add_plain]
      have c := fun j u hu => (e j) ▸ hv j u hu
      exact ⟨⟨v, hE, c 0 _ rfl, c 1 _ rfl, c 2 _ rfl, c 3 _ rfl, c 4 _ rfl, c 5 _ rfl⟩, fun A' n' c' h => hcp A' n' c' (by rw [c 5 _ rfl] at h; simpa using h)⟩
    · rw [List.getElem?_eq_none (by simpa using hi)] at he
      simp at he
end
end Go.Proofs.Ytepjkoegbehojaa

/- ClassTables and the rest: few, word. -/
namespace Go.Proofs.Ytepjkoegbehojaa
open Go.RowKit Go.Shelf

/-- A node with no more than nine edges. -/
def cutN (x : Nd) : Nd := { x with next := x.next.take 9 }
def fewL (xs : List Nd) : List Nd := (xs.take 10).map cutN
theorem Edges.take {W : World} {A : Option Addr} {c m : Nat} {es : List Ed} (h : Edges W (.slice A es.length c) es) (hm : m ≤ es.length) : Edges W (.slice A m c) (es.take m) := by
  obtain ⟨A', c', hA, hl, hcl⟩ := h
  simp only [Value.slice.injEq, true_and] at hA
  obtain ⟨rfl, rfl⟩ := hA
  refine ⟨A, c, by rw [List.length_take, Nat.min_eq_left hm], by rw [List.length_take]; omega, fun hn => ?_⟩
  obtain ⟨b, off, hb, hc⟩ := hcl (by intro e; rw [e] at hn; simp at hn)
  refine ⟨b, off, hb, fun i e he => hc i e ?_⟩
  rw [List.getElem?_take] at he
  split at he
  · exact he
  · cases he

/-- What stands in few's loop. -/
def FW (w : World) (xs : List Nd) (k : Nat) (v : Value) (wr : World) : Prop := ∃ ns, ns.length = k ∧ ns.map (·.1) = (xs.take k).map cutN ∧ OT w.heap.size wr v ns ∧ w.grownBy wr none
theorem fw_next {w wr wc W' : World} {xs : List Nd} {k : Nat} {v v' : Value} {ns : List (Nd × Value)} {x : Nd} {e : Value} {o : Obj} (hx : xs[k]? = some x) (hns : ns.length = k) (hm : ns.map (·.1) = (xs.take k).map cutN) (hot : OT w.heap.size wr v ns) (hg : w.grownBy wr none) (hc : wr.grownBy wc none)
    (hot' : OT w.heap.size W' v' (ns ++ [(cutN x, e)])) (hgr : (wc.alloc o).grownBy W' v.ownBlock) : FW w xs (k + 1) v' W' :=
  ⟨_, by simp [hns], by rw [List.map_append, hm, take_len hx, List.map_append]; rfl, hot', grown_own (only_alloc (only_trans hg hc) o) (fun g e => (own_row hot.row g e).1) hgr⟩

set_option maxRecDepth 100000 in
set_option maxHeartbeats 2000000 in
theorem few_any (xs : List Nd) (A : Option Addr) (c : Nat) (w : World) (hT : TblC w (.slice A xs.length c) xs) :
    Calls Try.prog 8 #[.slice A xs.length c] w fun e w' => (∃ v ns, e = .returned v ∧ OT w.heap.size w' v ns ∧ ns.map (·.1) = fewL xs) ∧ w.grownBy w' none := by
  have HT := Lib.hid hT
  clear hT
  have H0 : Hid (FW w xs 0 (.slice none 0 0) w) := ⟨[], rfl, rfl, OT.start _ _, only_refl _ _⟩
  go_enter Try.func8, Try.ntmps8
  go_wp2_with fail
  go_loopw [3, 4] (fun v i wr => ∃ k : Nat, k ≤ xs.length ∧ k ≤ 10 ∧ i = .int .i64 (k : Int) ∧ FW w xs k v wr) (fun _ i _ => 10 - (intOf i).toNat)
  case atStart => exact ⟨0, Nat.zero_le _, by omega, rfl, H0.out⟩
  case round =>
    clear H0
    obtain ⟨k, hk, hk16, rfl, ns, hns, hm, hot, hg⟩ := hrel
    have HO := Lib.hid hot
    have HG := Lib.hid hg
    have HNS := Lib.hid hns
    have HM := Lib.hid hm
    clear hot hg hns hm
    by_cases hlt : k < xs.length
    · by_cases h16 : k < 10
      · have hk0 : (0 : Int) ≤ (k : Int) := by omega
        have hk1 : (k : Int) < (xs.length : Int) := by omega
        have hk2 : (k : Int) < 10 := by omega
        obtain ⟨x, hx⟩ : ∃ x, xs[k]? = some x := ⟨_, List.getElem?_eq_getElem hlt⟩
        have HX := Lib.hid hx
        obtain ⟨A', c', hA, hcl⟩ := HT.out
        obtain ⟨bb, off, hAb, hcl2⟩ := hcl (by intro e0; rw [e0] at hlt; simp at hlt)
        obtain ⟨⟨v', hE, m0, m1, m2, m3, m4, m5⟩, hcap⟩ := hcl2 k x hx
        obtain ⟨rfl, rfl⟩ : A = A' ∧ c = c' := by simpa using hA
        subst hAb
        clear hA hcl hcl2 hx
        obtain ⟨kind, prio, chan, ⟨pa, ps⟩, next⟩ := x
        dsimp only at m0 m1 m2 m3 m4 m5 hE
        have hE3 := hE
        obtain ⟨A2, c2, rfl, hl3, _⟩ := hE3
        have hc2 := hcap _ _ _ m5
        have n0 := Keeps.grown HG.out _ _ m0
        have n1 := Keeps.grown HG.out _ _ m1
        have n2 := Keeps.grown HG.out _ _ m2
        have n3 := Keeps.grown HG.out _ _ m3
        have n4 := Keeps.grown HG.out _ _ m4
        have n5 := Keeps.grown HG.out _ _ m5
        have HN1 : Hid (ns.length ≤ 1000) := show _ ≤ _ by have := HNS.out; omega
        have HB1 : Hid (w.heap.size ≤ wr.heap.size) := HG.out.size
        have hlI : (next.length : Int) ≤ 9223372036854775807 := by omega
        by_cases h9 : next.length ≤ 9
        · have h9' : (next.length : Int) ≤ 9 := by omega
          have HE : Hid (EdgesO w.heap.size wr (.slice A2 next.length c2) (next.take 9)) := by
            rw [List.take_of_length_le h9]
            exact (hE.old (Nat.le_refl _)).kept HG.out
          clear hE m0 m1 m2 m3 m4 m5 hcap
          go_wp2_with (at_builtin; refine wpList_append_node (nd := ⟨kind, prio, chan, (pa, ps), next.take 9⟩) rfl (.tmp 28) (.tmp 30) rfl rfl rfl ((HO.out.kept (only_alloc (only_refl _ _) _)).kept (only_alloc (only_refl _ _) _)) (blk_at (by simp) _ _) ((HE.out.kept (only_alloc (only_refl _ _) _)).kept (only_alloc (only_refl _ _) _)) HN1.out (by have := HB1.out; simp; omega) ?_; intro v2 W2 hot2 hgr2; have HOT2 := Lib.hid hot2; have HGR2 := Lib.hid hgr2; clear hot2 hgr2)
          go_roundw
          case rel => exact ⟨k + 1, by omega, by omega, by go_num, fw_next HX.out HNS.out HM.out HO.out HG.out (only_alloc (only_refl _ _) _) HOT2.out HGR2.out⟩
          case measure => simp [intOf]; omega
        · have h9' : (9 : Int) < (next.length : Int) := by omega
          have HE : Hid (EdgesO w.heap.size wr (.slice A2 9 c2) (next.take 9)) := ((hE.take (by omega)).old (Nat.le_refl _)).kept HG.out
          clear hE m0 m1 m2 m3 m4 m5 hcap
          go_wp2_with (at_builtin; refine wpList_append_node (nd := ⟨kind, prio, chan, (pa, ps), next.take 9⟩) rfl (.tmp 28) (.tmp 30) rfl rfl rfl ((HO.out.kept (only_alloc (only_refl _ _) _)).kept (only_alloc (only_refl _ _) _)) (blk_at (by simp) _ _) ((HE.out.kept (only_alloc (only_refl _ _) _)).kept (only_alloc (only_refl _ _) _)) HN1.out (by have := HB1.out; simp; omega) ?_; intro v2 W2 hot2 hgr2; have HOT2 := Lib.hid hot2; have HGR2 := Lib.hid hgr2; clear hot2 hgr2)
          go_roundw
          case rel => exact ⟨k + 1, by omega, by omega, by go_num, fw_next HX.out HNS.out HM.out HO.out HG.out (only_alloc (only_refl _ _) _) HOT2.out HGR2.out⟩
          case measure => simp [intOf]; omega
      · have hk2 : (10 : Int) ≤ (k : Int) := by omega
        have hk1 : (k : Int) < (xs.length : Int) := by omega
        have HF : Hid ((xs.take k) = xs.take 10) := show _ = _ by rw [show k = 10 by omega]
        go_wp2_with fail
        go_ret
        exact ⟨⟨_, ns, rfl, HO.out, by rw [HM.out, HF.out]; rfl⟩, HG.out⟩
    · have hge : (xs.length : Int) ≤ (k : Int) := by omega
      have HF : Hid ((xs.take k) = xs.take 10) := show _ = _ by rw [List.take_of_length_le (by omega), List.take_of_length_le (by omega)]
      go_wp2_with fail
      go_ret
      exact ⟨⟨_, ns, rfl, HO.out, by rw [HM.out, HF.out]; rfl⟩, HG.out⟩

theorem node_size : (Try.prog.info? 46).map (·.size) = some 6 := by kernel_rfl
theorem word_results {tmps : Array Value} {W : World} {b : Nat} {nd : Nd} {v : Value} (hp : tmps.getD 8 undef = .pointer (some ⟨b, 0, none⟩)) (hb : Blk W b 46 (ndCells nd v)) :
    (results Try.f23 tmps).run Try.prog W = .ok (ndV nd v) W := by
  have hp' : tmps[8]?.getD undef = .pointer (some ⟨b, 0, none⟩) := by simpa using hp
  simp [results, Try.results23, hp', asAddr, run_loadVar_row W b _ 46 _ _ _ hb Try.underlying46 rfl (by exact node_size)]
theorem word_any (k p t s : Int) (w : World) : Calls Try.prog 23 #[.int .i64 k, .int .i64 p, .int .i64 t, .int .i64 s] w fun e w' => e = .returned (ndV ⟨k, p, false, (0, 0), [(t, s)]⟩ (.slice (some ⟨w.heap.size + 1, 0, none⟩) 1 1)) ∧
    w' = (w.alloc (.cells (ndCells ⟨k, p, false, (0, 0), [(t, s)]⟩ (.slice (some ⟨w.heap.size + 1, 0, none⟩) 1 1)) 46)).alloc (.cells (edCells (t, s)) 43) := by
  go_enter Try.func23, Try.ntmps23
  go_wp2_with fail
  exact ⟨rfl, _, word_results rfl ((Blk.new w _ (ndCells ⟨k, p, false, (0, 0), [(t, s)]⟩ (.slice (some ⟨w.heap.size + 1, 0, none⟩) 1 1))).alloc _), rfl, rfl⟩
end Go.Proofs.Ytepjkoegbehojaa

/- The statements' own 'is' and 'works' of layer 7. -/
namespace Go.Proofs.Ytepjkoegbehojaa
open Go.RowKit Go.Shelf

set_option maxRecDepth 10000 in
set_option maxHeartbeats 1000000 in
theorem cis_any (zs : List Int) (vc vo vp u : Value) (w : World) (hO : Ints w vo zs) (hU : Ints w u zs) :
    Calls Try.prog 35 #[.agg #[vc, vo, vp], u] w fun e w' => e = .returned (.bool true) ∧ w.grownBy w' none := by
  have HO := Lib.hid hO
  have HU := Lib.hid hU
  obtain ⟨A, c, rfl, hl, _⟩ := hO
  obtain ⟨B, d, rfl, _, _⟩ := hU
  have HG0 : Hid (w.grownBy (w.alloc (.cells #[vc, .slice A zs.length c, vp] 27)) none) := only_alloc (only_refl _ _) _
  have HB0 : Hid (Blk (w.alloc (.cells #[vc, .slice A zs.length c, vp] 27)) w.heap.size 27 #[vc, .slice A zs.length c, vp]) := Blk.new _ _ _
  go_enter Try.func35, Try.ntmps35
  go_wp2_with fail
  generalize (w.alloc (.cells #[vc, .slice A zs.length c, vp] 27)) = W0 at *
  go_loopw [5] (fun i W => ∃ k : Nat, k ≤ zs.length ∧ i = .int .i64 (k : Int) ∧ W0.grownBy W none) (fun i _ => zs.length - (intOf i).toNat)
  case atStart => exact ⟨0, Nat.zero_le _, rfl, only_refl _ _⟩
  case round =>
    obtain ⟨k, hk, rfl, hg⟩ := hrel
    have HG := Lib.hid hg
    have p1 : wr.cell? ⟨w.heap.size, 1, none⟩ = some (.slice A zs.length c) := (HB0.out.kept hg).cell 1
    have pl := (HB0.out.kept hg).lt
    by_cases hlt : k < zs.length
    · obtain ⟨z, hz⟩ : ∃ z, zs[k]? = some z := ⟨_, List.getElem?_eq_getElem hlt⟩
      obtain ⟨b1, o1, rfl, m1'⟩ := ints_at HO.out hz
      obtain ⟨b2, o2, rfl, m2'⟩ := ints_at HU.out hz
      have m1 := Keeps.grown (only_trans HG0.out hg) _ _ m1'
      have m2 := Keeps.grown (only_trans HG0.out hg) _ _ m2'
      have l1 := cell_lt m1
      have l2 := cell_lt m2
      have hkI : (k : Int) < (zs.length : Int) := by omega
      have hk0 : (0 : Int) ≤ (k : Int) := by omega
      clear m1' m2' hz hg
      go_upto_region 6 with fail
      go_quiet (fail)
      go_wp2_with fail
      go_roundw
      case rel => exact ⟨k + 1, by omega, by go_num, only_drewN_C HG.out _⟩
      case measure => simp [intOf]; omega
    · have hkI : (zs.length : Int) ≤ (k : Int) := by omega
      clear hlt hk hg
      go_wp2_with fail
      go_ret
      exact ⟨rfl, only_trans HG0.out HG.out⟩
/-- A word's node: its one edge lies by itself. -/
theorem word_is (k p t s : Int) (w : World) : Calls Try.prog 23 #[.int .i64 k, .int .i64 p, .int .i64 t, .int .i64 s] w fun e w' => ∃ g, e = .returned (ndV (wd k p t s) (.slice (some ⟨g, 0, none⟩) 1 1)) ∧ Edges w' (.slice (some ⟨g, 0, none⟩) 1 1) [(t, s)] ∧ w.grownBy w' none := by
  refine (word_any k p t s w).mono ?_
  rintro e w' ⟨rfl, rfl⟩
  refine ⟨w.heap.size + 1, rfl, ⟨_, _, rfl, by simp, fun _ => ⟨w.heap.size + 1, 0, rfl, fun i x hx => ?_⟩⟩, only_alloc (only_alloc (only_refl _ _) _) _⟩
  have hb : Blk ((w.alloc (.cells (ndCells ⟨k, p, false, (0, 0), [(t, s)]⟩ (.slice (some ⟨w.heap.size + 1, 0, none⟩) 1 1)) 46)).alloc (.cells (edCells (t, s)) 43)) (w.heap.size + 1) 43 (edCells (t, s)) := blk_at (by simp) _ _
  match i, hx with
  | 0, hx => cases hx; exact ⟨hb.cell 0, hb.cell 1⟩
  | i + 1, hx => simp at hx
/-- A row of nodes, written at once. -/
theorem tbl_rows {W : World} {g : Nat} {ns : List (Nd × Value)} (hb : Blk W g 46 (ndAll ns).toArray) (he : ∀ p ∈ ns, Edges W p.2 p.1.next) : Tbl W (.slice (some ⟨g, 0, none⟩) ns.length ns.length) (ns.map (·.1)) := by
  refine ⟨_, ns.length, by rw [List.length_map], fun _ => ⟨g, 0, rfl, fun i x hx => ?_⟩⟩
  rw [List.getElem?_map] at hx
  obtain ⟨p, hp, rfl⟩ := Option.map_eq_some_iff.1 hx
  have at_ : ∀ j u, j < 6 → (ndCells p.1 p.2).toList[j]? = some u → W.cell? ⟨g, i * 6 + j, none⟩ = some u := fun j u hj hu => by
    rw [hb.cell, List.getElem?_toArray, ndAll_at hp j hj, hu]
  refine ⟨p.2, he p (List.mem_of_getElem? hp), ?_⟩
  rw [Nat.zero_add]
  exact ⟨at_ 0 _ (by omega) rfl, at_ 1 _ (by omega) rfl, at_ 2 _ (by omega) rfl, at_ 3 _ (by omega) rfl, at_ 4 _ (by omega) rfl, at_ 5 _ (by omega) rfl⟩
theorem eds2 {W : World} {x y : Nd × Value} (h1 : Edges W x.2 x.1.next) (h2 : Edges W y.2 y.1.next) : ∀ p ∈ [x, y], Edges W p.2 p.1.next := fun p hp => by
  simp only [List.mem_cons, List.not_mem_nil, or_false] at hp
  rcases hp with rfl | rfl
  · exact h1
  · exact h2
theorem eds3 {W : World} {x y z : Nd × Value} (h1 : Edges W x.2 x.1.next) (h2 : Edges W y.2 y.1.next) (h3 : Edges W z.2 z.1.next) : ∀ p ∈ [x, y, z], Edges W p.2 p.1.next := fun p hp => by
  rcases List.mem_cons.1 hp with rfl | hp
  · exact h1
  · exact eds2 h2 h3 p hp
theorem eds4 {W : World} {x y z u : Nd × Value} (h1 : Edges W x.2 x.1.next) (h2 : Edges W y.2 y.1.next) (h3 : Edges W z.2 z.1.next) (h4 : Edges W u.2 u.1.next) : ∀ p ∈ [x, y, z, u], Edges W p.2 p.1.next := fun p hp => by
  rcases List.mem_cons.1 hp with rfl | hp
  · exact h1
  · exact eds3 h2 h3 h4 p hp
theorem ord_a : orderL exA = (-1, 0) := by kernel_rfl
theorem ord_b : orderL exB = (-1, 0) := by kernel_rfl
theorem ord_c : orderL exC = (-1, 0) := by kernel_rfl
theorem ord_d : orderL exD = (-1, 0) := by kernel_rfl
theorem tab_open {W : World} {v : Value} {T : ClsT} {nc no np : Nat} (h : TabV W v T) (h1 : T.cls.length = nc) (h2 : T.of_.length = no) (h3 : T.prio.length = np) : ∃ A1 c1 A2 c2 A3 c3, v = .agg #[.slice A1 nc c1, .slice A2 no c2, .slice A3 np c3] := by
  obtain ⟨_, _, _, rfl, ⟨A1, c1, rfl, _⟩, ⟨A2, c2, rfl, _⟩, ⟨A3, c3, rfl, _⟩⟩ := h
  rw [h1, h2, h3]
  exact ⟨_, _, _, _, _, _, rfl⟩
theorem len_a : (clsT exA).cls.length = 3 ∧ (clsT exA).of_.length = 4 ∧ (clsT exA).prio.length = 4 := ⟨by kernel_rfl, by kernel_rfl, by kernel_rfl⟩
theorem len_b : (clsT exB).cls.length = 4 ∧ (clsT exB).of_.length = 8 ∧ (clsT exB).prio.length = 8 := ⟨by kernel_rfl, by kernel_rfl, by kernel_rfl⟩
theorem len_d : (clsT exD).cls.length = 2 ∧ (clsT exD).of_.length = 4 ∧ (clsT exD).prio.length = 4 := ⟨by kernel_rfl, by kernel_rfl, by kernel_rfl⟩
theorem len_c : (clsT exC).cls.length = 5 ∧ (clsT exC).of_.length = 6 ∧ (clsT exC).prio.length = 6 := ⟨by kernel_rfl, by kernel_rfl, by kernel_rfl⟩
theorem cl_a : (clsT exA).cls = [⟨1, 2, false, (0, 0), [(1, 0)]⟩, ⟨0, 1, false, (0, 0), []⟩, ⟨2, 0, false, (0, 0), [(1, 0)]⟩] := by kernel_rfl
theorem tab_parts {W : World} {a b c : Value} {T : ClsT} (h : TabV W (.agg #[a, b, c]) T) : Tbl W a T.cls ∧ Ints W b T.of_ ∧ Ints W c T.prio := by
  obtain ⟨x, y, z, e, h1, h2, h3⟩ := h
  simp only [Value.agg.injEq, Array.mk.injEq, List.cons.injEq, and_true] at e
  obtain ⟨rfl, rfl, rfl⟩ := e
  exact ⟨h1, h2, h3⟩
theorem ints_rows {W : World} {g : Nat} {zs : List Int} (hb : Blk W g 3 (inAll zs).toArray) (hl : zs.length ≤ 1000) : Ints W (.slice (some ⟨g, 0, none⟩) zs.length zs.length) zs :=
  ⟨_, zs.length, rfl, by omega, fun _ => ⟨g, 0, rfl, fun i z hz => by
    rw [Nat.zero_add, hb.cell]
    unfold inAll
    simp [hz]⟩⟩
theorem cls_a : (clsT exA).cls.map (·.kind) = [1, 0, 2] := by kernel_rfl

end Go.Proofs.Ytepjkoegbehojaa

/- GraphSpoilt: the walk. -/
import Derived.Test.YthjkgjkiikomdaaGMade
import Derived.Test.YthjkgjkiikomdaaGPut
import Derived.Deep.CutBlock
import Derived.Deep.CutRange
namespace Go.Proofs.Ythjkgjkiikomdaa
open Go.RowKit Go.Shelf

theorem OM.head {base : Nat} {W : World} {v : Value} {ns : List (Nd × Value)} (h : OM base W v ns) (h0 : 0 < ns.length) : ∃ g cap, v = .slice (some ⟨g, 0, none⟩) ns.length cap := by
  rcases h.row.2 with ⟨_, he⟩ | ⟨g, cap, cur, rfl, _⟩
  · omega
  · exact ⟨g, cap, rfl⟩

/-- The table, whose node k is x now. -/
structure SPO (w : World) (base g cap : Nat) (ns : List (Nd × Value)) (k : Nat) (x : Nd) (e : Value) (W : World) : Prop where
  step : w.grownBy W none
  far : w.heap.size ≤ g
  in_ : k < ns.length
  own : OM base W (.slice (some ⟨g, 0, none⟩) ns.length cap) (ns.set k (x, e))
section
variable {w W W1 : World} {base g cap n : Nat} {ns : List (Nd × Value)} {k : Nat} {x : Nd} {e : Value}
theorem SPO.at_ (h : SPO w base g cap ns k x e W) : (ns.set k (x, e))[k]? = some (x, e) := by rw [List.getElem?_set, if_pos rfl, if_pos h.in_]
theorem SPO.own' (h : SPO w base g cap ns k x e W) : OM base W (.slice (some ⟨g, 0, none⟩) (ns.set k (x, e)).length cap) (ns.set k (x, e)) := by rw [List.length_set]; exact h.own
theorem SPO.start {p : Nd × Value} (hs : w.grownBy W none) (hf : w.heap.size ≤ g) (h : OM base W (.slice (some ⟨g, 0, none⟩) ns.length cap) ns) (hk : ns[k]? = some p) : SPO w base g cap ns k p.1 p.2 W := by
  obtain ⟨hl, he⟩ := List.getElem?_eq_some_iff.1 hk
  refine ⟨hs, hf, hl, ?_⟩
  rw [show (p.1, p.2) = ns[k] by rw [he], List.set_getElem_self]
  exact h
theorem SPO.grown (h : SPO w base g cap ns k x e W) (hg : W.grownBy W1 none) : SPO w base g cap ns k x e W1 := ⟨only_trans h.step hg, h.far, h.in_, h.own.kept hg⟩
theorem SPO.put (h : SPO w base g cap ns k x e W) (j : Nat) (hj : j < 6) (u : Value) (y : Nd) (hset : (ndCells x e).toList.set j u = (ndCells y e).toList) (hy : y.next = x.next) : SPO w base g cap ns k y e (W.setCell ⟨g, k * 6 + j, none⟩ u) := by
  have h2 := h.own'.put h.at_ j hj u y hset hy
  rw [List.length_set, List.length_set, List.set_set] at h2
  exact ⟨only_setNew h.step h.far _, h.far, h.in_, h2⟩
theorem SPO.put5 (h : SPO w base g cap ns k x e W) (hg : W.grownBy W1 e.ownBlock) (hw : w.heap.size ≤ base) (e' : Value) (es : List Ed) (hE : EOwn base W1 e' es) (hl : es.length ≤ 1000) (hb : ∀ b, e'.ownBlock = some b → e.ownBlock = some b ∨ W.heap.size ≤ b) :
    SPO w base g cap ns k { x with next := es } e' (W1.setCell ⟨g, k * 6 + 5, none⟩ e') := by
  have h2 := h.own'.put5 h.at_ hg e' es hE hl hb
  rw [List.length_set, List.length_set, List.set_set] at h2
  refine ⟨only_setNew (grown_own h.step (fun b hb => ?_) hg) h.far _, h.far, h.in_, h2⟩
  have := (World.ownsRow.lt (h.own'.eds _ (List.mem_of_getElem? h.at_)).1 b hb).1
  omega
theorem SPO.cell (h : SPO w base g cap ns k x e W) (j : Nat) (u : Value) (hu : (ndCells x e).toList[j]? = some u) (hj : j < 6) : W.cell? ⟨g, k * 6 + j, none⟩ = some u := by
  have h1 := h.own'.row.cells (g := g) rfl (k * 6 + j) u ((ndAll_at h.at_ j hj).trans hu)
  rwa [addr_plain, Nat.zero_add] at h1
theorem SPO.frozen (h : SPO w base g cap ns k x e W) (j : Nat) : W.frozen? ⟨g, k * 6 + j, none⟩ = false := World.ownsRow.frozenAt h.own'.row (k * 6 + j)
theorem SPO.eds (h : SPO w base g cap ns k x e W) : EOwn base W e x.next ∧ x.next.length ≤ 1000 := h.own.eds _ (List.mem_of_getElem? h.at_)
theorem SPO.base_le (h : SPO w base g cap ns k x e W) : base ≤ W.heap.size := by
  have h1 := World.ownsRow.lt h.own.row g rfl
  omega
theorem SPO.put5a {G : Nat} (h : SPO w base g cap ns k x e W) (hw : w.heap.size ≤ base) (hG : W.heap.size = G) (ed : Ed) :
    SPO w base g cap ns k { x with next := [ed] } (.slice (some ⟨G, 0, none⟩) 1 1) ((W.setCell ⟨g, k * 6 + 5, none⟩ (.slice (some ⟨G, 0, none⟩) 1 1)).alloc (.cells (edCells ed) 32)) := by
  subst hG
  have hlt := (World.ownsRow.lt h.own.row g rfl).2
  have hb : Blk (W.alloc (.cells (edCells ed) 32)) W.heap.size 32 (edCells ed) := Blk.new W _ _
  have h1 := h.put5 (W1 := W.alloc (.cells (edCells ed) 32)) (only_weak (only_alloc (only_refl _ _) _) _) hw (.slice (some ⟨W.heap.size, 0, none⟩) 1 1) [ed] (EOwn.one hb h.base_le) (by simp)
    (fun b hb => .inr (by simp only [Value.ownBlock, Option.some.injEq] at hb; omega))
  have e1 : (W.setCell ⟨g, k * 6 + 5, none⟩ (.slice (some ⟨W.heap.size, 0, none⟩) 1 1)).alloc (.cells (edCells ed) 32) = (W.alloc (.cells (edCells ed) 32)).setCell ⟨g, k * 6 + 5, none⟩ (.slice (some ⟨W.heap.size, 0, none⟩) 1 1) := by
    exact (World.setCell_alloc_past _ _ _ _ hlt).symm
  rw [e1]
  exact h1
theorem SPO.after {W' : World} (h : SPO w base g cap ns k x e W) (hg : W.grownBy W' e.ownBlock) : W'.cell? ⟨g, k * 6 + 5, none⟩ = some e ∧ W'.frozen? ⟨g, k * 6 + 5, none⟩ = false := by
  have hlt := (World.ownsRow.lt h.own.row g rfl).2
  have hne : some g ≠ e.ownBlock := fun e1 => h.eds.1.ne_node h.own.row g rfl e1.symm
  exact ⟨(World.cell?_of_block (a := ⟨g, k * 6 + 5, none⟩) (hg.block g hlt hne)).trans (h.cell 5 _ rfl (by omega)), (World.frozen?_of_block (a := ⟨g, k * 6 + 5, none⟩) (hg.block g hlt hne)).trans (h.frozen 5)⟩
/-- What the switch leaves. -/
def SP (w : World) (V : Value) (k : Nat) (ev : Value) (W : World) : Prop := ∃ zs want, ev = .int .i64 want ∧ Tbl W V zs ∧ zs.length ≤ 64 ∧ w.grownBy W none ∧ checkL zs = ((k : Int), want)
theorem SPO.sp (h : SPO w base g cap ns k x e W) (hgd : ∀ p ∈ ns, Good n p.1) (hn : ns.length = n) (h64 : n ≤ 64) (want : Int) (hi : illN n x = want) (hw : want ≠ 0) : SP w (.slice (some ⟨g, 0, none⟩) ns.length cap) k (.int .i64 want) W := by
  have hl : (ns.map (·.1)).length = n := by rw [List.length_map, hn]
  have hx : (ns.map (·.1))[k]? = some (ns[k]'h.in_).1 := by rw [List.getElem?_map, List.getElem?_eq_getElem h.in_]; rfl
  refine ⟨(ns.map (·.1)).set k x, want, rfl, ?_, by rw [List.length_set, hl]; exact h64, h.step, ?_⟩
  · have := h.own.ot.tbl
    rwa [List.map_set] at this
  · rw [check_spoilt (y := x) (fun z hz => ?_) (by rw [hl]; exact h64) hx (by rw [hl, hi]; exact hw), hl, hi]
    obtain ⟨p, hp, rfl⟩ := List.mem_map.1 hz
    rw [hl]
    exact hgd p hp
end

set_option maxRecDepth 100000 in
set_option maxHeartbeats 4000000 in
theorem gspoilt_any (qs : List Qd) (A : Option Addr) (c : Nat) (size a b : Int) (hs0 : 0 ≤ size) (hs1 : size < 256) (ha0 : 0 ≤ a) (ha1 : a < 256) (hb0 : 0 ≤ b) (hb1 : b < 256) (w : World) (hQ : Quads w (.slice A qs.length c) qs) :
    Calls Try.prog 6 #[.slice A qs.length c, .int .u8 size, .agg #[.int .u8 a, .int .u8 b]] w fun e w' => e = .returned (.bool true) ∧ w.grownBy w' none := by
  have HQ := Lib.hid hQ
  clear hQ
  by_cases hq : qs.length = 0
  · have hq' : (qs.length : Int) = 0 := by omega
    go_enter Try.func6, Try.ntmps6
    go_wp2_with (go_at_call 10; go_must (refine (works_any _).mono ?_; rintro e W8 ⟨rfl, hg⟩; have HG := Lib.hid hg; clear hg))
    go_ret
    exact ⟨rfl, only_trans (only_alloc (only_refl _ _) _) HG.out⟩
  · have hq' : ¬ (qs.length : Int) = 0 := by omega
    obtain ⟨n, hn⟩ : ∃ n : Nat, 1 + size % 40 = (n : Int) := ⟨(1 + size % 40).toNat, by omega⟩
    have HN : Hid (1 ≤ n ∧ n ≤ 40) := ⟨by omega, by omega⟩
    have HP : Hid (0 < qs.length) := show _ < _ by omega
    have hn0 : ((n : Int) == 0) = false := beq_eq_false_iff_ne.2 (by omega)
    have hnz : ¬ n = 0 := by omega
    obtain ⟨k, hk⟩ : ∃ k : Nat, a % (n : Int) = (k : Int) := ⟨(a % (n : Int)).toNat, by have := Int.emod_nonneg a (b := (n : Int)) (by omega); omega⟩
    have hkn : (k : Int) < (n : Int) := by have := Int.emod_lt_of_pos a (b := (n : Int)) (by omega); omega
    have hkt : a.tmod (n : Int) = (k : Int) := by rw [Int.tmod_eq_emod_of_nonneg ha0]; exact hk
    clear hq
    go_enter Try.func6, Try.ntmps6
    have HB0 := Lib.hid (Blk.new w 42 #[.int .u8 a, .int .u8 b])
    go_upto_block 0 with (first | (go_at_call 10; go_must (refine (works_any _).mono ?_; rintro e W8 ⟨rfl, hg⟩; have HG := Lib.hid (only_trans (only_alloc (only_refl _ _) _) hg); have HB8 := Lib.hid (HB0.out.kept hg); clear hg)) | (go_at_call 13; go_must (refine (made_any qs _ _ n HN.out.1 HN.out.2 _ (HQ.out.keep (.grown HG.out)) HP.out).mono ?_; rintro e W9 ⟨v, ns, rfl, hg, hom, hlen, hgd⟩; have HG2 := Lib.hid (only_trans HG.out hg); have cb0 : W9.cell? ⟨w.heap.size, 0, none⟩ = some (.int .u8 a) := (HB8.out.kept hg).cell 0; have cb1 : W9.cell? ⟨w.heap.size, 1, none⟩ = some (.int .u8 b) := (HB8.out.kept hg).cell 1; obtain ⟨g, cap, rfl⟩ := hom.head (by rw [hlen]; exact HN.out.1); have HGN : Hid (w.heap.size < g) := show _ < _ from (by have e1 := (World.ownsRow.lt hom.row g rfl).1; have e2 := HB8.out.lt; omega); have hkl : (k : Int) < (ns.length : Int) := (by rw [hlen]; exact hkn); clear hg; have HOM := Lib.hid hom; have HL := Lib.hid hlen; have HGD := Lib.hid hgd; clear hom hlen hgd)))
    have hklN : k < ns.length := by omega
    have HSP : Hid (SPO w W8.heap.size g cap ns k (ns[k]'hklN).1 (ns[k]'hklN).2 W9) := SPO.start HG2.out (by have := HGN.out; omega) HOM.out (List.getElem?_eq_getElem hklN)
    have HX8 : Hid ((ns[k]'hklN).1.next.length ≤ 8) := (HGD.out _ (List.getElem_mem hklN)).2
    generalize (ns[k]'hklN).1 = x at *
    generalize (ns[k]'hklN).2 = e at *
    have HBS : Hid (w.heap.size ≤ W8.heap.size) := show _ ≤ _ by have := HB8.out.lt; omega
    have HNL := Lib.hid hklN
    clear HQ HOM HB0 HB8 hklN
    go_cut [11] from 37 to 106 (fun ev wx => SP w (.slice (some ⟨g, 0, none⟩) ns.length cap) k ev wx)
    case first =>
      have hb9 : b % 9 = 0 ∨ b % 9 = 1 ∨ b % 9 = 2 ∨ b % 9 = 3 ∨ b % 9 = 4 ∨ b % 9 = 5 ∨ b % 9 = 6 ∨ b % 9 = 7 ∨ b % 9 = 8 := by omega
      generalize b % 9 = c9 at *
      have q0 : W9.cell? ⟨g, k * 6, none⟩ = some (.int .i64 x.kind) := HSP.out.cell 0 _ rfl (by omega)
      have q1 : W9.cell? ⟨g, k * 6 + 1, none⟩ = some (.int .i64 x.prio) := HSP.out.cell 1 _ rfl (by omega)
      have q2 : W9.cell? ⟨g, k * 6 + 2, none⟩ = some (.bool x.chan) := HSP.out.cell 2 _ rfl (by omega)
      have q3 : W9.cell? ⟨g, k * 6 + 3, none⟩ = some (.int .i64 x.pay.1) := HSP.out.cell 3 _ rfl (by omega)
      have q4 : W9.cell? ⟨g, k * 6 + 4, none⟩ = some (.int .i64 x.pay.2) := HSP.out.cell 4 _ rfl (by omega)
      have q5 : W9.cell? ⟨g, k * 6 + 5, none⟩ = some e := HSP.out.cell 5 _ rfl (by omega)
      have f0 : W9.frozen? ⟨g, k * 6, none⟩ = false := HSP.out.frozen 0
      have f1 := HSP.out.frozen 1
      have f2 := HSP.out.frozen 2
      have f3 := HSP.out.frozen 3
      have f4 := HSP.out.frozen 4
      have f5 := HSP.out.frozen 5
      have hgl := cell_lt q0
      rcases hb9 with rfl | rfl | rfl | rfl | rfl | rfl | rfl | rfl | rfl
      · go_wp2_with fail
        go_meet
        exact (HSP.out.put 0 (by omega) (.int .i64 (6 + a)) { x with kind := 6 + a } rfl rfl).sp HGD.out HL.out (by have := HN.out; omega) 7 (ill_kind (.inr (by show 5 < 6 + a; omega))) (by decide)
      · go_wp2_with fail
        go_meet
        exact (HSP.out.put 0 (by omega) (.int .i64 (-1)) { x with kind := -1 } rfl rfl).sp HGD.out HL.out (by have := HN.out; omega) 7 (ill_kind (.inl (show (-1 : Int) < 0 by decide))) (by decide)
      · go_wp2_with fail
        go_meet
        exact (HSP.out.put 1 (by omega) (.int .i64 1001) { x with prio := 1001 } rfl rfl).sp HGD.out HL.out (by have := HN.out; omega) 7 (ill_prio (.inr (show (1000 : Int) < 1001 by decide))) (by decide)
      · go_wp2_with fail
        go_meet
        exact (HSP.out.put 1 (by omega) (.int .i64 (-1)) { x with prio := -1 } rfl rfl).sp HGD.out HL.out (by have := HN.out; omega) 7 (ill_prio (.inl (show (-1 : Int) < 0 by decide))) (by decide)
      · obtain ⟨v', W', hr, ho, hgr, hbk⟩ := run_append_nine 33 W9 HSP.out.eds.1 HSP.out.eds.2 HSP.out.base_le
        obtain ⟨A', c', rfl⟩ := ho.len
        obtain ⟨q5', f5'⟩ := HSP.out.after hgr
        have HR := Lib.hid hr
        have HO := Lib.hid ho
        have HGR := Lib.hid hgr
        have HBK := Lib.hid hbk
        clear hr ho hgr hbk
        go_wp2_with (at_builtin; refine Lib.wpList_append_run W9 rfl (.tmp 73) (.const (.int .i64 9)) 33 3 rfl e (.int .i64 9) rfl rfl _ _ HR.out ?_)
        go_meet
        have h9 := (HSP.out.put5 HGR.out HBS.out _ _ HO.out (by have := HX8.out; simp; omega) HBK.out).sp HGD.out HL.out (by have := HN.out; omega) 7 (ill_many (by simp)) (by decide)
        rw [show (x.next ++ nineL).length = x.next.length + 9 by simp] at h9
        exact h9
      · go_wp2_with fail
        go_meet
        exact ((HSP.out.put 2 (by omega) (.bool false) { x with chan := false } rfl rfl).put 4 (by omega) (.int .i64 1) { x with chan := false, pay := (x.pay.1, 1) } rfl rfl).sp HGD.out HL.out (by have := HN.out; omega) 7 (ill_pay rfl (show (1 : Int) ≠ 0 by decide)) (by decide)
      · go_wp2_with fail
        go_meet
        exact ((HSP.out.put 0 (by omega) (.int .i64 3) { x with kind := 3 } rfl rfl).put5 (only_refl _ _) HBS.out (.slice none 0 0) [] (EOwn.nil_ _ _) (by simp) (fun b hb => by cases hb)).sp HGD.out HL.out (by have := HN.out; omega) 7 (ill_none rfl rfl) (by decide)
      · go_wp2_with fail
        go_meet
        exact (((HSP.out.put 0 (by omega) (.int .i64 4) { x with kind := 4 } rfl rfl).put 2 (by omega) (.bool true) { x with kind := 4, chan := true } rfl rfl).put5a HBS.out (by simp) (0, 0)).sp HGD.out HL.out (by have := HN.out; omega) 7 (ill_chan rfl rfl) (by decide)
      · go_wp2_with fail
        go_meet
        exact ((((((HSP.out.put 0 (by omega) (.int .i64 2) { x with kind := 2 } rfl rfl).put 1 (by omega) (.int .i64 0) { x with kind := 2, prio := 0 } rfl rfl).put 2 (by omega) (.bool false) { x with kind := 2, prio := 0, chan := false } rfl rfl).put 3 (by omega) (.int .i64 0) { x with kind := 2, prio := 0, chan := false, pay := (0, x.pay.2) } rfl rfl).put 4 (by omega) (.int .i64 0) { x with kind := 2, prio := 0, chan := false, pay := (0, 0) } rfl rfl).put5a HBS.out (by simp) ((n : Int), 0)).sp HGD.out HL.out (by have := HN.out; omega) 8 (ill_edge_out n) (by decide)
    case rest =>
      obtain ⟨zs, want, rfl, hT, hz, hg, hc⟩ := hcut
      have HC := Lib.hid hc
      have HG3 := Lib.hid hg
      clear hc hg
      go_wp2_with (go_at_call 8; go_must (refine (check_any zs _ _ hT (by omega)).mono ?_; rw [HC.out]; rintro e W9 ⟨rfl, hg⟩; have HG4 := Lib.hid hg; clear hg))
      go_ret
      exact ⟨rfl, only_trans HG3.out HG4.out⟩
end Go.Proofs.Ythjkgjkiikomdaa

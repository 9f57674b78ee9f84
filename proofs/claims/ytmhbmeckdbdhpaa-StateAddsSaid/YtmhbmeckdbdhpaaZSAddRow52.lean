/- Texts joined for the claim's sake: SStr, SAdd. -/
import Derived.Test.YtmhbmeckdbdhpaaZSAddRow47
import Derived.Test.YtmhbmeckdbdhpaaZSAddRow49
import Derived.Test.YtmhbmeckdbdhpaaZSAddRow51
import Derived.Test.YtmhbmeckdbdhpaaZSAddRow50
namespace Go.Proofs.Ytmhbmeckdbdhpaa
open Go.RowKit

theorem st_int {z : StT} {k : Nat} (hk : k < (stC z).size) : ∃ n, (stC z)[k]? = some (.int .i64 n) := by
  have h : ∀ u ∈ stL z, ∃ n, u = .int .i64 n := fun u hu => by
    unfold stL at hu
    simp only [List.mem_cons] at hu
    rcases hu with rfl | rfl | hu
    · exact ⟨_, rfl⟩
    · exact ⟨_, rfl⟩
    · unfold rgL at hu
      obtain ⟨x, _, hx⟩ := List.mem_flatMap.1 hu
      simp only [List.mem_cons, List.not_mem_nil, or_false] at hx
      rcases hx with rfl | rfl | rfl <;> exact ⟨_, rfl⟩
  obtain ⟨n, hn⟩ := h (stC z)[k] (by
    have : (stC z)[k] ∈ (stC z).toList := Array.mem_toList_iff.2 (Array.getElem_mem hk)
    exact this)
  exact ⟨n, by rw [Array.getElem?_eq_getElem hk, hn]⟩
theorem Edges.stir {W W' : World} {g : Nat} {s z : StT} {v : Value} {es : List Ed} (h : Edges W v es) (hs : StB W g s) (hz : StB W' g z) (l1 : s.regs.length = 16) (l2 : z.regs.length = 16) (hg : W.grownBy W' (some g)) : ∃ es', Edges W' v es' := by
  obtain ⟨A, c, h1, hl, h2⟩ := h
  by_cases hn : es = []
  · subst hn
    exact ⟨[], A, c, h1, hl, fun h => absurd rfl h⟩
  · obtain ⟨b, off, hA, h3⟩ := h2 hn
    by_cases hb : b = g
    · subst hb
      have hc : ∀ (i : Nat), i < es.length → ∃ m n, W'.cell? ⟨b, off + i * 2, none⟩ = some (.int .i64 m) ∧ W'.cell? ⟨b, off + i * 2 + 1, none⟩ = some (.int .i64 n) := fun i hi => by
        obtain ⟨h4, h5⟩ := h3 i _ (List.getElem?_eq_getElem hi)
        rw [hs.cell _] at h4 h5
        have k4 := (Array.getElem?_eq_some_iff.1 h4).1
        have k5 := (Array.getElem?_eq_some_iff.1 h5).1
        rw [st_size l1, ← st_size l2] at k4 k5
        obtain ⟨m, hm⟩ := st_int k4
        obtain ⟨n, hn⟩ := st_int k5
        exact ⟨m, n, by rw [hz.cell _]; exact hm, by rw [hz.cell _]; exact hn⟩
      refine ⟨(List.range es.length).map fun i => (intOf ((W'.cell? ⟨b, off + i * 2, none⟩).getD undef), intOf ((W'.cell? ⟨b, off + i * 2 + 1, none⟩).getD undef)), A, c, by rw [h1]; simp, by simpa using hl, fun _ => ⟨b, off, hA, fun i e he => ?_⟩⟩
      rw [List.getElem?_map] at he
      obtain ⟨j, hj, rfl⟩ := Option.map_eq_some_iff.1 he
      obtain ⟨hi, rfl⟩ : i < es.length ∧ i = j := by
        have := List.getElem?_eq_some_iff.1 hj
        obtain ⟨h1, h2⟩ := this
        simp at h1 h2
        exact ⟨h1, h2⟩
      obtain ⟨m, n, hm, hn'⟩ := hc i hi
      rw [hm, hn']
      exact ⟨rfl, rfl⟩
    · exact ⟨es, A, c, h1, hl, fun _ => ⟨b, off, hA, fun i e he => ⟨cell_rowS hg hb (h3 i e he).1, cell_rowS hg hb (h3 i e he).2⟩⟩⟩
theorem NdAt.stir {W W' : World} {g b off : Nat} {s z : StT} {x : Nd} (h : NdAt W b off x) (hs : StB W g s) (hz : StB W' g z) (l1 : s.regs.length = 16) (l2 : z.regs.length = 16) (hg : W.grownBy W' (some g)) : ∃ x', NdAt W' b off x' := by
  obtain ⟨v, h0, h1, h2, h3, h4, h5, h6⟩ := h
  have hb : b ≠ g := fun e => by
    subst e
    rw [hs.cell _] at h3
    obtain ⟨n, hn⟩ := st_int (Array.getElem?_eq_some_iff.1 h3).1
    rw [hn] at h3
    cases h3
  obtain ⟨es, he⟩ := h0.stir hs hz l1 l2 hg
  exact ⟨{ x with next := es }, v, he, cell_rowS hg hb h1, cell_rowS hg hb h2, cell_rowS hg hb h3, cell_rowS hg hb h4, cell_rowS hg hb h5, cell_rowS hg hb h6⟩
theorem Tbl.stir {W W' : World} {g : Nat} {s z : StT} {v : Value} {xs : List Nd} (h : Tbl W v xs) (hs : StB W g s) (hz : StB W' g z) (l1 : s.regs.length = 16) (l2 : z.regs.length = 16) (hg : W.grownBy W' (some g)) : ∃ xs', xs'.length = xs.length ∧ Tbl W' v xs' := by
  obtain ⟨A, c, h1, h2⟩ := h
  by_cases hn : xs = []
  · subst hn
    exact ⟨[], rfl, A, c, h1, fun h => absurd rfl h⟩
  · obtain ⟨b, off, hA, h3⟩ := h2 hn
    have hc : ∀ i : Nat, ∃ x', i < xs.length → NdAt W' b (off + i * 6) x' := fun i => by
      by_cases hi : i < xs.length
      · obtain ⟨x', hx⟩ := (h3 i _ (List.getElem?_eq_getElem hi)).stir hs hz l1 l2 hg
        exact ⟨x', fun _ => hx⟩
      · exact ⟨⟨0, 0, false, (0, 0), []⟩, fun h => absurd h hi⟩
    refine ⟨(List.range xs.length).map fun i => Classical.choose (hc i), by simp, A, c, by rw [h1]; simp, fun _ => ⟨b, off, hA, fun i x hx => ?_⟩⟩
    rw [List.getElem?_map] at hx
    obtain ⟨j, hj, rfl⟩ := Option.map_eq_some_iff.1 hx
    obtain ⟨hi, rfl⟩ : i < xs.length ∧ i = j := by
      obtain ⟨h1, h2⟩ := List.getElem?_eq_some_iff.1 hj
      simp at h1 h2
      exact ⟨h1, h2⟩
    exact Classical.choose_spec (hc i) hi
end Go.Proofs.Ytmhbmeckdbdhpaa

namespace Go.Proofs.Ytmhbmeckdbdhpaa
open Go.RowKit Go.Shelf Rg

structure AdI (w : World) (bs bt bf : Nat) (z : StT) (l0 l1 : Int) (vc vo vp vq : Value) (X : List Nd) (W : World) : Prop where
  gr : w.grownBy W none
  s : StB W bs z
  t : Blk W bt 49 #[.int .i64 l0, .int .i64 l1]
  f : Blk W bf 35 #[vc, vo, vp, vq]
  tb : Tbl W vc X
theorem AdI.kept {w W W' : World} {bs bt bf : Nat} {z : StT} {l0 l1 : Int} {vc vo vp vq : Value} {X : List Nd} (h : AdI w bs bt bf z l0 l1 vc vo vp vq X W) (hg : W.grownBy W' none) : AdI w bs bt bf z l0 l1 vc vo vp vq X W' := ⟨only_trans h.gr hg, h.s.kept hg, h.t.kept hg, h.f.kept hg, h.tb.keep (.grown hg)⟩
theorem facts_small (xs : List Nd) (ts : List (List Prm)) : (factsA xs ts).2.1.cls.length ≤ 1000000 := by
  unfold factsA
  split
  · split
    · exact clsT_lens xs
    · exact Nat.zero_le _
  · exact Nat.zero_le _
theorem facts_none {xs : List Nd} {ts : List (List Prm)} (h : (factsA xs ts).1 ≠ 0) : (factsA xs ts).2 = (emptyC, []) := by
  unfold factsA at h ⊢
  split
  · rename_i h0
    rw [if_pos h0] at h
    split
    · rename_i h1
      rw [if_pos h1] at h
      exact absurd rfl h
    · rfl
  · rfl
theorem tmod_501 (z : Int) : -1000 < z.tmod 501 ∧ z.tmod 501 < 1000 := by
  have h1 := Int.lt_tmod_of_pos z (b := 501) (by omega)
  have h2 := Int.tmod_lt_of_pos z (b := 501) (by omega)
  omega
theorem AdI.setS {w W : World} {bs bt bf : Nat} {s z : StT} {l0 l1 : Int} {vc vo vp vq : Value} {X : List Nd} (h : AdI w bs bt bf s l0 l1 vc vo vp vq X W) (hb : w.heap.size ≤ bs) (ht : bt ≠ bs) (hf : bf ≠ bs) (h1 : s.regs.length = 16) (h2 : z.regs.length = 16) : ∃ X', X'.length = X.length ∧ AdI w bs bt bf z l0 l1 vc vo vp vq X' (W.setRow bs (stC z)) := by
  have hg : W.grownBy (W.setRow bs (stC z)) (some bs) := only_rowM _ _ _
  have hz : StB (W.setRow bs (stC z)) bs z := h.s.rowM _
  obtain ⟨X', hX, htb⟩ := h.tb.stir h.s hz h1 h2 hg
  exact ⟨X', hX, only_new h.gr hg hb, hz, h.t.grown hg (fun e => by injection e with e; exact ht e), h.f.grown hg (fun e => by injection e with e; exact hf e), htb⟩
set_option maxRecDepth 100000 in
set_option maxHeartbeats 4000000 in
theorem sadds_any (xs : List Nd) (ts : List (List Prm)) (v0 v1 v2 v3 v4 v5 v6 v7 : Value) (s : StT) (l0 l1 : Int) (w : World) (hT : TblC w v0 xs) (hP : TplsV w v1 ts) (hs : s.regs.length = 16) :
    Calls Try.prog 4 #[.agg #[v0, v1, v2, v3, v4, v5, v6, v7], stV s, .agg #[.int .i64 l0, .int .i64 l1]] w fun e w' => e = .returned (.bool true) ∧ w.grownBy w' none := by
  have HT := Lib.hid hT
  have HP := Lib.hid hP
  have HS := Lib.hid hs
  clear hT hP hs
  go_enter Try.func4, Try.ntmps4
  go_upto_region 1 with fail
  obtain ⟨W0, hW0⟩ : ∃ W0, (((w.alloc (.cells #[v0, v1, v2, v3, v4, v5, v6, v7] 28)).alloc (.cells (stC s) 45)).alloc (.cells #[.int .i64 l0, .int .i64 l1] 49)) = W0 := ⟨_, rfl⟩
  have hg0 : w.grownBy W0 none := by rw [← hW0]; exact only_alloc (only_alloc (only_alloc (only_refl _ _) _) _) _
  have hm0 : Blk W0 w.heap.size 28 #[v0, v1, v2, v3, v4, v5, v6, v7] := by rw [← hW0]; exact ((Blk.new _ _ _).alloc _).alloc _
  have hs0 : StB W0 (w.heap.size + 1) s := by rw [← hW0]; exact (blk_at (by simp) _ _).alloc _
  have ht0 : Blk W0 (w.heap.size + 1 + 1) 49 #[.int .i64 l0, .int .i64 l1] := by rw [← hW0]; exact blk_at (by simp) _ _
  rw [hW0]
  have HG0 := Lib.hid hg0
  have HM0 := Lib.hid hm0
  have HS0 := Lib.hid hs0
  have HT0 := Lib.hid ht0
  clear hW0 hg0 hm0 hs0 ht0
  go_upto_region 3 with (first | (go_at_call 13; go_must (refine (works_any _).mono ?_; rintro e w1 ⟨rfl, hg⟩; have HG1 := Lib.hid hg; clear hg)) | fail)
  have hm1 := HM0.out.kept HG1.out
  have m0 := hm1.cell 0
  have m1 := hm1.cell 1
  have m2 := hm1.cell 2
  have m3 := hm1.cell 3
  have m4 := hm1.cell 4
  have m5 := hm1.cell 5
  have m6 := hm1.cell 6
  have m7 := hm1.cell 7
  have lm := hm1.lt
  have HG01 := Lib.hid (only_trans HG0.out HG1.out)
  clear hm1
  obtain ⟨oe, hoe⟩ : ∃ oe, (factsA (fewX xs) (fewP ts)).1 = oe := ⟨_, rfl⟩
  have HOE := Lib.hid hoe
  clear hoe
  have hx10 : (fewX xs).length ≤ 1000 := by unfold fewX; rw [List.length_map, List.length_take]; omega
  have ht4 : (fewP ts).length ≤ 1000 := by unfold fewP; rw [List.length_map, List.length_take]; omega
  have hp10 : ∀ l ∈ fewP ts, l.length ≤ 1000 := by
    unfold fewP
    intro l hl
    obtain ⟨l', _, rfl⟩ := List.mem_map.1 hl
    rw [List.length_take]
    omega
  have HX10 := Lib.hid hx10
  have HT4 := Lib.hid ht4
  have HP10 := Lib.hid hp10
  clear hx10 ht4 hp10
  go_upto_region 4 with (first
    | (go_at_call 6; go_must (refine (fewX_any xs ts v0 v1 v2 v3 v4 v5 v6 v7 _ (HT.out.keep (.grown HG01.out)) (HP.out.keep (.grown HG01.out))).mono ?_; rintro e w2 ⟨⟨u0, u1, rfl, hu0, hu1⟩, hg⟩; have HU0 := Lib.hid hu0; have HU1 := Lib.hid hu1; have HG2 := Lib.hid hg; clear hu0 hu1 hg))
    | (go_at_call 7; go_must (refine (sfacts_any (fewX xs) (fewP ts) u0 u1 (.slice none 0 0) (.slice none 0 0) (.slice none 0 0) (.slice none 0 0) (.slice none 0 0) (.slice none 0 0) _ HU0.out HU1.out HX10.out HT4.out HP10.out).mono ?_; rw [HOE.out]; rintro e w3 ⟨⟨fv, rfl, hf⟩, hg⟩; have HFV := Lib.hid hf; have HG3 := Lib.hid hg; obtain ⟨A1, n1, c1, A2, n2, c2, A3, n3, c3, A4, n4, c4, rfl⟩ := fac_shape hf; clear hf hg))
    | fail)
  have hfr : Blk (w3.alloc (.cells #[.slice A1 n1 c1, .slice A2 n2 c2, .slice A3 n3 c3, .slice A4 n4 c4] 35)) w3.heap.size 35 #[.slice A1 n1 c1, .slice A2 n2 c2, .slice A3 n3 c3, .slice A4 n4 c4] := Blk.new _ _ _
  have hg34 : w3.grownBy (w3.alloc (.cells #[.slice A1 n1 c1, .slice A2 n2 c2, .slice A3 n3 c3, .slice A4 n4 c4] 35)) none := only_alloc (only_refl _ _) _
  have HL3 : Hid (w.heap.size + 3 ≤ w3.heap.size) := Lib.hid (by have h1 := HT0.out.lt; have h2 := (only_trans HG1.out (only_trans HG2.out HG3.out)).size; omega)
  obtain ⟨bf, hbf⟩ : ∃ bf, w3.heap.size = bf := ⟨_, rfl⟩
  rw [hbf] at hfr HL3
  rw [hbf]
  obtain ⟨W4, hW4⟩ : ∃ W4, w3.alloc (.cells #[.slice A1 n1 c1, .slice A2 n2 c2, .slice A3 n3 c3, .slice A4 n4 c4] 35) = W4 := ⟨_, rfl⟩
  rw [hW4] at hfr hg34
  rw [hW4]
  have HG4 : Hid (w.grownBy W4 none) := Lib.hid (only_trans HG01.out (only_trans HG2.out (only_trans HG3.out hg34)))
  have HI4 : Hid (AdI w (w.heap.size + 1) (w.heap.size + 1 + 1) bf s l0 l1 (.slice A1 n1 c1) (.slice A2 n2 c2) (.slice A3 n3 c3) (.slice A4 n4 c4) (factsA (fewX xs) (fewP ts)).2.1.cls W4) := Lib.hid
    ⟨HG4.out, Blk.kept HS0.out (only_trans HG1.out (only_trans HG2.out (only_trans HG3.out hg34))), HT0.out.kept (only_trans HG1.out (only_trans HG2.out (only_trans HG3.out hg34))), hfr, HFV.out.tbl.keep (.grown hg34)⟩
  have HPR : Hid (ParsV W4 (.slice A4 n4 c4) (factsA (fewX xs) (fewP ts)).2.2) := Lib.hid (HFV.out.pars.keep (.grown hg34))
  clear m0 m1 m2 m3 m4 m5 m6 m7 lm hW4 hbf hfr hg34 HFV HG0 HM0 HS0 HT0 HG1 HG01 HG2 HG3 HU0 HU1
  by_cases he : oe = 0
  · subst he
    have HXL : Hid ((factsA (fewX xs) (fewP ts)).2.1.cls.length ≤ 1000000) := Lib.hid (facts_small _ _)
    generalize (factsA (fewX xs) (fewP ts)).2.1.cls = X at *
    clear HPR HOE HX10 HT4 HP10 HT HP
    have f0 := HI4.out.f.cell 0
    have f1 := HI4.out.f.cell 1
    have f2 := HI4.out.f.cell 2
    have f3 := HI4.out.f.cell 3
    have lf := HI4.out.f.lt
    go_upto_region 6 with fail
    go_upto_region 7 with (first
      | (refine wpList_load_st rfl (.tmp 4) rfl rfl HS.out HI4.out.s ?_)
      | (go_at_call 14; go_must (refine (small_any X (.slice A1 n1 c1) (.slice A2 n2 c2) (.slice A3 n3 c3) (.slice A4 n4 c4) s _ HI4.out.tb HXL.out HS.out).mono ?_; rintro e w5 ⟨⟨z, rfl, hz⟩, hg⟩; have HZ := Lib.hid hz; have HG5 := Lib.hid hg; clear hz hg))
      | (refine wpList_store_st (s := z) rfl (.tmp 4) (.tmp 47) rfl rfl rfl HZ.out.len HS.out (HI4.out.s.kept HG5.out) ?_)
      | fail)
    obtain ⟨X6, hX6, hi6⟩ := (HI4.out.kept HG5.out).setS (z := z) (by omega) (by omega) (by have := HL3.out; omega) HS.out HZ.out.len
    have HX6 : Hid (X6.length ≤ 1000000) := Lib.hid (by rw [hX6]; exact HXL.out)
    have HI6 := Lib.hid hi6
    simp only [Act.put]
    clear f0 f1 f2 f3 lf hi6 hX6 HI4 HG5 HG4 HXL
    generalize (w5.setRow _ _) = W6 at *
    have t0 := HI6.out.t.cell 0
    have t1 := HI6.out.t.cell 1
    have lt := HI6.out.t.lt
    refine region_both (by kernel_rfl) [(48, .pointer (some ⟨w.heap.size + 1 + 1, 0, none⟩)), (49, .int .i64 l0), (50, .int .i64 (l0.tmod 501)), (51, .pointer (some ⟨w.heap.size + 1 + 1, 1, none⟩)), (52, .int .i64 l1), (53, .int .i64 (l1.tmod 501)), (9, .int .i64 (l0.tmod 501)), (10, .int .i64 (l1.tmod 501))] [(5, .pointer (some ⟨w.heap.size + 1 + 1, 0, none⟩))] [] trivial (by kernel_rfl) [48, 49, 50, 51, 52, 53, 9, 10] (by kernel_rfl) (by kernel_rfl) (by decide) (by kernel_rfl) (by kernel_rfl) ⟨rfl, trivial⟩ ?hops7 ?hQ7
    case hops7 =>
      exact ⟨obv (t := 48) rfl rfl rfl (sv_arr0 rfl rfl), obv (t := 49) rfl rfl rfl (sv_int rfl rfl t0), obv (t := 50) rfl rfl rfl (sv_rem rfl rfl), obv (t := 51) rfl rfl rfl (sv_arr1 rfl rfl), obv (t := 52) rfl rfl rfl (sv_int rfl rfl t1), obv (t := 53) rfl rfl rfl (sv_rem rfl rfl), obv (t := 9) rfl rfl rfl (sv_assign rfl rfl), obv (t := 10) rfl rfl rfl (sv_assign rfl rfl), trivial⟩
    case hQ7 =>
    intro vs7 W7 hg7 hv _
    have h9 : vs7 9 = .int .i64 (l0.tmod 501) := hv 9 _ rfl (by decide)
    have h10 : vs7 10 = .int .i64 (l1.tmod 501) := hv 10 _ rfl (by decide)
    simp only [List.foldl_cons, List.foldl_nil, List.setIfInBounds_toArray, List.set_cons_zero, List.set_cons_succ, h9, h10]
    have HI7 := Lib.hid (HI6.out.kept hg7)
    have HA : Hid (-1000 < l0.tmod 501 ∧ l0.tmod 501 < 1000) := Lib.hid (tmod_501 _)
    have HB : Hid (-1000 < l1.tmod 501 ∧ l1.tmod 501 < 1000) := Lib.hid (tmod_501 _)
    clear hv h9 h10 hg7 t0 t1 lt HI6
    generalize l0.tmod 501 = a at *
    generalize l1.tmod 501 = b at *
    generalize vs7 48 = x48
    generalize vs7 49 = x49
    generalize vs7 50 = x50
    generalize vs7 51 = x51
    generalize vs7 52 = x52
    generalize vs7 53 = x53
    have f0 := HI7.out.f.cell 0
    have f1 := HI7.out.f.cell 1
    have f2 := HI7.out.f.cell 2
    have f3 := HI7.out.f.cell 3
    have lf := HI7.out.f.lt
    obtain ⟨r, hr⟩ : ∃ r, raiseA X6 z = r := ⟨_, rfl⟩
    have HR := Lib.hid hr
    have hrl : r.regs.length = 16 := by rw [← hr, (raise_regs _ _).1]; exact HZ.out.len
    have HRL := Lib.hid hrl
    clear hr hrl
    go_upto_region 9 with (first
      | (refine wpList_load_st rfl (.tmp 4) rfl rfl HZ.out.len HI7.out.s ?_)
      | (go_at_call 15; go_must (refine (sraise_any X6 (.slice A1 n1 c1) (.slice A2 n2 c2) (.slice A3 n3 c3) (.slice A4 n4 c4) z _ HI7.out.tb HX6.out HZ.out.len).mono ?_; rw [HR.out]; rintro e w8 ⟨rfl, hg⟩; have HG8 := Lib.hid hg; clear hg))
      | (refine wpList_alloc_st rfl rfl ?_)
      | (refine wpList_store_st (s := r) (s0 := zeroT) rfl (.tmp 11) (.tmp 56) rfl rfl rfl HRL.out rfl (Blk.new _ _ _) ?_)
      | fail)
    simp only [Act.put, List.setIfInBounds_toArray, List.set_cons_zero, List.set_cons_succ]
    have hgn : W7.grownBy ((w8.alloc (.cells (stC zeroT) 45)).setRow w8.heap.size (stC r)) none := only_new (only_alloc HG8.out _) (only_rowM _ _ _) HG8.out.size
    have hsr : StB ((w8.alloc (.cells (stC zeroT) 45)).setRow w8.heap.size (stC r)) w8.heap.size r := Blk.rowM (Blk.new _ _ _) _
    have HI8 := Lib.hid (HI7.out.kept hgn)
    have HS8 := Lib.hid hsr
    clear f0 f1 f2 f3 lf hgn hsr HI7 HG8
    generalize (World.setRow _ _ _) = W8 at *
    generalize w8.heap.size = g11 at *
    have f0 := HI8.out.f.cell 0
    have f1 := HI8.out.f.cell 1
    have f2 := HI8.out.f.cell 2
    have f3 := HI8.out.f.cell 3
    have lf := HI8.out.f.lt
    obtain ⟨lo, hlo⟩ : ∃ lo, leastA X6 z = lo := ⟨_, rfl⟩
    have HLO := Lib.hid hlo
    clear hlo
    obtain ⟨m, hm⟩ : ∃ m, lo.getD 0 = m := ⟨_, rfl⟩
    obtain ⟨is, his⟩ : ∃ is, lo.isSome = is := ⟨_, rfl⟩
    have HLV : Hid (leastV lo = .tuple #[.int .i64 m, .bool is]) := Lib.hid (by rw [← hm, ← his])
    have HLM : Hid (∀ x ∈ z.regs, busyB X6 x = true → is = true ∧ m ≤ x.prio) := Lib.hid fun x hx hb => by
      obtain ⟨q, hq, hle⟩ := least_le hx hb
      rw [HLO.out] at hq
      subst hq
      exact ⟨his.symm, by rw [← hm]; exact hle⟩
    have HLR : Hid ((is = false → r = z) ∧ (is = true → r.lv = m ∧ leastA X6 z = some m)) := Lib.hid (by
      have h1 := HR.out
      have h2 := HLO.out
      cases lo with
      | none =>
        refine ⟨fun _ => ?_, fun e => (by rw [← his] at e; cases e)⟩
        rw [← h1]
        unfold raiseA
        rw [h2]
      | some q =>
        refine ⟨fun e => (by rw [← his] at e; cases e), fun _ => ?_⟩
        have hq : q = m := hm
        subst hq
        refine ⟨?_, h2⟩
        rw [← h1]
        unfold raiseA
        rw [h2])
    clear hm his
    go_upto_region 10 with (first
      | (refine wpList_load_st rfl (.tmp 4) rfl rfl HZ.out.len HI8.out.s ?_)
      | (go_at_call 16; go_must (refine (sleast_any X6 (.slice A1 n1 c1) (.slice A2 n2 c2) (.slice A3 n3 c3) (.slice A4 n4 c4) z _ HI8.out.tb HX6.out HZ.out.len).mono ?_; rw [HLO.out, HLV.out]; rintro e w9 ⟨rfl, hg⟩; have HG9 := Lib.hid hg; clear hg))
      | fail)
    clear f0 f1 f2 f3 lf
    have HI9 := Lib.hid (HI8.out.kept HG9.out)
    have HS9 : Hid (StB w9 g11 r) := Lib.hid (Blk.kept HS8.out HG9.out)
    clear HI8 HS8 HG9 HLO HLV
    go_wp2_with fail
    go_loopw [14] (fun i wr => ∃ k : Nat, k ≤ 16 ∧ i = .int .i64 (k : Int) ∧ w9.grownBy wr none) (fun i _ => 16 - (intOf i).toNat)
    case atStart => exact ⟨0, Nat.zero_le _, rfl, only_refl _ _⟩
    case round =>
      obtain ⟨k, hk, rfl, hgr⟩ := hrel
      have HGR := Lib.hid hgr
      clear hgr
      have hk0 : (0 : Int) ≤ (k : Int) := by omega
      by_cases hlt : k < 16
      · have hk1 : (k : Int) < 16 := by omega
        obtain ⟨x, hx⟩ : ∃ x, z.regs[k]? = some x := ⟨_, List.getElem?_eq_getElem (by rw [HZ.out.len]; exact hlt)⟩
        have HX := Lib.hid hx
        have HXR : Hid (r.regs[k]? = some x) := Lib.hid (by rw [← HR.out, (raise_regs _ _).1]; exact hx)
        have HIR := Lib.hid (HI9.out.kept HGR.out)
        have HSR : Hid (StB wr g11 r) := Lib.hid (Blk.kept HS9.out HGR.out)
        obtain ⟨bz, hbz⟩ : ∃ bz, busyB X6 x = bz := ⟨_, rfl⟩
        have HBZ := Lib.hid hbz
        cases bz with
        | true =>
          obtain ⟨rfl, hmx⟩ := HLM.out x (List.mem_of_getElem? hx) hbz
          clear hx hbz
          go_upto_region 13 with fail
          refine Rgu.region_bothU (by kernel_rfl) [(67, .int .i64 (k : Int)), (68, .pointer (some ⟨g11, 2, none⟩)), (69, .pointer (some ⟨g11, 2 + k * 3, none⟩)), (70, slV x), (71, .int .i64 (k : Int)), (72, .pointer (some ⟨w.heap.size + 1, 2, none⟩)), (73, .pointer (some ⟨w.heap.size + 1, 2 + k * 3, none⟩)), (74, slV x), (75, .bool false), (76, .bool false), (77, .agg #[.slice A1 n1 c1, .slice A2 n2 c2, .slice A3 n3 c3, .slice A4 n4 c4]), (78, .int .i64 (k : Int)), (79, .pointer (some ⟨w.heap.size + 1, 2, none⟩)), (80, .pointer (some ⟨w.heap.size + 1, 2 + k * 3, none⟩)), (81, slV x), (82, .bool true), (83, .bool true), (84, .bool true), (85, .bool false), (86, .bool false), (87, .int .i64 (k : Int)), (88, .pointer (some ⟨w.heap.size + 1, 2, none⟩)), (89, .pointer (some ⟨w.heap.size + 1, 2 + k * 3, none⟩)), (90, .pointer (some ⟨w.heap.size + 1, 2 + k * 3 + 2, none⟩)), (91, .int .i64 x.prio), (92, .int .i64 m), (93, .bool false), (94, .bool false), (95, .bool false), (96, .bool false)] [(14, .int .i64 (k : Int)), (11, .pointer (some ⟨g11, 0, none⟩)), (4, .pointer (some ⟨w.heap.size + 1, 0, none⟩)), (7, .pointer (some ⟨bf, 0, none⟩)), (13, .bool true), (12, .int .i64 m)] [] trivial (by kernel_rfl) [67, 68, 69, 70, 71, 72, 73, 74, 75, 76, 77, 78, 79, 80, 81, 82, 83, 84, 85, 86, 87, 88, 89, 90, 91, 92, 93, 94, 95, 96] (by kernel_rfl) (by kernel_rfl) (by decide) (by kernel_rfl) (by kernel_rfl) ⟨rfl, rfl, rfl, rfl, rfl, rfl, trivial⟩ ?hops13 ?hQ13
          case hops13 =>
            exact ⟨Rgu.ofB (obv (t := 67) rfl rfl rfl (sv_move rfl rfl)),
              Rgu.ofB (obv (t := 68) rfl rfl rfl (sv_regs rfl rfl)),
              Rgu.ofB (obv (t := 69) rfl rfl rfl (sv_idx rfl rfl rfl hlt)),
              Rgu.ofB (obv (t := 70) rfl rfl rfl (sv_ldSlot rfl rfl HSR.out HXR.out)),
              Rgu.ofB (obv (t := 71) rfl rfl rfl (sv_move rfl rfl)),
              Rgu.ofB (obv (t := 72) rfl rfl rfl (sv_regs rfl rfl)),
              Rgu.ofB (obv (t := 73) rfl rfl rfl (sv_idx rfl rfl rfl hlt)),
              Rgu.ofB (obv (t := 74) rfl rfl rfl (sv_ldSlot rfl rfl HIR.out.s HX.out)),
              Rgu.ofB (obv (t := 75) rfl rfl rfl (sv_neSlot rfl rfl rfl)),
              Rgu.ofB (obv (t := 76) rfl rfl rfl (sv_move rfl rfl)),
              Rgu.ofB (obv (t := 77) rfl rfl rfl (sv_ldFac rfl rfl HIR.out.f)),
              Rgu.ofB (obv (t := 78) rfl rfl rfl (sv_move rfl rfl)),
              Rgu.ofB (obv (t := 79) rfl rfl rfl (sv_regs rfl rfl)),
              Rgu.ofB (obv (t := 80) rfl rfl rfl (sv_idx rfl rfl rfl hlt)),
              Rgu.ofB (obv (t := 81) rfl rfl rfl (sv_ldSlot rfl rfl HIR.out.s HX.out)),
              Rgu.ofB (obv (t := 82) rfl rfl rfl (sv_call2 rfl rfl rfl (enters_of Try.func17 (by kernel_rfl) rfl) fun W hg => by have := sbusy_any X6 (.slice A1 n1 c1) (.slice A2 n2 c2) (.slice A3 n3 c3) (.slice A4 n4 c4) x W (HIR.out.tb.keep (.grown hg)) HX6.out; rwa [HBZ.out] at this)),
              Rgu.ofB (obv (t := 83) rfl rfl rfl (sv_move rfl rfl)),
              Rgu.ofB (obv (t := 84) rfl rfl rfl (sv_move rfl rfl)),
              Rgu.ofB (obv (t := 85) rfl rfl rfl (sv_not (y := true) rfl rfl)),
              Rgu.ofB (obv (t := 86) rfl rfl rfl (sv_move rfl rfl)),
              Rgu.ofB (obv (t := 87) rfl rfl rfl (sv_move rfl rfl)),
              Rgu.ofB (obv (t := 88) rfl rfl rfl (sv_regs rfl rfl)),
              Rgu.ofB (obv (t := 89) rfl rfl rfl (sv_idx rfl rfl rfl hlt)),
              Rgu.ofB (obv (t := 90) rfl rfl rfl (sv_prio rfl rfl)),
              Rgu.ofB (obv (t := 91) rfl rfl rfl (sv_int rfl rfl (StB.reg HIR.out.s HX.out).2.2)),
              Rgu.ofB (obv (t := 92) rfl rfl rfl (sv_move rfl rfl)),
              Rgu.ofB (obv (t := 93) rfl rfl rfl (sv_lss rfl rfl rfl (by rw [decide_eq_false (by have := hmx; omega)]))),
              Rgu.ofB (obv (t := 94) rfl rfl rfl (sv_pickT (y := false) (z := false) rfl rfl (fun _ => rfl) rfl)),
              Rgu.ofB (obv (t := 95) rfl rfl rfl (sv_pick (y := true) (z := false) rfl rfl (fun _ => rfl) rfl)),
              Rgu.ofB (obv (t := 96) rfl rfl rfl (sv_pickT (y := false) (z := false) rfl rfl (fun _ => rfl) rfl)), trivial⟩
          case hQ13 =>
          intro vs W5 hg5 hv _
          have h96 : vs 96 = .bool false := hv 96 _ rfl (by decide)
          simp only [List.foldl_cons, List.foldl_nil, List.setIfInBounds_toArray, List.set_cons_zero, List.set_cons_succ, h96]
          clear hv h96
          go_wp2_with fail
          go_roundw
          case rel => exact ⟨k + 1, by omega, by go_num, only_trans HGR.out hg5⟩
          case measure => simp [intOf]; omega
        | false =>
          clear hx hbz
          go_upto_region 13 with fail
          refine Rgu.region_bothU (by kernel_rfl) [(67, .int .i64 (k : Int)), (68, .pointer (some ⟨g11, 2, none⟩)), (69, .pointer (some ⟨g11, 2 + k * 3, none⟩)), (70, slV x), (71, .int .i64 (k : Int)), (72, .pointer (some ⟨w.heap.size + 1, 2, none⟩)), (73, .pointer (some ⟨w.heap.size + 1, 2 + k * 3, none⟩)), (74, slV x), (75, .bool false), (76, .bool false), (77, .agg #[.slice A1 n1 c1, .slice A2 n2 c2, .slice A3 n3 c3, .slice A4 n4 c4]), (78, .int .i64 (k : Int)), (79, .pointer (some ⟨w.heap.size + 1, 2, none⟩)), (80, .pointer (some ⟨w.heap.size + 1, 2 + k * 3, none⟩)), (81, slV x), (82, .bool false), (83, .bool false), (86, undef), (95, .bool false), (96, .bool false)] [(14, .int .i64 (k : Int)), (11, .pointer (some ⟨g11, 0, none⟩)), (4, .pointer (some ⟨w.heap.size + 1, 0, none⟩)), (7, .pointer (some ⟨bf, 0, none⟩))] [] trivial (by kernel_rfl) [67, 68, 69, 70, 71, 72, 73, 74, 75, 76, 77, 78, 79, 80, 81, 82, 83, 84, 85, 86, 87, 88, 89, 90, 91, 92, 93, 94, 95, 96] (by kernel_rfl) (by kernel_rfl) (by decide) (by kernel_rfl) (by kernel_rfl) ⟨rfl, rfl, rfl, rfl, trivial⟩ ?hops13 ?hQ13
          case hops13 =>
            exact ⟨Rgu.ofB (obv (t := 67) rfl rfl rfl (sv_move rfl rfl)),
              Rgu.ofB (obv (t := 68) rfl rfl rfl (sv_regs rfl rfl)),
              Rgu.ofB (obv (t := 69) rfl rfl rfl (sv_idx rfl rfl rfl hlt)),
              Rgu.ofB (obv (t := 70) rfl rfl rfl (sv_ldSlot rfl rfl HSR.out HXR.out)),
              Rgu.ofB (obv (t := 71) rfl rfl rfl (sv_move rfl rfl)),
              Rgu.ofB (obv (t := 72) rfl rfl rfl (sv_regs rfl rfl)),
              Rgu.ofB (obv (t := 73) rfl rfl rfl (sv_idx rfl rfl rfl hlt)),
              Rgu.ofB (obv (t := 74) rfl rfl rfl (sv_ldSlot rfl rfl HIR.out.s HX.out)),
              Rgu.ofB (obv (t := 75) rfl rfl rfl (sv_neSlot rfl rfl rfl)),
              Rgu.ofB (obv (t := 76) rfl rfl rfl (sv_move rfl rfl)),
              Rgu.ofB (obv (t := 77) rfl rfl rfl (sv_ldFac rfl rfl HIR.out.f)),
              Rgu.ofB (obv (t := 78) rfl rfl rfl (sv_move rfl rfl)),
              Rgu.ofB (obv (t := 79) rfl rfl rfl (sv_regs rfl rfl)),
              Rgu.ofB (obv (t := 80) rfl rfl rfl (sv_idx rfl rfl rfl hlt)),
              Rgu.ofB (obv (t := 81) rfl rfl rfl (sv_ldSlot rfl rfl HIR.out.s HX.out)),
              Rgu.ofB (obv (t := 82) rfl rfl rfl (sv_call2 rfl rfl rfl (enters_of Try.func17 (by kernel_rfl) rfl) fun W hg => by have := sbusy_any X6 (.slice A1 n1 c1) (.slice A2 n2 c2) (.slice A3 n3 c3) (.slice A4 n4 c4) x W (HIR.out.tb.keep (.grown hg)) HX6.out; rwa [HBZ.out] at this)),
              Rgu.ofB (obv (t := 83) rfl rfl rfl (sv_move rfl rfl)),
              Rgu.obu (t := 84) rfl rfl,
              Rgu.obu (t := 85) rfl rfl,
              Rgu.obu (t := 86) rfl rfl,
              Rgu.obu (t := 87) rfl rfl,
              Rgu.obu (t := 88) rfl rfl,
              Rgu.obu (t := 89) rfl rfl,
              Rgu.obu (t := 90) rfl rfl,
              Rgu.obu (t := 91) rfl rfl,
              Rgu.obu (t := 92) rfl rfl,
              Rgu.obu (t := 93) rfl rfl,
              Rgu.obu (t := 94) rfl rfl,
              Rgu.ofB (obv (t := 95) rfl rfl rfl (sv_pick (y := false) (z := false) rfl rfl (fun e => by cases e) rfl)),
              Rgu.ofB (obv (t := 96) rfl rfl rfl (sv_pickT (y := false) (z := false) rfl rfl (fun _ => rfl) rfl)), trivial⟩
          case hQ13 =>
          intro vs W5 hg5 hv _
          have h96 : vs 96 = .bool false := hv 96 _ rfl (by decide)
          simp only [List.foldl_cons, List.foldl_nil, List.setIfInBounds_toArray, List.set_cons_zero, List.set_cons_succ, h96]
          clear hv h96
          go_wp2_with fail
          go_roundw
          case rel => exact ⟨k + 1, by omega, by go_num, only_trans HGR.out hg5⟩
          case measure => simp [intOf]; omega
      · have HI10 := Lib.hid (HI9.out.kept HGR.out)
        have HS10 : Hid (StB wr g11 r) := Lib.hid (Blk.kept HS9.out HGR.out)
        have HRR : Hid (raiseA X6 r = r) := Lib.hid (by rw [← HR.out]; exact raise_raise)
        clear HI9 HS9 HGR HLM hk hk0
        go_upto_region 15 with fail
        go_cut [121] from 97 to 121 (fun u W => u = .bool false ∧ wr.grownBy W none)
        case first =>
          cases is with
          | false =>
            have HRZ := Lib.hid (HLR.out.1 rfl)
            refine Rgu.region_bothU (by kernel_rfl) [(97, .bool false), (98, .bool true), (99, .bool true), (100, stV r), (101, stV z), (102, .bool true), (103, .bool false), (104, .bool false), (105, .bool false), (106, .bool false), (107, .bool false), (112, .bool false), (113, .bool false), (114, .bool false), (115, .agg #[.slice A1 n1 c1, .slice A2 n2 c2, .slice A3 n3 c3, .slice A4 n4 c4]), (116, stV r), (117, stV r), (118, stV r), (119, .bool true), (120, .bool false), (121, .bool false)] [(11, .pointer (some ⟨g11, 0, none⟩)), (4, .pointer (some ⟨w.heap.size + 1, 0, none⟩)), (7, .pointer (some ⟨bf, 0, none⟩)), (12, .int .i64 m), (13, .bool false)] [] trivial (by kernel_rfl) [97, 98, 99, 100, 101, 102, 103, 104, 105, 106, 107, 108, 109, 110, 111, 112, 113, 114, 115, 116, 117, 118, 119, 120, 121] (by kernel_rfl) (by kernel_rfl) (by decide) (by kernel_rfl) (by kernel_rfl) ⟨rfl, rfl, rfl, rfl, rfl, trivial⟩ ?hops15 ?hQ15
            case hops15 =>
              exact ⟨Rgu.ofB (obv (t := 97) rfl rfl rfl (sv_move rfl rfl)),
                Rgu.ofB (obv (t := 98) rfl rfl rfl (sv_not (y := false) rfl rfl)),
                Rgu.ofB (obv (t := 99) rfl rfl rfl (sv_move rfl rfl)),
                Rgu.ofB (obv (t := 100) rfl rfl rfl (ov_ldSt rfl rfl HRL.out HS10.out)),
                Rgu.ofB (obv (t := 101) rfl rfl rfl (ov_ldSt rfl rfl HZ.out.len HI10.out.s)),
                Rgu.ofB (obv (t := 102) rfl rfl rfl (sv_call2 rfl rfl rfl (enters_of Try.func18 (by kernel_rfl) rfl) fun W hg => by have := ssame_any (a := r) (b := z) HRL.out HZ.out.len W; rwa [decide_eq_true HRZ.out] at this)),
                Rgu.ofB (obv (t := 103) rfl rfl rfl (sv_not (y := true) rfl rfl)),
                Rgu.ofB (obv (t := 104) rfl rfl rfl (sv_pick (y := true) (z := false) rfl rfl (fun _ => rfl) rfl)),
                Rgu.ofB (obv (t := 105) rfl rfl rfl (sv_move rfl rfl)),
                Rgu.ofB (obv (t := 106) rfl rfl rfl (sv_move rfl rfl)),
                Rgu.ofB (obv (t := 107) rfl rfl rfl (sv_move rfl rfl)),
                Rgu.obu (t := 108) rfl rfl,
                Rgu.obu (t := 109) rfl rfl,
                Rgu.obu (t := 110) rfl rfl,
                Rgu.obu (t := 111) rfl rfl,
                Rgu.ofB (obv (t := 112) rfl rfl rfl (sv_pick (y := false) (z := false) rfl rfl (fun e => by cases e) rfl)),
                Rgu.ofB (obv (t := 113) rfl rfl rfl (sv_pickT (y := false) (z := false) rfl rfl (fun _ => rfl) rfl)),
                Rgu.ofB (obv (t := 114) rfl rfl rfl (sv_move rfl rfl)),
                Rgu.ofB (obv (t := 115) rfl rfl rfl (sv_ldFac rfl rfl HI10.out.f)),
                Rgu.ofB (obv (t := 116) rfl rfl rfl (ov_ldSt rfl rfl HRL.out HS10.out)),
                Rgu.ofB (obv (t := 117) rfl rfl rfl (sv_call2 rfl rfl rfl (enters_of Try.func15 (by kernel_rfl) rfl) fun W hg => by have := sraise_any X6 (.slice A1 n1 c1) (.slice A2 n2 c2) (.slice A3 n3 c3) (.slice A4 n4 c4) r W (HI10.out.tb.keep (.grown hg)) HX6.out HRL.out; rwa [HRR.out] at this)),
                Rgu.ofB (obv (t := 118) rfl rfl rfl (ov_ldSt rfl rfl HRL.out HS10.out)),
                Rgu.ofB (obv (t := 119) rfl rfl rfl (sv_call2 rfl rfl rfl (enters_of Try.func18 (by kernel_rfl) rfl) fun W hg => by have := ssame_any (a := r) (b := r) HRL.out HRL.out W; rwa [decide_eq_true rfl] at this)),
                Rgu.ofB (obv (t := 120) rfl rfl rfl (sv_not (y := true) rfl rfl)),
                Rgu.ofB (obv (t := 121) rfl rfl rfl (sv_pickT (y := false) (z := false) rfl rfl (fun _ => rfl) rfl)), trivial⟩
            case hQ15 =>
            intro vs W5 hg5 hv _
            have h121 : vs 121 = .bool false := hv 121 _ rfl (by decide)
            simp only [List.foldl_cons, List.foldl_nil, List.setIfInBounds_toArray, List.set_cons_zero, List.set_cons_succ, h121]
            go_wp2_with fail
            go_meet
            exact ⟨rfl, hg5⟩
          | true =>
            have HRM := Lib.hid (HLR.out.2 rfl).1
            refine Rgu.region_bothU (by kernel_rfl) [(97, .bool true), (98, .bool false), (99, .bool false), (104, .bool false), (105, .bool false), (106, .bool true), (107, .bool true), (108, .pointer (some ⟨g11, 0, none⟩)), (109, .int .i64 m), (110, .int .i64 m), (111, .bool false), (112, .bool false), (113, .bool false), (114, .bool false), (115, .agg #[.slice A1 n1 c1, .slice A2 n2 c2, .slice A3 n3 c3, .slice A4 n4 c4]), (116, stV r), (117, stV r), (118, stV r), (119, .bool true), (120, .bool false), (121, .bool false)] [(11, .pointer (some ⟨g11, 0, none⟩)), (4, .pointer (some ⟨w.heap.size + 1, 0, none⟩)), (7, .pointer (some ⟨bf, 0, none⟩)), (12, .int .i64 m), (13, .bool true)] [] trivial (by kernel_rfl) [97, 98, 99, 100, 101, 102, 103, 104, 105, 106, 107, 108, 109, 110, 111, 112, 113, 114, 115, 116, 117, 118, 119, 120, 121] (by kernel_rfl) (by kernel_rfl) (by decide) (by kernel_rfl) (by kernel_rfl) ⟨rfl, rfl, rfl, rfl, rfl, trivial⟩ ?hops15 ?hQ15
            case hops15 =>
              exact ⟨Rgu.ofB (obv (t := 97) rfl rfl rfl (sv_move rfl rfl)),
                Rgu.ofB (obv (t := 98) rfl rfl rfl (sv_not (y := true) rfl rfl)),
                Rgu.ofB (obv (t := 99) rfl rfl rfl (sv_move rfl rfl)),
                Rgu.obu (t := 100) rfl rfl,
                Rgu.obu (t := 101) rfl rfl,
                Rgu.obu (t := 102) rfl rfl,
                Rgu.obu (t := 103) rfl rfl,
                Rgu.ofB (obv (t := 104) rfl rfl rfl (sv_pick (y := false) (z := false) rfl rfl (fun e => by cases e) rfl)),
                Rgu.ofB (obv (t := 105) rfl rfl rfl (sv_move rfl rfl)),
                Rgu.ofB (obv (t := 106) rfl rfl rfl (sv_move rfl rfl)),
                Rgu.ofB (obv (t := 107) rfl rfl rfl (sv_move rfl rfl)),
                Rgu.ofB (obv (t := 108) rfl rfl rfl (sv_lv rfl rfl)),
                Rgu.ofB (obv (t := 109) rfl rfl rfl (sv_int rfl rfl (by rw [← HRM.out]; exact StB.lv HS10.out))),
                Rgu.ofB (obv (t := 110) rfl rfl rfl (sv_move rfl rfl)),
                Rgu.ofB (obv (t := 111) rfl rfl rfl (sv_neqI rfl rfl rfl)),
                Rgu.ofB (obv (t := 112) rfl rfl rfl (sv_pick (y := true) (z := false) rfl rfl (fun _ => rfl) rfl)),
                Rgu.ofB (obv (t := 113) rfl rfl rfl (sv_pickT (y := false) (z := false) rfl rfl (fun _ => rfl) rfl)),
                Rgu.ofB (obv (t := 114) rfl rfl rfl (sv_move rfl rfl)),
                Rgu.ofB (obv (t := 115) rfl rfl rfl (sv_ldFac rfl rfl HI10.out.f)),
                Rgu.ofB (obv (t := 116) rfl rfl rfl (ov_ldSt rfl rfl HRL.out HS10.out)),
                Rgu.ofB (obv (t := 117) rfl rfl rfl (sv_call2 rfl rfl rfl (enters_of Try.func15 (by kernel_rfl) rfl) fun W hg => by have := sraise_any X6 (.slice A1 n1 c1) (.slice A2 n2 c2) (.slice A3 n3 c3) (.slice A4 n4 c4) r W (HI10.out.tb.keep (.grown hg)) HX6.out HRL.out; rwa [HRR.out] at this)),
                Rgu.ofB (obv (t := 118) rfl rfl rfl (ov_ldSt rfl rfl HRL.out HS10.out)),
                Rgu.ofB (obv (t := 119) rfl rfl rfl (sv_call2 rfl rfl rfl (enters_of Try.func18 (by kernel_rfl) rfl) fun W hg => by have := ssame_any (a := r) (b := r) HRL.out HRL.out W; rwa [decide_eq_true rfl] at this)),
                Rgu.ofB (obv (t := 120) rfl rfl rfl (sv_not (y := true) rfl rfl)),
                Rgu.ofB (obv (t := 121) rfl rfl rfl (sv_pickT (y := false) (z := false) rfl rfl (fun _ => rfl) rfl)), trivial⟩
            case hQ15 =>
            intro vs W5 hg5 hv _
            have h121 : vs 121 = .bool false := hv 121 _ rfl (by decide)
            simp only [List.foldl_cons, List.foldl_nil, List.setIfInBounds_toArray, List.set_cons_zero, List.set_cons_succ, h121]
            go_wp2_with fail
            go_meet
            exact ⟨rfl, hg5⟩
        case rest =>
        obtain ⟨rfl, hg11⟩ := hcut
        have HI11 := Lib.hid (HI10.out.kept hg11)
        have HS11 : Hid (StB wc g11 r) := Lib.hid (Blk.kept HS10.out hg11)
        clear hg11 HI10 HS10 HRR hlt
        have f0 := HI11.out.f.cell 0
        have f1 := HI11.out.f.cell 1
        have f2 := HI11.out.f.cell 2
        have f3 := HI11.out.f.cell 3
        have lf := HI11.out.f.lt
        obtain ⟨y, hy⟩ : ∃ y, farA X6 z a = y := ⟨_, rfl⟩
        have HY := Lib.hid hy
        have hyl : y.regs.length = 16 := by
          rw [← hy]
          show (z.regs.map _).length = 16
          rw [List.length_map]
          exact HZ.out.len
        have HYL := Lib.hid hyl
        obtain ⟨y2, hy2⟩ : ∃ y2, farA X6 y b = y2 := ⟨_, rfl⟩
        have HY2 := Lib.hid hy2
        have hyl2 : y2.regs.length = 16 := by
          rw [← hy2]
          show (y.regs.map _).length = 16
          rw [List.length_map]
          exact HYL.out
        have HYL2 := Lib.hid hyl2
        have HH1 : Hid (shiftA X6 z y = (a, true)) := Lib.hid (by rw [← hy]; exact shift_one (by have := HZ.out.lv; omega) (by have := HA.out; omega))
        have HH2 : Hid (shiftA X6 y y2 = (b, true)) := Lib.hid (by rw [← hy2]; exact shift_one (by rw [← hy]; exact far_lv HZ.out.lv HA.out) (by have := HB.out; omega))
        have HH3 : Hid (shiftA X6 z y2 = (a + b, true)) := Lib.hid (by rw [← hy2, ← hy, far_far]; exact shift_one (by have := HZ.out.lv; omega) (by have := HA.out; have := HB.out; omega))
        have HH4 : Hid (shiftA X6 y z = (-a, true)) := Lib.hid (by rw [← hy]; exact shift_back HZ.out HA.out)
        clear hy hyl hy2 hyl2
        go_upto_region 18 with (first
          | (refine wpList_load_st rfl (.tmp 4) rfl rfl HZ.out.len HI11.out.s ?_)
          | (go_at_call 19; go_must (refine (further_any X6 (.slice A1 n1 c1) (.slice A2 n2 c2) (.slice A3 n3 c3) (.slice A4 n4 c4) z a _ HI11.out.tb HX6.out HZ.out.len).mono ?_; rw [HY.out]; rintro e w17 ⟨rfl, hg⟩; have HG17 := Lib.hid hg; clear hg))
          | (refine wpList_alloc_st rfl rfl ?_)
          | (refine wpList_store_st (s := y) (s0 := zeroT) rfl (.tmp 15) (.tmp 125) rfl rfl rfl HYL.out rfl (Blk.new _ _ _) ?_)
          | fail)
        simp only [Act.put, List.setIfInBounds_toArray, List.set_cons_zero, List.set_cons_succ]
        have hgn : wc.grownBy ((w17.alloc (.cells (stC zeroT) 45)).setRow w17.heap.size (stC y)) none := only_new (only_alloc HG17.out _) (only_rowM _ _ _) HG17.out.size
        have hsr : StB ((w17.alloc (.cells (stC zeroT) 45)).setRow w17.heap.size (stC y)) w17.heap.size y := Blk.rowM (Blk.new _ _ _) _
        have HI17 := Lib.hid (HI11.out.kept hgn)
        have HS17 : Hid (StB ((w17.alloc (.cells (stC zeroT) 45)).setRow w17.heap.size (stC y)) g11 r) := Lib.hid (Blk.kept HS11.out hgn)
        have HT17 := Lib.hid hsr
        clear f0 f1 f2 f3 lf hgn hsr HI11 HS11 HG17
        generalize (World.setRow _ _ _) = W17 at *
        generalize w17.heap.size = g15 at *
        go_cut [137] from 126 to 137 (fun u W => u = .bool false ∧ W17.grownBy W none)
        case first =>
          cases is with
          | false =>
            refine Rgu.region_bothU (by kernel_rfl) [(126, .bool false), (127, .bool false), (137, .bool false)] [(13, .bool false), (7, .pointer (some ⟨bf, 0, none⟩)), (15, .pointer (some ⟨g15, 0, none⟩)), (11, .pointer (some ⟨g11, 0, none⟩)), (9, .int .i64 a)] [] trivial (by kernel_rfl) [126, 127, 128, 129, 130, 131, 132, 133, 134, 135, 136, 137] (by kernel_rfl) (by kernel_rfl) (by decide) (by kernel_rfl) (by kernel_rfl) ⟨rfl, rfl, rfl, rfl, rfl, trivial⟩ ?hops18 ?hQ18
            case hops18 =>
              exact ⟨Rgu.ofB (obv (t := 126) rfl rfl rfl (sv_move rfl rfl)),
                Rgu.ofB (obv (t := 127) rfl rfl rfl (sv_move rfl rfl)),
                Rgu.obu (t := 128) rfl rfl,
                Rgu.obu (t := 129) rfl rfl,
                Rgu.obu (t := 130) rfl rfl,
                Rgu.obu (t := 131) rfl rfl,
                Rgu.obu (t := 132) rfl rfl,
                Rgu.obu (t := 133) rfl rfl,
                Rgu.obu (t := 134) rfl rfl,
                Rgu.obu (t := 135) rfl rfl,
                Rgu.obu (t := 136) rfl rfl,
                Rgu.ofB (obv (t := 137) rfl rfl rfl (sv_pick (y := false) (z := false) rfl rfl (fun e => by cases e) rfl)), trivial⟩
            case hQ18 =>
            intro vs W5 hg5 hv _
            have h137 : vs 137 = .bool false := hv 137 _ rfl (by decide)
            simp only [List.foldl_cons, List.foldl_nil, List.setIfInBounds_toArray, List.set_cons_zero, List.set_cons_succ, h137]
            go_wp2_with fail
            go_meet
            exact ⟨rfl, hg5⟩
          | true =>
            have HRF : Hid (raiseA X6 y = farA X6 r a) := Lib.hid (by rw [← HY.out, ← HR.out]; exact raise_far HZ.out HA.out (HLR.out.2 rfl).2)
            refine Rgu.region_bothU (by kernel_rfl) [(126, .bool true), (127, .bool true), (128, .agg #[.slice A1 n1 c1, .slice A2 n2 c2, .slice A3 n3 c3, .slice A4 n4 c4]), (129, stV y), (130, stV (farA X6 r a)), (131, .agg #[.slice A1 n1 c1, .slice A2 n2 c2, .slice A3 n3 c3, .slice A4 n4 c4]), (132, stV r), (133, .int .i64 a), (134, stV (farA X6 r a)), (135, .bool true), (136, .bool false), (137, .bool false)] [(13, .bool true), (7, .pointer (some ⟨bf, 0, none⟩)), (15, .pointer (some ⟨g15, 0, none⟩)), (11, .pointer (some ⟨g11, 0, none⟩)), (9, .int .i64 a)] [] trivial (by kernel_rfl) [126, 127, 128, 129, 130, 131, 132, 133, 134, 135, 136, 137] (by kernel_rfl) (by kernel_rfl) (by decide) (by kernel_rfl) (by kernel_rfl) ⟨rfl, rfl, rfl, rfl, rfl, trivial⟩ ?hops18 ?hQ18
            case hops18 =>
              exact ⟨Rgu.ofB (obv (t := 126) rfl rfl rfl (sv_move rfl rfl)),
                Rgu.ofB (obv (t := 127) rfl rfl rfl (sv_move rfl rfl)),
                Rgu.ofB (obv (t := 128) rfl rfl rfl (sv_ldFac rfl rfl HI17.out.f)),
                Rgu.ofB (obv (t := 129) rfl rfl rfl (ov_ldSt rfl rfl HYL.out HT17.out)),
                Rgu.ofB (obv (t := 130) rfl rfl rfl (sv_call2 rfl rfl rfl (enters_of Try.func15 (by kernel_rfl) rfl) fun W hg => by have := sraise_any X6 (.slice A1 n1 c1) (.slice A2 n2 c2) (.slice A3 n3 c3) (.slice A4 n4 c4) y W (HI17.out.tb.keep (.grown hg)) HX6.out HYL.out; rwa [HRF.out] at this)),
                Rgu.ofB (obv (t := 131) rfl rfl rfl (sv_ldFac rfl rfl HI17.out.f)),
                Rgu.ofB (obv (t := 132) rfl rfl rfl (ov_ldSt rfl rfl HRL.out HS17.out)),
                Rgu.ofB (obv (t := 133) rfl rfl rfl (sv_move rfl rfl)),
                Rgu.ofB (obv (t := 134) rfl rfl rfl (sv_call3 rfl rfl rfl rfl (enters_of Try.func19 (by kernel_rfl) rfl) fun W hg => further_any X6 (.slice A1 n1 c1) (.slice A2 n2 c2) (.slice A3 n3 c3) (.slice A4 n4 c4) r a W (HI17.out.tb.keep (.grown hg)) HX6.out HRL.out)),
                Rgu.ofB (obv (t := 135) rfl rfl rfl (sv_call2 rfl rfl rfl (enters_of Try.func18 (by kernel_rfl) rfl) fun W hg => by have := ssame_any (a := farA X6 r a) (b := farA X6 r a) (far_len HRL.out) (far_len HRL.out) W; rwa [decide_eq_true rfl] at this)),
                Rgu.ofB (obv (t := 136) rfl rfl rfl (sv_not (y := true) rfl rfl)),
                Rgu.ofB (obv (t := 137) rfl rfl rfl (sv_pick (y := true) (z := false) rfl rfl (fun _ => rfl) rfl)), trivial⟩
            case hQ18 =>
            intro vs W5 hg5 hv _
            have h137 : vs 137 = .bool false := hv 137 _ rfl (by decide)
            simp only [List.foldl_cons, List.foldl_nil, List.setIfInBounds_toArray, List.set_cons_zero, List.set_cons_succ, h137]
            go_wp2_with fail
            go_meet
            exact ⟨rfl, hg5⟩
        case rest =>
        obtain ⟨rfl, hg18⟩ := hcut
        have HI18 := Lib.hid (HI17.out.kept hg18)
        have HT18 : Hid (StB wc g15 y) := Lib.hid (Blk.kept HT17.out hg18)
        clear hg18 HI17 HS17 HT17 HLR
        have f0 := HI18.out.f.cell 0
        have f1 := HI18.out.f.cell 1
        have f2 := HI18.out.f.cell 2
        have f3 := HI18.out.f.cell 3
        have lf := HI18.out.f.lt
        go_upto_region 21 with (first
          | (refine wpList_load_st rfl (.tmp 4) rfl rfl HZ.out.len HI18.out.s ?_)
          | (refine wpList_load_st rfl (.tmp 15) rfl rfl HYL.out HT18.out ?_)
          | (go_at_call 20; go_must (refine (sshift_any X6 (.slice A1 n1 c1) (.slice A2 n2 c2) (.slice A3 n3 c3) (.slice A4 n4 c4) z y _ HI18.out.tb HX6.out HZ.out.len HYL.out).mono ?_; rw [HH1.out]; rintro e w20 ⟨rfl, hg⟩; have HG20 := Lib.hid hg; clear hg))
          | fail)
        clear f0 f1 f2 f3 lf
        have HI20 := Lib.hid (HI18.out.kept HG20.out)
        have HT20 : Hid (StB w20 g15 y) := Lib.hid (Blk.kept HT18.out HG20.out)
        clear HI18 HT18 HG20
        refine Rgu.region_bothU (by kernel_rfl) [(146, .agg #[.slice A1 n1 c1, .slice A2 n2 c2, .slice A3 n3 c3, .slice A4 n4 c4]), (147, stV y), (148, .agg #[.slice A1 n1 c1, .slice A2 n2 c2, .slice A3 n3 c3, .slice A4 n4 c4]), (149, stV y), (150, .int .i64 b), (151, stV y2), (152, .tuple #[.int .i64 b, .bool true]), (145, .tuple #[.int .i64 b, .bool true]), (153, .int .i64 b), (154, .bool true), (18, .int .i64 b), (19, .bool true)] [(7, .pointer (some ⟨bf, 0, none⟩)), (15, .pointer (some ⟨g15, 0, none⟩)), (10, .int .i64 b)] [] trivial (by kernel_rfl) [146, 147, 148, 149, 150, 151, 152, 145, 153, 154, 18, 19] (by kernel_rfl) (by kernel_rfl) (by decide) (by kernel_rfl) (by kernel_rfl) ⟨rfl, rfl, rfl, trivial⟩ ?hops21 ?hQ21
        case hops21 =>
          exact ⟨Rgu.ofB (obv (t := 146) rfl rfl rfl (sv_ldFac rfl rfl HI20.out.f)),
            Rgu.ofB (obv (t := 147) rfl rfl rfl (ov_ldSt rfl rfl HYL.out HT20.out)),
            Rgu.ofB (obv (t := 148) rfl rfl rfl (sv_ldFac rfl rfl HI20.out.f)),
            Rgu.ofB (obv (t := 149) rfl rfl rfl (ov_ldSt rfl rfl HYL.out HT20.out)),
            Rgu.ofB (obv (t := 150) rfl rfl rfl (sv_move rfl rfl)),
            Rgu.ofB (obv (t := 151) rfl rfl rfl (sv_call3 rfl rfl rfl rfl (enters_of Try.func19 (by kernel_rfl) rfl) fun W hg => by have := further_any X6 (.slice A1 n1 c1) (.slice A2 n2 c2) (.slice A3 n3 c3) (.slice A4 n4 c4) y b W (HI20.out.tb.keep (.grown hg)) HX6.out HYL.out; rwa [HY2.out] at this)),
            Rgu.ofB (obv (t := 152) rfl rfl rfl (sv_call3 rfl rfl rfl rfl (enters_of Try.func20 (by kernel_rfl) rfl) fun W hg => by have := sshift_any X6 (.slice A1 n1 c1) (.slice A2 n2 c2) (.slice A3 n3 c3) (.slice A4 n4 c4) y y2 W (HI20.out.tb.keep (.grown hg)) HX6.out HYL.out HYL2.out; rwa [HH2.out] at this)),
            Rgu.ofB (obv (t := 145) rfl rfl rfl (sv_move rfl rfl)),
            Rgu.ofB (obv (t := 153) rfl rfl rfl (sv_ext0 rfl rfl)),
            Rgu.ofB (obv (t := 154) rfl rfl rfl (sv_ext1 rfl rfl)),
            Rgu.ofB (obv (t := 18) rfl rfl rfl (sv_assign rfl rfl)),
            Rgu.ofB (obv (t := 19) rfl rfl rfl (sv_assign rfl rfl)), trivial⟩
        case hQ21 =>
        intro vs W5 hg5 hv _
        have q18 : vs 18 = .int .i64 b := hv 18 _ rfl (by decide)
        have q19 : vs 19 = .bool true := hv 19 _ rfl (by decide)
        simp only [List.foldl_cons, List.foldl_nil, List.setIfInBounds_toArray, List.set_cons_zero, List.set_cons_succ, q18, q19]
        have HI21 := Lib.hid (HI20.out.kept hg5)
        have HT21 : Hid (StB W5 g15 y) := Lib.hid (Blk.kept HT20.out hg5)
        clear hv q18 q19 hg5 HI20 HT20
        go_upto_region 22 with fail
        refine Rgu.region_bothU (by kernel_rfl) [(156, .agg #[.slice A1 n1 c1, .slice A2 n2 c2, .slice A3 n3 c3, .slice A4 n4 c4]), (157, stV z), (158, .agg #[.slice A1 n1 c1, .slice A2 n2 c2, .slice A3 n3 c3, .slice A4 n4 c4]), (159, stV y), (160, .int .i64 b), (161, stV y2), (162, .tuple #[.int .i64 (a + b), .bool true]), (155, .tuple #[.int .i64 (a + b), .bool true]), (163, .int .i64 (a + b)), (164, .bool true), (20, .int .i64 (a + b)), (21, .bool true)] [(7, .pointer (some ⟨bf, 0, none⟩)), (4, .pointer (some ⟨w.heap.size + 1, 0, none⟩)), (15, .pointer (some ⟨g15, 0, none⟩)), (10, .int .i64 b)] [] trivial (by kernel_rfl) [156, 157, 158, 159, 160, 161, 162, 155, 163, 164, 20, 21] (by kernel_rfl) (by kernel_rfl) (by decide) (by kernel_rfl) (by kernel_rfl) ⟨rfl, rfl, rfl, rfl, trivial⟩ ?hops22 ?hQ22
        case hops22 =>
          exact ⟨Rgu.ofB (obv (t := 156) rfl rfl rfl (sv_ldFac rfl rfl HI21.out.f)),
            Rgu.ofB (obv (t := 157) rfl rfl rfl (ov_ldSt rfl rfl HZ.out.len HI21.out.s)),
            Rgu.ofB (obv (t := 158) rfl rfl rfl (sv_ldFac rfl rfl HI21.out.f)),
            Rgu.ofB (obv (t := 159) rfl rfl rfl (ov_ldSt rfl rfl HYL.out HT21.out)),
            Rgu.ofB (obv (t := 160) rfl rfl rfl (sv_move rfl rfl)),
            Rgu.ofB (obv (t := 161) rfl rfl rfl (sv_call3 rfl rfl rfl rfl (enters_of Try.func19 (by kernel_rfl) rfl) fun W hg => by have := further_any X6 (.slice A1 n1 c1) (.slice A2 n2 c2) (.slice A3 n3 c3) (.slice A4 n4 c4) y b W (HI21.out.tb.keep (.grown hg)) HX6.out HYL.out; rwa [HY2.out] at this)),
            Rgu.ofB (obv (t := 162) rfl rfl rfl (sv_call3 rfl rfl rfl rfl (enters_of Try.func20 (by kernel_rfl) rfl) fun W hg => by have := sshift_any X6 (.slice A1 n1 c1) (.slice A2 n2 c2) (.slice A3 n3 c3) (.slice A4 n4 c4) z y2 W (HI21.out.tb.keep (.grown hg)) HX6.out HZ.out.len HYL2.out; rwa [HH3.out] at this)),
            Rgu.ofB (obv (t := 155) rfl rfl rfl (sv_move rfl rfl)),
            Rgu.ofB (obv (t := 163) rfl rfl rfl (sv_ext0 rfl rfl)),
            Rgu.ofB (obv (t := 164) rfl rfl rfl (sv_ext1 rfl rfl)),
            Rgu.ofB (obv (t := 20) rfl rfl rfl (sv_assign rfl rfl)),
            Rgu.ofB (obv (t := 21) rfl rfl rfl (sv_assign rfl rfl)), trivial⟩
        case hQ22 =>
        intro vs_1 W6_1 hg5 hv _
        have q20 : vs_1 20 = .int .i64 (a + b) := hv 20 _ rfl (by decide)
        have q21 : vs_1 21 = .bool true := hv 21 _ rfl (by decide)
        simp only [List.foldl_cons, List.foldl_nil, List.setIfInBounds_toArray, List.set_cons_zero, List.set_cons_succ, q20, q21]
        have HI22 := Lib.hid (HI21.out.kept hg5)
        have HT22 : Hid (StB W6_1 g15 y) := Lib.hid (Blk.kept HT21.out hg5)
        clear hv q20 q21 hg5 HI21 HT21
        have f0 := HI22.out.f.cell 0
        have f1 := HI22.out.f.cell 1
        have f2 := HI22.out.f.cell 2
        have f3 := HI22.out.f.cell 3
        have lf := HI22.out.f.lt
        go_upto_region 24 with (first
          | (refine wpList_load_st rfl (.tmp 4) rfl rfl HZ.out.len HI22.out.s ?_)
          | (refine wpList_load_st rfl (.tmp 15) rfl rfl HYL.out HT22.out ?_)
          | (go_at_call 20; go_must (refine (sshift_any X6 (.slice A1 n1 c1) (.slice A2 n2 c2) (.slice A3 n3 c3) (.slice A4 n4 c4) y z _ HI22.out.tb HX6.out HYL.out HZ.out.len).mono ?_; rw [HH4.out]; rintro e w23 ⟨rfl, hg⟩; have HG23 := Lib.hid hg; clear hg))
          | fail)
        have ha1 := HA.out.1
        have ha2 := HA.out.2
        have hb1 := HB.out.1
        have hb2 := HB.out.2
        have HGF : Hid (w.grownBy w23 none) := Lib.hid (only_trans HI22.out.gr HG23.out)
        clear f0 f1 f2 f3 lf
        go_wp2_with fail
        go_ret
        exact ⟨rfl, HGF.out⟩
  · have h2 := facts_none (by rw [HOE.out]; exact he)
    have hn : (factsA (fewX xs) (fewP ts)).2.1.cls = [] := by rw [h2]
    have hp : (factsA (fewX xs) (fewP ts)).2.2 = [] := by rw [h2]
    have htb := HI4.out.tb
    have hpr := HPR.out
    rw [hn] at htb
    rw [hp] at hpr
    obtain ⟨_, _, e1, _⟩ := htb
    obtain ⟨_, _, e4, _⟩ := hpr
    obtain rfl : n1 = 0 := by
      simp only [Value.slice.injEq] at e1
      exact e1.2.1
    obtain rfl : n4 = 0 := by
      simp only [Value.slice.injEq] at e4
      exact e4.2.1
    have f0 := HI4.out.f.cell 0
    have f3 := HI4.out.f.cell 3
    have lf := HI4.out.f.lt
    clear e1 e4 hn hp h2
    go_wp2_with fail
    go_ret
    exact ⟨rfl, HI4.out.gr⟩
end Go.Proofs.Ytmhbmeckdbdhpaa

/- The document's answer for order: Check. -/
import Derived.Test.YtepjkoegbehojaaZOJRf
namespace Go.Proofs.Ytepjkoegbehojaa
open Go.RowKit Go.Shelf

theorem OKT.jumpA_edge {xs : List Nd} (hk : OKT xs) {u : Nat} {x : Nd} {e : Ed} (hx : xs[u]? = some x) (he : e ∈ allE x) : jumpA xs (u : Int) e = (match jumpP xs x.prio e with | some (_, r) => (r, true) | none => (0, false)) := by
  obtain ⟨h0, h1, _, _⟩ := hk.edge hx he
  exact jumpA_4 (by rw [hk.check]) (nodeB_true.2 ⟨h0, h1⟩) (nodeAt_nat.trans hx)
theorem edges_cells0 {w : World} {b off : Nat} {es : List Ed} (h : ∀ (i : Nat) (e : Ed), es[i]? = some e → w.cell? ⟨b, off + i * 2, none⟩ = some (.int .i64 e.1) ∧ w.cell? ⟨b, off + i * 2 + 1, none⟩ = some (.int .i64 e.2)) :
    ∀ j u, (edAll es)[j]? = some u → w.cell? ((⟨b, off, none⟩ : Addr).add j) = some u := fun j u hu => by
  rw [addr_plain]
  have hj : j < es.length * 2 := by rw [← edAll_len]; exact (List.getElem?_eq_some_iff.1 hu).1
  have hi : j / 2 < es.length := by omega
  have hx := h (j / 2) _ (List.getElem?_eq_getElem hi)
  have ha := edAll_at (List.getElem?_eq_getElem hi) (j % 2) (by omega)
  rw [show j / 2 * 2 + j % 2 = j by omega, hu] at ha
  rcases (by omega : j % 2 = 0 ∨ j % 2 = 1) with e | e
  · rw [e] at ha
    rw [show off + j = off + j / 2 * 2 by omega, hx.1]
    exact ha.symm
  · rw [e] at ha
    rw [show off + j = off + j / 2 * 2 + 1 by omega, hx.2]
    exact ha.symm
theorem low_next {xs : List Nd} {p : Int} {l : List Ed} {q : Nat} {e : Ed} (h : ∀ i e, i < q → l[i]? = some e → lowE xs p e = false) (he : l[q]? = some e) (hl : lowE xs p e = false) : ∀ i e, i < q + 1 → l[i]? = some e → lowE xs p e = false := fun i e' hi he' => by
  by_cases h2 : i = q
  · subst h2; rw [he] at he'; cases he'; exact hl
  · exact h i e' (by omega) he'
/-- All edges of a list, appended to nothing. -/
theorem wpList_append_edges {ops : Array Oper} {rest : List Oper} {o : Oper} {a : Act} {W : World} {Q : Exit → Act → World → Prop} (hgd : o.guard = none) (s x : Operand)
    (ho : o.op = .call { callee := .builtin .append, args := #[s, x], argTypes := #[44, 44] })
    {es : List Ed} {b off c : Nat} (hs : a.eval s = .slice none 0 0) (hx : a.eval x = .slice (some ⟨b, off, none⟩) es.length c)
    (hE : Edges W (.slice (some ⟨b, off, none⟩) es.length c) es) (hn : es ≠ []) (hl : es.length ≤ 1000)
    (h : ∀ v' W', EOwn W.heap.size W' v' es → W.grownBy W' none → wpList Try.prog ops Q rest (a.put o.dst v') W') : wpList Try.prog ops Q (o :: rest) a W := by
  obtain ⟨i0, hi, hz0, hz1, hz2⟩ := info_parts edge_info
  obtain ⟨A', c', hA, _, hcl⟩ := hE
  obtain ⟨b', off', hb', hce⟩ := hcl hn
  rw [hb'] at hA
  obtain ⟨⟨rfl, rfl⟩, rfl⟩ : (b = b' ∧ off = off') ∧ c = c' := by simpa using hA
  refine wpList_append_own W hgd s x 44 ho W.heap.size 43 i0 _ 2 16 Try.underlying44 hi hz0 hz1 hz2 rfl (by decide) _ 0 [] hs (World.ownsRow_nil _ _ _ _)
    ⟨b, off, none⟩ es.length c (edAll es) hx (edAll_len es) (edges_cells0 hce) (edAll_one es) (by unfold maxLen; omega) (by omega) (Nat.le_refl _) (fun v' W' hr hg _ => h v' W' ?_ hg)
  rw [Nat.zero_add, List.nil_append] at hr
  exact hr
/-- One edge more. -/
theorem wpList_append_edge {ops : Array Oper} {rest : List Oper} {o : Oper} {a : Act} {W : World} {Q : Exit → Act → World → Prop} (hgd : o.guard = none) (s x : Operand)
    (ho : o.op = .call { callee := .builtin .append, args := #[s, x], argTypes := #[44, 44] })
    {base : Nat} {v : Value} {es : List Ed} {e : Ed} {g : Nat} (hs : a.eval s = v) (hx : a.eval x = .slice (some ⟨g, 0, none⟩) 1 1)
    (hot : EOwn base W v es) (hb : Blk W g 43 (edCells e)) (hn : es.length ≤ 1000) (hbase : base ≤ W.heap.size)
    (h : ∀ v' W', EOwn base W' v' (es ++ [e]) → W.grownBy W' v.ownBlock → wpList Try.prog ops Q rest (a.put o.dst v') W') : wpList Try.prog ops Q (o :: rest) a W := by
  obtain ⟨i0, hi, hz0, hz1, hz2⟩ := info_parts edge_info
  refine wpList_append_own W hgd s x 44 ho base 43 i0 _ 2 16 Try.underlying44 hi hz0 hz1 hz2 rfl (by decide) v es.length (edAll es) hs hot
    ⟨g, 0, none⟩ 1 1 (edCells e).toList hx rfl (fun j u hu => ?_) (fun u hu => ?_) (by unfold maxLen; omega) (by omega) hbase (fun v' W' hr hg _ => h v' W' ?_ hg)
  · rw [addr_plain, Nat.zero_add, hb.cell j, ← hu]; simp
  · exact edAll_one [e] u (by simpa [edAll] using hu)
  · show World.ownsRow _ _ _ _ _ _ _
    rw [List.length_append, edAll_snoc]; exact hr

set_option maxRecDepth 100000 in
set_option maxHeartbeats 2000000 in
theorem rCheck_any (xs : List Nd) (v : Value) (w : World) (hT : Tbl w v xs) (hxs : xs.length ≤ 1000) :
    Calls Try.prog 28 #[v] w fun e w' => e = .returned (pairV (orderL xs)) ∧ w.grownBy w' none := by
  have HT := Lib.hid hT
  have HL := Lib.hid hxs
  obtain ⟨A, cap, rfl, hcl⟩ := hT
  clear hcl hxs
  by_cases hc : (checkL xs).2 = 0
  · have HC := Lib.hid (okt_check hc)
    have HC0 := Lib.hid hc
    have HK := Lib.hid (okt_of hc)
    have HO : Hid (orderL xs = firstLow xs xs 0) := show _ = _ by unfold orderL; rw [if_pos hc]
    clear hc
    go_enter Try.func28, Try.ntmps28
    go_wp2_with (go_at_call 49; go_must (refine (refCheck_any xs _ _ HT.out (by have := HL.out; omega)).mono ?_; rw [HC.out]; rintro e w1 ⟨rfl, hg1⟩))
    have HG1 := Lib.hid hg1
    clear hg1
    go_loopw [6] (fun i wr => ∃ k : Nat, k ≤ xs.length ∧ i = .int .i64 (k : Int) ∧ Low xs k ∧ w.grownBy wr none) (fun i _ => xs.length - (intOf i).toNat)
    case atStart => exact ⟨0, Nat.zero_le _, rfl, fun j x h => by omega, HG1.out⟩
    case round =>
      clear HG1
      obtain ⟨k, hk, rfl, hlow, hg⟩ := hrel
      have hxs' : (xs.length : Int) ≤ 1000 := by have := HL.out; omega
      have HG := Lib.hid hg
      have HLow := Lib.hid hlow
      clear hg hlow
      by_cases hlt : k < xs.length
      · have hk0 : (0 : Int) ≤ (k : Int) := by omega
        have hk1 : (k : Int) < (xs.length : Int) := by omega
        obtain ⟨x, hx⟩ : ∃ x, xs[k]? = some x := ⟨_, List.getElem?_eq_getElem hlt⟩
        have HX := Lib.hid hx
        obtain ⟨A', c', hA, hcl⟩ := HT.out.keep (Keeps.grown HG.out)
        obtain ⟨bb, off, hAb, hcl2⟩ := hcl (by intro e0; rw [e0] at hlt; simp at hlt)
        obtain ⟨v', hE, n0, n1, n2, n3, n4, n5⟩ := hcl2 k x hx
        have HE := Lib.hid hE
        obtain ⟨A2, c2, rfl, _, _⟩ := hE
        obtain ⟨rfl, rfl⟩ : A = A' ∧ cap = c' := by simpa using hA
        subst hAb
        have hact := HK.out.act hx
        clear hA hcl hcl2 hx
        cases hs : actB x.kind
        · have HS := Lib.hid hs
          have HA : Hid (actR x.kind = false) := hact.trans hs
          clear hact
          go_wp2_with (go_at_call 50; go_must (refine (racts_any x (.slice A2 x.next.length c2) _).mono ?_; rw [HA.out]; rintro e w2 ⟨rfl, hg2⟩; have HG2 := Lib.hid (only_trans HG.out hg2); clear hg2))
          go_roundw
          case rel => exact ⟨k + 1, by omega, by go_num, HLow.out.next HX.out (low_not HS.out), HG2.out⟩
          case measure => simp [intOf]; omega
        · have HS := Lib.hid hs
          have HA : Hid (actR x.kind = true) := hact.trans hs
          obtain ⟨hln, hl1⟩ : x.next.length ≤ 8 ∧ 1 ≤ x.next.length := ⟨(HK.out.end_ HX.out).2.2.1, (HK.out.end_ HX.out).2.2.2 HS.out⟩
          have hne : x.next ≠ [] := fun e => by rw [e] at hl1; simp at hl1
          have HN : Hid (x.next.length ≤ 1000 ∧ x.next ≠ []) := ⟨by omega, hne⟩
          have HN8 : Hid (x.next.length ≤ 8) := hln
          obtain ⟨A3, c3, hA3, _, hcl3⟩ := HE.out
          obtain ⟨b2, off2, hb2, _⟩ := hcl3 hne
          rw [hb2] at hA3
          obtain ⟨rfl, rfl⟩ : A2 = some ⟨b2, off2, none⟩ ∧ c2 = c3 := by simpa using hA3
          clear hact hln hl1 hne hA3 hcl3 hb2
          obtain ⟨kind, prio, chan, ⟨pa, ps⟩, next⟩ := x
          dsimp only at *
          go_upto_region 10 with (first | (go_at_call 50; go_must (refine (racts_any ⟨kind, prio, chan, (pa, ps), next⟩ (.slice (some ⟨b2, off2, none⟩) next.length c2) _).mono ?_; rw [HA.out]; rintro e w2 ⟨rfl, hg2⟩; have HG2 := Lib.hid hg2; have HE2 := Lib.hid (HE.out.keep (.grown hg2)); have m2 := Keeps.grown hg2 _ _ n2; have m3 := Keeps.grown hg2 _ _ n3; have m4 := Keeps.grown hg2 _ _ n4; have m5 := Keeps.grown hg2 _ _ n5; clear hg2)) | (at_builtin; refine wpList_append_edges rfl _ _ rfl rfl rfl HE2.out HN.out.2 HN.out.1 ?_; intro v3 w3 hr hg3; have HR := Lib.hid hr; have HG3 := Lib.hid hg3; have q2 := Keeps.grown hg3 _ _ m2; have q3 := Keeps.grown hg3 _ _ m3; have q4 := Keeps.grown hg3 _ _ m4; clear hr hg3))
          go_upto_if 43 with fail
          go_cut [7] from 44 to 51 (fun v wx => Edges wx v (allE ⟨kind, prio, chan, (pa, ps), next⟩) ∧ w2.grownBy wx none)
          case first =>
            cases chan
            · have HA2 : Hid (allE ⟨kind, prio, false, (pa, ps), next⟩ = next) := show _ = _ by simp [allE]
              go_wp2_with fail
              go_meet
              exact ⟨by rw [HA2.out]; exact (HR.out.edges HN.out.1).edges, HG3.out⟩
            · have HA2 : Hid (allE ⟨kind, prio, true, (pa, ps), next⟩ = next ++ [(pa, ps)]) := show _ = _ by simp [allE]
              have hb3 := cell_lt q2
              have HSZ : Hid (w2.heap.size ≤ (w3.alloc (.cells (edCells (pa, ps)) 43)).heap.size) := show _ ≤ _ by have := HG3.out.size; simp; omega
              go_wp2_with (at_builtin; (refine wpList_append_edge rfl _ _ rfl rfl rfl (HR.out.kept0 (only_alloc (only_refl _ _) _)) (Blk.new _ _ (edCells (pa, ps))) HN.out.1 HSZ.out ?_; intro v4 w4 hr4 hg4; have HR4 := Lib.hid hr4; have HG4 := Lib.hid hg4; clear hr4 hg4))
              go_meet
              exact ⟨by rw [HA2.out]; exact (HR4.out.edges (by have := HN8.out; simp; omega)).edges, grown_own (only_alloc HG3.out _) (fun g e => (own_row HR.out g e).1) HG4.out⟩
          case rest =>
            obtain ⟨hE5, hg5⟩ := hcut
            have HE5 := Lib.hid hE5
            have HG5 := Lib.hid (only_trans HG.out (only_trans HG2.out hg5))
            obtain ⟨A5, c5, rfl, hl5, _⟩ := hE5
            have HJE := Lib.hid (fun (e : Ed) (he : e ∈ allE ⟨kind, prio, chan, (pa, ps), next⟩) => HK.out.jumpA_edge (e := e) HX.out he)
            have HED := Lib.hid (fun (e : Ed) (he : e ∈ allE ⟨kind, prio, chan, (pa, ps), next⟩) => HK.out.edge (e := e) HX.out he)
            have HSX : Hid (actB (Nd.mk kind prio chan (pa, ps) next).kind = true) := HS.out
            clear hg5
            generalize hx0 : Nd.mk kind prio chan (pa, ps) next = x at *
            have HL5 : Hid ((allE x).length ≤ 1000) := show _ ≤ _ by
              have h1 := HN8.out
              rw [← hx0]; cases chan <;> simp [allE] <;> omega
            have hx1 : x.prio = prio := by rw [← hx0]
            clear hx0
            go_wp2_with fail
            go_loopw [8] (fun j wj => ∃ q : Nat, q ≤ (allE x).length ∧ j = .int .i64 (q : Int) ∧ (∀ i e, i < q → (allE x)[i]? = some e → lowE xs x.prio e = false) ∧ wc.grownBy wj none) (fun j _ => (allE x).length - (intOf j).toNat)
            case atStart => exact ⟨0, Nat.zero_le _, rfl, fun i e h => by omega, only_refl _ _⟩
            case round =>
              obtain ⟨q, hq, rfl, hqs, hgq⟩ := hrel
              have HQS := Lib.hid hqs
              have HGQ := Lib.hid hgq
              clear hqs hgq
              have hql := HL5.out
              by_cases hlt2 : q < (allE x).length
              · obtain ⟨⟨ea, es⟩, he⟩ : ∃ e, (allE x)[q]? = some e := ⟨_, List.getElem?_eq_getElem hlt2⟩
                have hmem := List.mem_of_getElem? he
                obtain ⟨A6, c6, hA6, _, hcl6⟩ := HE5.out.keep (Keeps.grown HGQ.out)
                obtain ⟨b6, off6, hb6, hce6⟩ := hcl6 (by intro e0; rw [e0] at hlt2; simp at hlt2)
                obtain ⟨rfl, rfl⟩ : A5 = A6 ∧ c5 = c6 := by simpa using hA6
                subst hb6
                obtain ⟨e0, e1⟩ := hce6 q _ he
                have hj := HJE.out _ hmem
                have hed := HED.out _ hmem
                have HED2 : Hid (-9223372036854775808 ≤ (ea, es).2 ∧ (ea, es).2 ≤ 9223372036854775807) := ⟨by show _ ≤ es; have := hed.2.2; simp only at this; omega, by show es ≤ _; have := hed.2.2; simp only at this; omega⟩
                have HT6 := Lib.hid (HT.out.keep (Keeps.grown (only_trans HG5.out HGQ.out)))
                have HE6 := Lib.hid he
                have hq0 : (0 : Int) ≤ (q : Int) := by omega
                have hq1 : (q : Int) < ((allE x).length : Int) := by omega
                clear hcl6 hce6 hA6 he hmem hed
                cases hp : jumpP xs x.prio (ea, es) with
                | none =>
                  have HJ : Hid (jumpA xs (k : Int) (ea, es) = (0, false)) := show _ = _ by rw [hj, hp]
                  have HLE : Hid (lowE xs x.prio (ea, es) = false) := show _ = _ by simp [lowE, hp]
                  clear hj hp
                  go_wp2_with (go_at_call 51; go_must (refine (rJump_any xs _ _ (ea, es) _ HT6.out HL.out HED2.out.1 HED2.out.2).mono ?_; rw [HJ.out]; rintro e w7 ⟨rfl, hg7⟩; have HG7 := Lib.hid (only_trans HGQ.out hg7); clear hg7))
                  go_roundw
                  case rel => exact ⟨q + 1, by omega, by go_num, low_next HQS.out HE6.out HLE.out, HG7.out⟩
                  case measure => simp [intOf]; omega
                | some pr =>
                  obtain ⟨t, r⟩ := pr
                  have HJ : Hid (jumpA xs (k : Int) (ea, es) = (r, true)) := show _ = _ by rw [hj, hp]
                  by_cases hr1 : r < 1
                  · have HLE : Hid (lowE xs x.prio (ea, es) = true) := show _ = _ by simp [lowE, hp, hr1]
                    have HS3 : Hid (lowB xs x = true) := show _ = _ by
                      unfold lowB
                      rw [HSX.out, Bool.true_and, List.any_eq_true]
                      exact ⟨_, List.mem_of_getElem? HE6.out, HLE.out⟩
                    have HR9 : Hid (orderL xs = ((k : Int), 10)) := show _ = _ by rw [HO.out, firstLow_here HX.out HLow.out HS3.out, Nat.zero_add]
                    clear hj hp
                    go_wp2_with (go_at_call 51; go_must (refine (rJump_any xs _ _ (ea, es) _ HT6.out HL.out HED2.out.1 HED2.out.2).mono ?_; rw [HJ.out]; rintro e w7 ⟨rfl, hg7⟩; have HG7 := Lib.hid (only_trans HGQ.out hg7); clear hg7))
                    go_ret2
                    exact ⟨by rw [HR9.out]; rfl, only_trans HG5.out HG7.out⟩
                  · have HLE : Hid (lowE xs x.prio (ea, es) = false) := show _ = _ by simp [lowE, hp, hr1]
                    clear hj hp
                    go_wp2_with (go_at_call 51; go_must (refine (rJump_any xs _ _ (ea, es) _ HT6.out HL.out HED2.out.1 HED2.out.2).mono ?_; rw [HJ.out]; rintro e w7 ⟨rfl, hg7⟩; have HG7 := Lib.hid (only_trans HGQ.out hg7); clear hg7))
                    go_roundw
                    case rel => exact ⟨q + 1, by omega, by go_num, low_next HQS.out HE6.out HLE.out, HG7.out⟩
                    case measure => simp [intOf]; omega
              · have hge2 : ((allE x).length : Int) ≤ (q : Int) := by omega
                have HFN : Hid (lowB xs x = false) := show _ = _ by
                  unfold lowB
                  rw [HSX.out, Bool.true_and, List.any_eq_false]
                  intro e he
                  obtain ⟨j, hj, rfl⟩ := List.getElem_of_mem he
                  rw [HQS.out j _ (by omega) (List.getElem?_eq_getElem hj)]
                  simp
                clear hq hlt2
                go_wp2_with fail
                go_roundw
                case rel => exact ⟨k + 1, by omega, by go_num, HLow.out.next HX.out HFN.out, only_trans HG5.out HGQ.out⟩
                case measure => simp [intOf]; omega
      · have hke : k = xs.length := by omega
        have hge : (xs.length : Int) ≤ (k : Int) := by omega
        have HS : Hid (orderL xs = (-1, 0)) := HO.out.trans (firstLow_none (fun x hx => by
          obtain ⟨j, hj, rfl⟩ := List.getElem_of_mem hx
          exact HLow.out j _ (by omega) (List.getElem?_eq_getElem hj)))
        clear hk hlt hke
        go_wp2_with fail
        go_ret2
        exact ⟨by rw [HS.out]; rfl, HG.out⟩
  · have HO : Hid (orderL xs = checkL xs) := show _ = _ by unfold orderL; rw [if_neg hc]
    have hc' : ((checkL xs).2 == 0) = false := beq_eq_false_iff_ne.2 hc
    go_enter Try.func28, Try.ntmps28
    go_wp2_with (go_at_call 49; go_must (refine (refCheck_any xs _ _ HT.out (by have := HL.out; omega)).mono ?_; rintro e w1 ⟨rfl, hg1⟩))
    go_ret2
    exact ⟨by rw [HO.out]; rfl, hg1⟩
end Go.Proofs.Ytepjkoegbehojaa

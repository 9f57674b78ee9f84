/- order: jumps, one by one. -/
import Derived.Test.YtablbgfleopbfaaOEds
namespace Go.Proofs.Ytablbgfleopbfaa
open Go.RowKit Go.Shelf
attribute [local go_sem] Oper.semAt_some

abbrev jpV (q : Int × Int) : Array Value := #[.int .i64 q.1, .int .i64 q.2]
/-- What stands between two edges. -/
def JI (W : World) (J : List (Int × Int) → World → Prop) (xs : List Nd) (p : Int) (es : List Ed) (k : Nat) (wr : World) : Prop := J ((es.take k).filterMap (jumpP xs p)) wr ∧ KeepsCells W wr
set_option maxRecDepth 100000 in
set_option maxHeartbeats 2000000 in
/-- The nodes that act to which edges come, one by one, until a round says 'no more'. -/
theorem jumps_tells (Be Bn Bf : Nat) (xs : List Nd) (vn : Value) (fr : Int) (x : Nd) (es : List Ed) (ve : Value) (hxs : xs.length ≤ 1000) (hx : nodeAt xs fr = some x) (hes : ∀ e ∈ es, ∃ y, nodeAt xs (resolveL xs e).1 = some y) :
    Tells Fence.wide 2 Try.prog 31 #[.pointer (some ⟨Be, 0, none⟩), .pointer (some ⟨Bn, 0, none⟩), .pointer (some ⟨Bf, 0, none⟩)] jpV KeepsCells
      (fun W => Blk W Be 39 #[ve] ∧ Blk W Bn 22 #[vn] ∧ Blk W Bf 3 #[.int .i64 fr] ∧ Tbl W vn xs ∧ Edges W ve es) (es.filterMap (jumpP xs x.prio)) := fun l J Jx W hJ hY h0 ⟨hbe, hbn, hbf, hT, hE⟩ => by
  refine callsIn_of_wp Try.func31 rfl trivial ?_ rfl
  simp only [Try.ntmps31, List.size_toArray, List.length_cons, List.length_nil, Nat.reduceAdd, Nat.reduceSub, Array.replicate_succ, Array.replicate_zero, List.push_toArray, List.append_toArray, List.nil_append, List.cons_append]
  have HT := Lib.hid hT
  obtain ⟨A, cap, rfl, hlen, hcell⟩ := hE
  obtain ⟨An, cn, rfl, _⟩ := hT
  have c0 : W.cell? ⟨Be, 0, none⟩ = some (.slice A es.length cap) := hbe.cell 0
  have c1 : W.cell? ⟨Bn, 0, none⟩ = some (.slice An xs.length cn) := hbn.cell 0
  have c2 : W.cell? ⟨Bf, 0, none⟩ = some (.int .i64 fr) := hbf.cell 0
  have HC := Lib.hid hcell
  have HY := Lib.hid hY
  have HJ := Lib.hid hJ
  have HL := Lib.hid hlen
  have HX := Lib.hid hx
  have HES := Lib.hid hes
  have HXS := Lib.hid hxs
  have H0 : Hid (JI W J xs x.prio es 0 W) := ⟨h0, .refl _⟩
  clear hcell hY hJ hx hes hxs hbe hbn hbf
  gi_wp2_with fail
  gi_loopw [12] (fun i wr => ∃ k : Nat, k ≤ es.length ∧ i = .int .i64 (k : Int) ∧ JI W J xs x.prio es k wr) (fun i _ => es.length - (intOf i).toNat)
  case atStart => exact ⟨0, Nat.zero_le _, rfl, H0.out⟩
  case round =>
    clear H0
    obtain ⟨k, hk, rfl, hJ1, hkc⟩ := hrel
    have hl2 := HL.out
    by_cases hlt : k < es.length
    · obtain ⟨⟨a, b⟩, he⟩ : ∃ e, es[k]? = some e := ⟨_, List.getElem?_eq_getElem hlt⟩
      obtain ⟨bb, off, rfl, hce⟩ := HC.out (by intro e0; rw [e0] at hlt; simp at hlt)
      have d0 : wr.cell? ⟨bb, off + k * 2, none⟩ = some (.int .i64 a) := hkc.cell (hce k _ he).1
      have d1 : wr.cell? ⟨bb, off + k * 2 + 1, none⟩ = some (.int .i64 b) := hkc.cell (hce k _ he).2
      have e1 := hkc.cell c1
      have e2 := hkc.cell c2
      have hb1 := cell_lt e1
      have hb2 := cell_lt e2
      clear hce
      obtain ⟨y, hy⟩ := HES.out _ (List.mem_of_getElem? he)
      have hT2 := (HT.out.keep hkc.keeps).keep (.alloc _ (.cells #[.int .i64 a, .int .i64 b] 24))
      have HT2 := Lib.hid hT2
      have HY2 := Lib.hid hy
      have hsn : (es.take (k + 1)).filterMap (jumpP xs x.prio) = (es.take k).filterMap (jumpP xs x.prio) ++ ((jumpP xs x.prio (a, b)).toList) := by
        rw [take_len he, List.filterMap_append]
        cases hj : jumpP xs x.prio (a, b) with
        | none => simp [List.filterMap, hj]
        | some q => simp [List.filterMap, hj]
      have HS := Lib.hid hsn
      have HK := Lib.hid hkc
      have HJ1 := Lib.hid hJ1
      have hk0 : (0 : Int) ≤ (k : Int) := by omega
      have hk1 : (k : Int) < (es.length : Int) := by omega
      clear hsn hkc he hJ1 hT2 hy
      cases hj : jumpP xs x.prio (a, b) with
      | none =>
        have HJN := Lib.hid hj
        gi_wp2_with (refine ⟨trivial, ?_⟩; gi_at_call 25; go_must (refine (callsIn_wide.2 (ojump_any xs _ fr (a, b) x y _ HT2.out HXS.out HX.out HY2.out)).mono ?_; rw [HJN.out]; rintro e w4 ⟨rfl, hg⟩; have HG := Lib.hid (only_trans (only_alloc (only_refl _ _) _) hg); clear hg))
        refine ⟨fun _ h => (by cases h), ?_⟩
        gi_wp2_with fail
        have HR : Hid (JI W J xs x.prio es (k + 1) w4) := ⟨by rw [HS.out, HJN.out]; simpa using HJ.out _ _ _ HJ1.out ((below_of_only HG.out).mono HK.out.size), HK.out.trans (.grown HG.out)⟩
        go_roundw
        case rel => exact ⟨k + 1, by omega, by go_num, HR.out⟩
        case measure => simp [intOf]; omega
      | some q =>
        obtain ⟨t, r⟩ := q
        have HJN := Lib.hid hj
        gi_wp2_with (refine ⟨trivial, ?_⟩; gi_at_call 25; go_must (refine (callsIn_wide.2 (ojump_any xs _ fr (a, b) x y _ HT2.out HXS.out HX.out HY2.out)).mono ?_; rw [HJN.out]; rintro e w4 ⟨rfl, hg⟩; have HG := Lib.hid (only_trans (only_alloc (only_refl _ _) _) hg); clear hg; obtain ⟨fn, tmps, assign, body, hy, hR⟩ := HY.out ((es.take k).filterMap (jumpP xs x.prio)) (t, r) _ (by rw [show (es.take k).filterMap (jumpP xs x.prio) ++ [(t, r)] = (es.take (k + 1)).filterMap (jumpP xs x.prio) by rw [HS.out, HJN.out]; rfl]; exact (List.take_prefix _ _).filterMap _) (HJ.out _ _ _ HJ1.out ((below_of_only HG.out).mono HK.out.size))))
        refine hR.mono ?_
        rintro e W3 (⟨rfl, hJ3, hk3⟩ | ⟨rfl, hJ3⟩)
        · have HR : Hid (JI W J xs x.prio es (k + 1) W3) := ⟨by rw [HS.out, HJN.out]; exact hJ3, (HK.out.trans (.grown HG.out)).trans hk3⟩
          clear hJ3 hk3
          gi_wp2_with fail
          go_roundw
          case rel => exact ⟨k + 1, by omega, by go_num, HR.out⟩
          case measure => simp [intOf]; omega
        · have HR := Lib.hid hJ3
          clear hJ3
          gi_wp2_with fail
          refine bodyPost_ret (results_none rfl _ _ _) rfl ?_
          exact ⟨⟨_, rfl⟩, .inr ⟨_, by rw [show (es.take k).filterMap (jumpP xs x.prio) ++ [(t, r)] = (es.take (k + 1)).filterMap (jumpP xs x.prio) by rw [HS.out, HJN.out]; rfl]; exact (List.take_prefix _ _).filterMap _, by simp, HR.out⟩⟩
    · have hke : k = es.length := by omega
      have HX2 : Hid (J (es.filterMap (jumpP xs x.prio)) wr) := by have := hJ1; rw [hke, List.take_length] at this; exact this
      have hge : (es.length : Int) ≤ (k : Int) := by omega
      clear hJ1 hkc hke
      gi_wp2_with fail
      go_end0
      exact ⟨⟨_, rfl⟩, .inl HX2.out⟩
end Go.Proofs.Ytablbgfleopbfaa

/- Texts joined for the claim's sake: OJmp, OChk. -/
import Derived.Test.YtmhbmeckdbdhpaaZSAddRow29
import Derived.Test.YtmhbmeckdbdhpaaZSAddRow30
import Derived.Test.YtmhbmeckdbdhpaaZSAddRow6
namespace Go.Proofs.Ytmhbmeckdbdhpaa
open Go.RowKit Go.Shelf
attribute [local go_sem] Oper.semAt_some

abbrev jpV (q : Int × Int) : Array Value := #[.int .i64 q.1, .int .i64 q.2]
/-- What stands between two edges. -/
def JI (W : World) (J : List (Int × Int) → World → Prop) (xs : List Nd) (p : Int) (es : List Ed) (k : Nat) (wr : World) : Prop := J ((es.take k).filterMap (jumpP xs p)) wr ∧ KeepsCells W wr
set_option maxRecDepth 100000 in
set_option maxHeartbeats 2000000 in
/-- The nodes that act to which edges come, one by one, until a round says 'no more'. -/
theorem jumps_tells (Be Bn Bf : Nat) (xs : List Nd) (vn : Value) (fr : Int) (x : Nd) (es : List Ed) (ve : Value) (hxs : xs.length ≤ 1000) (hx : nodeAt xs fr = some x) (hes : ∀ e ∈ es, ∃ y, nodeAt xs (resolveL xs e).1 = some y) :
    Tells Fence.wide 2 Try.prog 63 #[.pointer (some ⟨Be, 0, none⟩), .pointer (some ⟨Bn, 0, none⟩), .pointer (some ⟨Bf, 0, none⟩)] jpV KeepsCells
      (fun W => Blk W Be 68 #[ve] ∧ Blk W Bn 22 #[vn] ∧ Blk W Bf 3 #[.int .i64 fr] ∧ Tbl W vn xs ∧ Edges W ve es) (es.filterMap (jumpP xs x.prio)) := fun l J Jx W hJ hY h0 ⟨hbe, hbn, hbf, hT, hE⟩ => by
  refine callsIn_of_wp Try.func63 rfl trivial ?_ rfl
  simp only [Try.ntmps63, List.size_toArray, List.length_cons, List.length_nil, Nat.reduceAdd, Nat.reduceSub, Array.replicate_succ, Array.replicate_zero, List.push_toArray, List.append_toArray, List.nil_append, List.cons_append]
  have HT := Lib.hid hT
  obtain ⟨A, cap, rfl, hlen, hcell⟩ := hE
  obtain ⟨An, cn, rfl, _⟩ := hT
  have c0 : W.cell? ⟨Be, 0, none⟩ = some (.slice A es.length cap) := hbe.cell 0
  have c1 : W.cell? ⟨Bn, 0, none⟩ = some (.slice An xs.length cn) := hbn.cell 0
  have c2 : W.cell? ⟨Bf, 0, none⟩ = some (.int .i64 fr) := hbf.cell 0
  have HC := Lib.hid hcell
  have HY := Lib.hid hY
  have HJ := Lib.hid hJ
  have HL := Lib.hid hlen
  have HX := Lib.hid hx
  have HES := Lib.hid hes
  have HXS := Lib.hid hxs
  have H0 : Hid (JI W J xs x.prio es 0 W) := ⟨h0, .refl _⟩
  clear hcell hY hJ hx hes hxs hbe hbn hbf
  gi_wp2_with fail
  gi_loopw [12] (fun i wr => ∃ k : Nat, k ≤ es.length ∧ i = .int .i64 (k : Int) ∧ JI W J xs x.prio es k wr) (fun i _ => es.length - (intOf i).toNat)
  case atStart => exact ⟨0, Nat.zero_le _, rfl, H0.out⟩
  case round =>
    clear H0
    obtain ⟨k, hk, rfl, hJ1, hkc⟩ := hrel
    have hl2 := HL.out
    by_cases hlt : k < es.length
    · obtain ⟨⟨a, b⟩, he⟩ : ∃ e, es[k]? = some e := ⟨_, List.getElem?_eq_getElem hlt⟩
      obtain ⟨bb, off, rfl, hce⟩ := HC.out (by intro e0; rw [e0] at hlt; simp at hlt)
      have d0 : wr.cell? ⟨bb, off + k * 2, none⟩ = some (.int .i64 a) := hkc.cell (hce k _ he).1
      have d1 : wr.cell? ⟨bb, off + k * 2 + 1, none⟩ = some (.int .i64 b) := hkc.cell (hce k _ he).2
      have e1 := hkc.cell c1
      have e2 := hkc.cell c2
      have hb1 := cell_lt e1
      have hb2 := cell_lt e2
      clear hce
      obtain ⟨y, hy⟩ := HES.out _ (List.mem_of_getElem? he)
      have hT2 := (HT.out.keep hkc.keeps).keep (.alloc _ (.cells #[.int .i64 a, .int .i64 b] 67))
      have HT2 := Lib.hid hT2
      have HY2 := Lib.hid hy
      have hsn : (es.take (k + 1)).filterMap (jumpP xs x.prio) = (es.take k).filterMap (jumpP xs x.prio) ++ ((jumpP xs x.prio (a, b)).toList) := by
        rw [take_len he, List.filterMap_append]
        cases hj : jumpP xs x.prio (a, b) with
        | none => simp [List.filterMap, hj]
        | some q => simp [List.filterMap, hj]
      have HS := Lib.hid hsn
      have HK := Lib.hid hkc
      have HJ1 := Lib.hid hJ1
      have hk0 : (0 : Int) ≤ (k : Int) := by omega
      have hk1 : (k : Int) < (es.length : Int) := by omega
      clear hsn hkc he hJ1 hT2 hy
      cases hj : jumpP xs x.prio (a, b) with
      | none =>
        have HJN := Lib.hid hj
        gi_wp2_with (refine ⟨trivial, ?_⟩; gi_at_call 64; go_must (refine (callsIn_wide.2 (ojump_any xs _ fr (a, b) x y _ HT2.out HXS.out HX.out HY2.out)).mono ?_; rw [HJN.out]; rintro e w4 ⟨rfl, hg⟩; have HG := Lib.hid (only_trans (only_alloc (only_refl _ _) _) hg); clear hg))
        refine ⟨fun _ h => (by cases h), ?_⟩
        gi_wp2_with fail
        have HR : Hid (JI W J xs x.prio es (k + 1) w4) := ⟨by rw [HS.out, HJN.out]; simpa using HJ.out _ _ _ HJ1.out ((below_of_only HG.out).mono HK.out.size), HK.out.trans (.grown HG.out)⟩
        go_roundw
        case rel => exact ⟨k + 1, by omega, by go_num, HR.out⟩
        case measure => simp [intOf]; omega
      | some q =>
        obtain ⟨t, r⟩ := q
        have HJN := Lib.hid hj
        gi_wp2_with (refine ⟨trivial, ?_⟩; gi_at_call 64; go_must (refine (callsIn_wide.2 (ojump_any xs _ fr (a, b) x y _ HT2.out HXS.out HX.out HY2.out)).mono ?_; rw [HJN.out]; rintro e w4 ⟨rfl, hg⟩; have HG := Lib.hid (only_trans (only_alloc (only_refl _ _) _) hg); clear hg; obtain ⟨fn, tmps, assign, body, hy, hR⟩ := HY.out ((es.take k).filterMap (jumpP xs x.prio)) (t, r) _ (by rw [show (es.take k).filterMap (jumpP xs x.prio) ++ [(t, r)] = (es.take (k + 1)).filterMap (jumpP xs x.prio) by rw [HS.out, HJN.out]; rfl]; exact (List.take_prefix _ _).filterMap _) (HJ.out _ _ _ HJ1.out ((below_of_only HG.out).mono HK.out.size))))
        refine hR.mono ?_
        rintro e W3 (⟨rfl, hJ3, hk3⟩ | ⟨rfl, hJ3⟩)
        · have HR : Hid (JI W J xs x.prio es (k + 1) W3) := ⟨by rw [HS.out, HJN.out]; exact hJ3, (HK.out.trans (.grown HG.out)).trans hk3⟩
          clear hJ3 hk3
          gi_wp2_with fail
          go_roundw
          case rel => exact ⟨k + 1, by omega, by go_num, HR.out⟩
          case measure => simp [intOf]; omega
        · have HR := Lib.hid hJ3
          clear hJ3
          gi_wp2_with fail
          refine bodyPost_ret (results_none rfl _ _ _) rfl ?_
          exact ⟨⟨_, rfl⟩, .inr ⟨_, by rw [show (es.take k).filterMap (jumpP xs x.prio) ++ [(t, r)] = (es.take (k + 1)).filterMap (jumpP xs x.prio) by rw [HS.out, HJN.out]; rfl]; exact (List.take_prefix _ _).filterMap _, by simp, HR.out⟩⟩
    · have hke : k = es.length := by omega
      have HX2 : Hid (J (es.filterMap (jumpP xs x.prio)) wr) := by have := hJ1; rw [hke, List.take_length] at this; exact this
      have hge : (es.length : Int) ≤ (k : Int) := by omega
      clear hJ1 hkc hke
      gi_wp2_with fail
      go_end0
      exact ⟨⟨_, rfl⟩, .inl HX2.out⟩
end Go.Proofs.Ytmhbmeckdbdhpaa

namespace Go.Proofs.Ytmhbmeckdbdhpaa
open Go.RowKit Go.Shelf
attribute [local go_sem] Oper.semAt_some

/-- What stands: the answers' cells, marks of the rounds that are over. -/
structure CS (w : World) (i e : Int) (Ds : List Nat) (W : World) : Prop where
  step : w.grownBy W none
  r1 : Blk W w.heap.size 3 #[.int .i64 i]
  r2 : Blk W (w.heap.size + 1) 36 #[.int .i64 e]
  apart : Ds.Nodup
  marks : ∀ D ∈ Ds, w.heap.size + 2 ≤ D ∧ W.heap[D]? = some (.deferred (some []))
section
variable {w X Y W : World} {i e : Int} {Ds : List Nat}
theorem CS.below {B : Nat} (h : CS w i e Ds X) (hb : Below B X Y) (hw : w.heap.size + 1 < B) (hD : ∀ D ∈ Ds, D < B) : CS w i e Ds Y :=
  ⟨below_only hb h.step (by omega), h.r1.below hb (by omega), h.r2.below hb hw, h.apart, fun D hm => ⟨(h.marks D hm).1, (hb.block D (hD D hm)).trans (h.marks D hm).2⟩⟩
theorem CS.lt (h : CS w i e Ds W) : ∀ D ∈ Ds, D < W.heap.size := fun D hm => (Array.getElem?_eq_some_iff.1 (h.marks D hm).2).1
theorem CS.kept (h : CS w i e Ds X) (hg : X.grownBy Y none) : CS w i e Ds Y := h.below (below_of_only hg) h.r2.lt h.lt
theorem CS.mark {D : Nat} (h : CS w i e Ds W) (hD : ∀ D' ∈ Ds, D' < D) (hw : w.heap.size + 1 < D) (hK : W.heap[D]? = some (.deferred (some []))) : CS w i e (D :: Ds) W :=
  ⟨h.step, h.r1, h.r2, List.nodup_cons.2 ⟨fun hm => by have := hD D hm; omega, h.apart⟩, fun D' hm => by
    rcases List.mem_cons.1 hm with rfl | hm
    · exact ⟨by omega, hK⟩
    · exact h.marks D' hm⟩
theorem CS.put (h : CS w i e Ds W) (i' e' : Int) : CS w i' e' Ds ((W.setCell ⟨w.heap.size, 0, none⟩ (.int .i64 i')).setCell ⟨w.heap.size + 1, 0, none⟩ (.int .i64 e')) :=
  have hk := (KeepsOthers.setCell W ⟨w.heap.size, 0, none⟩ (.int .i64 i')).trans (KeepsOthers.setCell _ ⟨w.heap.size + 1, 0, none⟩ (.int .i64 e'))
  ⟨only_setNew (only_setNew h.step (by show w.heap.size ≤ w.heap.size; omega) _) (by show w.heap.size ≤ w.heap.size + 1; omega) _,
    (h.r1.set_ 0 _).far (p := ⟨w.heap.size + 1, 0, none⟩) (by show w.heap.size ≠ w.heap.size + 1; omega) _,
    (h.r2.far (p := ⟨w.heap.size, 0, none⟩) (by show w.heap.size + 1 ≠ w.heap.size; omega) _).set_ 0 _, h.apart,
    fun D hm => ⟨(h.marks D hm).1, hk.same D _ (h.marks D hm).2 rfl⟩⟩
theorem ochk_results {tmps : Array Value} (h2 : tmps.getD 2 undef = .pointer (some ⟨w.heap.size, 0, none⟩)) (h3 : tmps.getD 3 undef = .pointer (some ⟨w.heap.size + 1, 0, none⟩)) (hb1 : Blk W w.heap.size 3 #[.int .i64 i]) (hb2 : Blk W (w.heap.size + 1) 36 #[.int .i64 e]) :
    (results Try.f30 tmps).run Try.prog W = .ok (.tuple #[.int .i64 i, .int .i64 e]) W := by
  have h2' : tmps[2]?.getD undef = .pointer (some ⟨w.heap.size, 0, none⟩) := by simpa using h2
  have h3' : tmps[3]?.getD undef = .pointer (some ⟨w.heap.size + 1, 0, none⟩) := by simpa using h3
  have c1 := hb1.cell 0
  have c2 := hb2.cell 0
  simp [results, Try.results30, h2', h3', go_sem, c1, c2]
/-- It leaves. -/
theorem ochk_out {F : Fence} {n : Nat} {tmps : Array Value} {R : Ending → World → Prop} (h2 : tmps.getD 2 undef = .pointer (some ⟨w.heap.size, 0, none⟩)) (h3 : tmps.getD 3 undef = .pointer (some ⟨w.heap.size + 1, 0, none⟩)) (h : CS w i e Ds W)
    (hR : ∀ W', w.grownBy W' none → R (.returned (.tuple #[.int .i64 i, .int .i64 e])) W') : bodyPostM F n Try.prog Try.f30 R .ret { tmps := tmps, defers := Ds.map mark } W :=
  marks_ret (B := w.heap.size + 2) Ds W h.apart h.marks fun W' hW' => ⟨_, ochk_results h2 h3 (h.r1.keeps hW'.2) (h.r2.keeps hW'.2), hR W' (hW'.grown h.step (by omega))⟩
end
/-- What is known of the nodes ahead. -/
def Low (xs : List Nd) (k : Nat) : Prop := ∀ j x, j < k → xs[j]? = some x → lowB xs x = false
theorem Low.next {xs : List Nd} {k : Nat} {x : Nd} (h : Low xs k) (hx : xs[k]? = some x) (hi : lowB xs x = false) : Low xs (k + 1) := fun j y hj hy => by
  by_cases e : j = k
  · subst e; rw [hx] at hy; cases hy; exact hi
  · exact h j y (by omega) hy
theorem low_not {xs : List Nd} {x : Nd} (h : actB x.kind = false) : lowB xs x = false := by simp [lowB, h]
theorem okt_goes {xs : List Nd} (hk : OKT xs) {u : Nat} {x : Nd} {e : Ed} (hx : xs[u]? = some x) (he : e ∈ allE x) : ∃ y, nodeAt xs (resolveL xs e).1 = some y := by
  obtain ⟨m, y, s, hy, _, _, _, _, hr, hm, _⟩ := hk.jump hx he
  have := hr 0 (by omega) (by omega)
  rw [Int.zero_add] at this
  refine ⟨y, ?_⟩
  rw [show resolveL xs e = ((m : Int), s + 0) from this]
  exact nodeAt_nat.trans hy
def upB (q : Int × Int) : Bool := !decide (q.2 < 1)
theorem low_up {xs : List Nd} {x : Nd} (h : actB x.kind = true) : lowB xs x = !((allE x).filterMap (jumpP xs x.prio)).all upB := by
  unfold lowB
  rw [h, Bool.true_and]
  induction allE x with
  | nil => rfl
  | cons e l ih =>
    rw [List.any_cons, ih]
    cases hj : jumpP xs x.prio e with
    | none => simp [lowE, hj]
    | some q => simp [lowE, hj, upB]
theorem all_snoc {α : Type} {p : α → Bool} {pre : List α} {x : α} (h : pre.all p = true) (hx : p x = true) : (pre ++ [x]).all p = true := by rw [List.all_append, h, List.all_cons, hx]; rfl
theorem all_pre {α : Type} {p : α → Bool} {pre L : List α} (hpre : pre <+: L) (h : pre.all p = false) : L.all p = false := by
  obtain ⟨r, rfl⟩ := hpre
  rw [List.all_append, h, Bool.false_and]
/-- Behind acts, in a round. -/
theorem chk_behind {w W W2 : World} {v' : Value} {i e : Int} {Ds : List Nat} {k : Nat} {x : Nd} (h : CS w i e Ds W) (hg : ((W.alloc (.cells #[.int .i64 (k : Int)] 3)).alloc (.cells (ndCells x v') 70)).grownBy W2 none) :
    CS w i e Ds W2 ∧ Blk W2 W.heap.size 3 #[.int .i64 (k : Int)] ∧ Blk W2 (W.heap.size + 1) 70 (ndCells x v') := by
  have h1 : W.grownBy ((W.alloc (.cells #[.int .i64 (k : Int)] 3)).alloc (.cells (ndCells x v') 70)) none := only_alloc (only_alloc (only_refl _ _) _) _
  exact ⟨(h.kept h1).kept hg, ((Blk.new W _ _).alloc _).kept hg, (blk_at (by simp) _ _).kept hg⟩

/-- What stands as a node's jumps are ranged over. -/
structure Rdy (w : World) (Bi : Nat) (Ds : List Nat) (k : Nat) (xs : List Nd) (vn v3 : Value) (es : List Ed) (B3 : Nat) (W4 : World) : Prop where
  cs : CS w 0 0 Ds W4
  bi : Blk W4 Bi 3 #[.int .i64 (k : Int)]
  bn : Blk W4 B3 22 #[vn]
  bf : Blk W4 (B3 + 1) 3 #[.int .i64 (k : Int)]
  be : Blk W4 (B3 + 2) 68 #[v3]
  tb : Tbl W4 vn xs
  ed : Edges W4 v3 es
theorem rdy_of {w W2 W3 : World} {Bi : Nat} {Ds : List Nat} {k : Nat} {xs : List Nd} {vn v3 : Value} {es : List Ed} (hF : CS w 0 0 Ds W2) (hb : Blk W2 Bi 3 #[.int .i64 (k : Int)]) (hT : Tbl w vn xs) (hg : W2.drew.grownBy W3 none) (hE : Edges W3 v3 es) :
    Rdy w Bi Ds k xs vn v3 es W3.heap.size (((W3.alloc (.cells #[vn] 22)).alloc (.cells #[.int .i64 (k : Int)] 3)).alloc (.cells #[v3] 68)) := by
  have h2 : W2.grownBy W2.drew none := only_drew (only_refl _ _)
  have h3 : W2.grownBy (((W3.alloc (.cells #[vn] 22)).alloc (.cells #[.int .i64 (k : Int)] 3)).alloc (.cells #[v3] 68)) none := only_alloc (only_alloc (only_alloc (only_trans h2 hg) _) _) _
  exact ⟨hF.kept h3, hb.kept h3, ((Blk.new W3 _ _).alloc _).alloc _, (blk_at (by simp) _ _).alloc _, blk_at (by simp) _ _, hT.keep (.grown (hF.kept h3).step), ((hE.keep (.alloc _ _)).keep (.alloc _ _)).keep (.alloc _ _)⟩

set_option maxRecDepth 100000 in
set_option maxHeartbeats 2000000 in
theorem ocheck_any (xs : List Nd) (v : Value) (w : World) (hT : Tbl w v xs) (hxs : xs.length ≤ 1000) :
    Calls Try.prog 30 #[v] w fun e w' => e = .returned (pairV (orderL xs)) ∧ w.grownBy w' none := by
  refine (callsIn_wide (n := 3)).1 ?_
  refine callsIn_of_wp_marks Try.func30 rfl trivial ?_ rfl
  simp only [Try.ntmps30, List.size_toArray, List.length_cons, List.length_nil, Nat.reduceAdd, Nat.reduceSub, Array.replicate_succ, Array.replicate_zero, List.push_toArray, List.append_toArray, List.nil_append, List.cons_append]
  have HT := Lib.hid hT
  have HL := Lib.hid hxs
  obtain ⟨A, cap, rfl, hcl⟩ := hT
  clear hcl hxs
  have H00 : Hid (CS w 0 0 [] ((w.alloc (.cells #[.int .i64 0] 3)).alloc (.cells #[.int .i64 0] 36))) :=
    ⟨only_alloc (only_alloc (only_refl _ _) _) _, (Blk.new w _ _).alloc _, blk_at (by simp) _ _, List.nodup_nil, fun D h => by cases h⟩
  by_cases hc : (checkL xs).2 = 0
  · have HC := Lib.hid (okt_check hc)
    have HK := Lib.hid (okt_of hc)
    have HO : Hid (orderL xs = firstLow xs xs 0) := show _ = _ by unfold orderL; rw [if_pos hc]
    clear hc
    gi_wp2_with (refine ⟨trivial, ?_⟩; gi_at_call 45; go_must (refine (callsIn_wide.2 (check_any xs _ _ (HT.out.keep (.grown (only_alloc (only_alloc (only_refl _ _) _) _))) (by have := HL.out; omega))).mono ?_; rw [HC.out]; rintro e w1 ⟨rfl, hg1⟩))
    have hF0 := H00.out.kept hg1
    clear hg1 H00
    refine wpIn_loop (fun a' W => ∃ (k : Nat) (Ds : List Nat) (u6 u7 u8 u9 u22 u23 u24 u25 u26 u27 u28 u29 u30 u31 u32 u33 u34 u35 u36 u37 u38 u39 : Value), k ≤ xs.length ∧ Low xs k ∧ CS w 0 0 Ds W ∧ a' = { tmps := #[.slice A xs.length cap, undef, .pointer (some ⟨w.heap.size, 0, none⟩), .pointer (some ⟨w.heap.size + 1, 0, none⟩), .int .i64 (-1), .int .i64 0, u6, u7, u8, u9, pairV (-1, 0), .slice A xs.length cap, pairV (-1, 0), .int .i64 (-1), .int .i64 0, .int .i64 0, .bool false, undef, undef, .slice A xs.length cap, .int .i64 (xs.length : Int), .int .i64 (k : Int), u22, u23, u24, u25, u26, u27, u28, u29, u30, u31, u32, u33, u34, u35, u36, u37, u38, u39], defers := Ds.map mark }) (fun a' _ => xs.length - (intOf (a'.tmps.getD 21 undef)).toNat)
      ⟨0, [], undef, undef, undef, undef, undef, undef, undef, undef, undef, undef, undef, undef, undef, undef, undef, undef, undef, undef, undef, undef, undef, undef, Nat.zero_le _, (fun j x h => by omega), hF0, rfl⟩ ?_
    clear hF0
    rintro a' W ⟨k, Ds, u6, u7, u8, u9, u22, u23, u24, u25, u26, u27, u28, u29, u30, u31, u32, u33, u34, u35, u36, u37, u38, u39, hk, hlow, hI, rfl⟩
    have hl2 := HL.out
    have hbl : w.heap.size + 1 < W.heap.size := hI.r2.lt
    by_cases hlt : k < xs.length
    · have hk0 : (0 : Int) ≤ (k : Int) := by omega
      have hk1 : (k : Int) < (xs.length : Int) := by omega
      obtain ⟨x, hx⟩ : ∃ x, xs[k]? = some x := ⟨_, List.getElem?_eq_getElem hlt⟩
      obtain ⟨A', c', hA, hcl⟩ := HT.out.keep (Keeps.grown hI.step)
      obtain ⟨bb, off, hAb, hcl2⟩ := hcl (by intro e0; rw [e0] at hlt; simp at hlt)
      obtain ⟨v', hE, n0, n1, n2, n3, n4, n5⟩ := hcl2 k x hx
      clear hcl2 hcl
      have hE3 := hE
      obtain ⟨A2, c2, rfl, _, _⟩ := hE3
      obtain ⟨rfl, rfl⟩ : A = A' ∧ cap = c' := by simpa using hA
      subst hAb
      clear hA
      have HE1 := Lib.hid ((hE.keep (.alloc W (.cells #[.int .i64 (k : Int)] 3))).keep (.alloc _ (.cells (ndCells x (.slice A2 x.next.length c2)) 70)))
      have HX := Lib.hid hx
      have HLow := Lib.hid hlow
      have HI := Lib.hid hI
      clear hx hlow hI hE
      cases hs : actB x.kind
      · have HS := Lib.hid hs
        gi_wp2_with (refine ⟨trivial, ?_⟩; gi_at_call 46; go_must (refine (callsIn_wide.2 (oacts_any x (.slice A2 x.next.length c2) _)).mono ?_; rw [HS.out]; rintro e W2 ⟨rfl, hg2⟩; obtain ⟨hF, hi, _⟩ := chk_behind HI.out hg2; have HF := Lib.hid hF; clear hF hg2 hi))
        exact ⟨⟨k + 1, Ds, _, _, _, _, _, _, _, _, _, _, _, _, _, _, _, _, _, _, _, _, _, _, by omega, HLow.out.next HX.out (low_not HS.out), HF.out, rfl⟩, by simp [intOf]; omega⟩
      · have HS := Lib.hid hs
        gi_wp2_with (refine ⟨trivial, ?_⟩; gi_at_call 46; go_must (refine (callsIn_wide.2 (oacts_any x (.slice A2 x.next.length c2) _)).mono ?_; rw [HS.out]; rintro e W2 ⟨rfl, hg2⟩; obtain ⟨hF, hi, hn⟩ := chk_behind HI.out hg2; have HF := Lib.hid hF; have HB := Lib.hid hi; have HE2 := Lib.hid (HE1.out.keep (.grown hg2)); obtain ⟨p0, p1, p2, p3, p4, p5⟩ := nd_cells hn; have q0 : W2.cell? ⟨W.heap.size, 0, none⟩ = some (.int .i64 (k : Int)) := hi.cell 0; clear hF hg2 hi hn))
        obtain ⟨hln, hl1⟩ : x.next.length ≤ 8 ∧ 1 ≤ x.next.length := ⟨(HK.out.end_ HX.out).2.2.1, (HK.out.end_ HX.out).2.2.2 HS.out⟩
        have HN : Hid (x.next.length ≤ 900 ∧ x.next ≠ []) := ⟨by omega, fun e => by rw [e] at hl1; simp at hl1⟩
        clear hln hl1
        have HE2d : Hid (Edges W2.drew (.slice A2 x.next.length c2) x.next) := HE2.out.keep (Keeps.refl _).drew
        refine wpIn_mono (Q := NoPanic _) ?_ (fun e a w h => NoPanic.imp e a w h)
        gi_region_with (first | (refine ⟨trivial, ?_⟩; gi_at_call 48; go_must (refine (callsIn_wide.2 (oedges_any x (.slice A2 x.next.length c2) _ HE2d.out HN.out.1 HN.out.2)).mono ?_; rintro e W3 ⟨v3, rfl, hE3, hg3⟩; obtain ⟨A3, c3, rfl, _⟩ := id hE3; have q3 := Keeps.grown hg3 _ _ q0; have HRD := Lib.hid (rdy_of HF.out HB.out HT.out hg3 hE3); clear hE3 hg3)) | (refine ⟨trivial, ?_⟩; gi_at_call 47; go_must (refine (callsIn_wide.2 (ojumps_any _ _ _ _ _ _ _ _ _ _ rfl rfl)).mono ?_; rintro e W4 ⟨rfl, rfl⟩)))
        all_goals
          (refine NoPanic.normal ?_
           gi_wp2_with fail
           generalize W3.heap.size = B3 at *
           generalize (((W3.alloc (.cells #[.slice (some ⟨bb, off, none⟩) xs.length cap] 22)).alloc (.cells #[.int .i64 (k : Int)] 3)).alloc (.cells #[.slice A3 (allE x).length c3] 68)) = W4 at *
           have hR := HRD.out
           have hDs := hR.cs.lt
           have hb4 := hR.cs.r2.lt
           have hb5 := hR.bi.lt
           have hb6 := hR.be.lt
           refine wpIn_rangeFunc_tellsP rfl (by omega) (gf := 63) (lb := #[.pointer (some ⟨B3 + 2, 0, none⟩), .pointer (some ⟨B3, 0, none⟩), .pointer (some ⟨B3 + 1, 0, none⟩)]) rfl trivial (enters_of Try.func63 (by kernel_rfl) rfl)
             (jumps_tells (B3 + 2) B3 (B3 + 1) xs (.slice (some ⟨bb, off, none⟩) xs.length cap) (k : Int) x (allE x) (.slice A3 (allE x).length c3) HL.out (nodeAt_nat.trans HX.out) (fun e he => okt_goes HK.out HX.out he)) (fun h k => h.trans k) (fun _ _ _ o' h hc => .putObj o' h hc) (fun _ => rfl) ?t0
             (fun pre W7 => CS w 0 0 Ds W7 ∧ Blk W7 W.heap.size 3 #[.int .i64 (k : Int)] ∧ pre.all upB = true) (fun c pre W7 => c = .ret ∧ CS w (k : Int) 10 Ds W7 ∧ pre.all upB = false)
             (fun s X Y h hb => ⟨h.1.below hb hb4 hDs, h.2.1.below hb hb5, h.2.2⟩) (fun c s X Y h hb => ⟨h.1, h.2.1.below hb hb4 hDs, h.2.2⟩) ⟨hR.cs, hR.bi, rfl⟩
             (fun q => { tmps := #[.slice (some ⟨bb, off, none⟩) xs.length cap, undef, .pointer (some ⟨w.heap.size, 0, none⟩), .pointer (some ⟨w.heap.size + 1, 0, none⟩), .int .i64 (-1), .int .i64 0, .pointer (some ⟨W.heap.size, 0, none⟩), .pointer (some ⟨W.heap.size + 1, 0, none⟩), u8, .int .i64 q.2, pairV (-1, 0), .slice (some ⟨bb, off, none⟩) xs.length cap, pairV (-1, 0), .int .i64 (-1), .int .i64 0, .int .i64 0, .bool false, undef, undef, .slice (some ⟨bb, off, none⟩) xs.length cap, .int .i64 (xs.length : Int), .int .i64 (k : Int), .bool true, .int .i64 (k : Int), .pointer (some ⟨bb, off + k * 6, none⟩), ndV x (.slice A2 x.next.length c2), ndV x (.slice A2 x.next.length c2), .bool true, .bool false, .slice (some ⟨bb, off, none⟩) xs.length cap, .int .i64 (k : Int), ndV x (.slice A2 x.next.length c2), .slice A3 (allE x).length c3, .func (.func 63) #[] #[.pointer (some ⟨B3 + 2, 0, none⟩), .pointer (some ⟨B3, 0, none⟩), .pointer (some ⟨B3 + 1, 0, none⟩)], .int .i64 q.1, .int .i64 q.2, u36, u37, u38, u39], defers := [] }) ?assign ?body ?done ?stop
           case t0 =>
             intro W5 hW
             exact ⟨hR.be.below hW hb6, hR.bn.below hW (by omega), hR.bf.below hW (by omega), hR.tb.keep (.below hW), hR.ed.keep (.below hW)⟩
           case assign =>
             intro l q W3 K hK
             gi_wp2
             exact hK
           case body =>
             rintro l pre ⟨a, b⟩ W5 hpre hsz ⟨h1, h2, h3⟩
             have d1 : W5.cell? ⟨w.heap.size, 0, none⟩ = some (.int .i64 0) := h1.r1.cell 0
             have d2 : W5.cell? ⟨w.heap.size + 1, 0, none⟩ = some (.int .i64 0) := h1.r2.cell 0
             have f1 : W5.frozen? ⟨w.heap.size, 0, none⟩ = false := h1.r1.frozen 0
             have f2 : W5.frozen? ⟨w.heap.size + 1, 0, none⟩ = false := h1.r2.frozen 0
             have d3 : W5.cell? ⟨W.heap.size, 0, none⟩ = some (.int .i64 (k : Int)) := h2.cell 0
             have HI1 := Lib.hid h1
             have HI2 := Lib.hid h2
             have HI3 := Lib.hid h3
             clear h1 h2 h3 hpre
             by_cases hr1 : b < 1
             · have HS2 : Hid (upB (a, b) = false) := show _ = _ by simp [upB, hr1]
               gi_wp2_with fail
               exact ⟨((KeepsOthers.setCell _ _ _).trans (KeepsOthers.setCell _ _ _)).from _, rfl, HI1.out.put _ _, by rw [List.all_append, List.all_cons, HS2.out]; simp⟩
             · have HS2 : Hid (upB (a, b) = true) := show _ = _ by simp [upB, hr1]
               gi_wp2_with fail
               exact ⟨KeepsFrom.refl _ _, .refl _, HI1.out, HI2.out, fun a1 b1 hm => List.all_eq_true.1 (all_snoc HI3.out HS2.out) (a1, b1) hm⟩
           case done =>
             rintro D W5 hD ⟨h1, h2, h3⟩ hK
             have HN := Lib.hid (h1.mark (fun D' hm => by have := hDs D' hm; omega) (by omega) hK)
             have HFN : Hid (Low xs (k + 1)) := HLow.out.next HX.out (by rw [low_up HS.out, h3]; rfl)
             clear h1 h2 h3 hK
             gi_wp2_with fail
             exact ⟨⟨k + 1, D :: Ds, _, _, _, _, _, _, _, _, _, _, _, _, _, _, _, _, _, _, _, _, _, _, by omega, HFN.out, HN.out, rfl⟩, by simp [intOf]; omega⟩
           case stop =>
             rintro D c pre W5 hD hpre hne ⟨rfl, h1, h2⟩ hK
             have HN := Lib.hid (h1.mark (fun D' hm => by have := hDs D' hm; omega) (by omega) hK)
             have HS3 : Hid (lowB xs x = true) := show _ = _ by rw [low_up HS.out, all_pre hpre h2]; rfl
             clear h1 h2 hK hpre
             gi_wp2_with fail
             exact ochk_out (Ds := D :: Ds) rfl rfl HN.out fun W' hW' => ⟨by rw [HO.out, firstLow_here HX.out HLow.out HS3.out, Nat.zero_add], hW'⟩)
    · have hke : k = xs.length := by omega
      have hge : (xs.length : Int) ≤ (k : Int) := by omega
      have HS : Hid (orderL xs = (-1, 0)) := HO.out.trans (firstLow_none (fun x hx => by
        obtain ⟨j, hj, rfl⟩ := List.getElem_of_mem hx
        exact hlow j _ (by omega) (List.getElem?_eq_getElem hj)))
      have d1 : W.cell? ⟨w.heap.size, 0, none⟩ = some (.int .i64 0) := hI.r1.cell 0
      have d2 : W.cell? ⟨w.heap.size + 1, 0, none⟩ = some (.int .i64 0) := hI.r2.cell 0
      have f1 : W.frozen? ⟨w.heap.size, 0, none⟩ = false := hI.r1.frozen 0
      have f2 : W.frozen? ⟨w.heap.size + 1, 0, none⟩ = false := hI.r2.frozen 0
      have HI := Lib.hid hI
      clear hk hlt hke hlow hI
      gi_wp2_with fail
      exact ochk_out rfl rfl (HI.out.put _ _) fun W' hW' => ⟨by rw [HS.out], hW'⟩
  · have HO : Hid (orderL xs = checkL xs) := show _ = _ by unfold orderL; rw [if_neg hc]
    have hc' : ((checkL xs).2 == 0) = false := beq_eq_false_iff_ne.2 hc
    gi_wp2_with (refine ⟨trivial, ?_⟩; gi_at_call 45; go_must (refine (callsIn_wide.2 (check_any xs _ _ (HT.out.keep (.grown (only_alloc (only_alloc (only_refl _ _) _) _))) (by have := HL.out; omega))).mono ?_; rintro e w1 ⟨rfl, hg1⟩; have hF0 := H00.out.kept hg1; have HF := Lib.hid hF0; have d1 : w1.cell? ⟨w.heap.size, 0, none⟩ = some (.int .i64 0) := hF0.r1.cell 0; have d2 : w1.cell? ⟨w.heap.size + 1, 0, none⟩ = some (.int .i64 0) := hF0.r2.cell 0; have f1 : w1.frozen? ⟨w.heap.size, 0, none⟩ = false := hF0.r1.frozen 0; have f2 : w1.frozen? ⟨w.heap.size + 1, 0, none⟩ = false := hF0.r2.frozen 0; clear hF0 hg1))
    exact ochk_out (Ds := []) rfl rfl (HF.out.put _ _) fun W' hW' => ⟨by rw [HO.out], hW'⟩
end Go.Proofs.Ytmhbmeckdbdhpaa

/- The law's own 'apart': does a way of a few steps tell two nodes apart? -/
import Derived.Test.YtepjkoegbehojaaZMgBQ
import Derived.Test.YtepjkoegbehojaaZMgAR
import Derived.Test.YtepjkoegbehojaaZMgAK
import Derived.Test.YtepjkoegbehojaaZMgAN
import Derived.Test.YtepjkoegbehojaaZORCh
import Derived.Test.YtepjkoegbehojaaZMgAG
import Derived.Test.YtepjkoegbehojaaZMgAC
import Derived.Deep.AppendSrc
import Derived.Deep.QuietTactic
import Derived.BigQuiet
import Derived.Deep.Onto
import Derived.Test.YtepjkoegbehojaaZMgAL
import Derived.Deep.RegionHeld3
import Derived.Deep.CutBlock
import Derived.Deep.CutRange
namespace Go.Proofs.Ytepjkoegbehojaa
open Go.RowKit Go.Shelf

section
variable {L : List Nd} {k m n : Nat} {x y : Nd}
theorem sc_is (hx : L[m]? = some x) : scL L m = (allE x).map (placeL L x) := by unfold scL; rw [hx]
theorem hd_is (hx : L[m]? = some x) : hdL L m = (x.kind, x.chan, x.next.length) := by unfold hdL; rw [hx]
theorem apr_head (hx : L[m]? = some x) (hy : L[n]? = some y) (h : ¬ (x.kind = y.kind ∧ x.chan = y.chan ∧ x.next.length = y.next.length)) : aptK (hdL L) (scL L) (k + 1) m n = true := by
  show unl _ _ _ _ _ = true
  unfold unl
  rw [hd_is hx, hd_is hy, decide_eq_false (fun e => h (by simpa using e))]
  rfl
/-- What the q-th edges tell. -/
def tellB (L : List Nd) (k : Nat) (x y : Nd) (e f : Ed) : Bool := aptK (hdL L) (scL L) k (placeL L x e).1 (placeL L y f).1 || !decide ((placeL L x e).2 = (placeL L y f).2)
theorem apr_here (hx : L[m]? = some x) (hy : L[n]? = some y) {j : Nat} {e f : Ed} (he : (allE x)[j]? = some e) (hf : (allE y)[j]? = some f) (ht : tellB L k x y e f = true) : aptK (hdL L) (scL L) (k + 1) m n = true := by
  show unl _ _ _ _ _ = true
  unfold unl
  rw [Bool.or_eq_true]
  refine .inr (List.any_eq_true.2 ⟨(placeL L x e, placeL L y f), zip_at (j := j) ?_ ?_, ht⟩)
  · rw [sc_is hx, List.getElem?_map, he]; rfl
  · rw [sc_is hy, List.getElem?_map, hf]; rfl
theorem apr_none (hx : L[m]? = some x) (hy : L[n]? = some y) (hh : x.kind = y.kind ∧ x.chan = y.chan ∧ x.next.length = y.next.length) (h : ∀ (j : Nat) (e f : Ed), (allE x)[j]? = some e → (allE y)[j]? = some f → tellB L k x y e f = false) : aptK (hdL L) (scL L) (k + 1) m n = false := by
  show unl _ _ _ _ _ = false
  unfold unl
  rw [hd_is hx, hd_is hy, decide_eq_true (by rw [hh.1, hh.2.1, hh.2.2]), Bool.not_true, Bool.false_or, List.any_eq_false]
  intro p hp
  obtain ⟨j, h1, h2⟩ := zip_mem hp
  rw [sc_is hx, List.getElem?_map] at h1
  rw [sc_is hy, List.getElem?_map] at h2
  obtain ⟨e, he, h1⟩ := Option.map_eq_some_iff.1 h1
  obtain ⟨f, hf, h2⟩ := Option.map_eq_some_iff.1 h2
  have := h j e f he hf
  unfold tellB at this
  rw [← h1, ← h2, this]
  decide
end
/-- Nothing, appended to nothing. -/
theorem wpList_append_none {ops : Array Oper} {rest : List Oper} {o : Oper} {a : Act} {W : World} {Q : Exit → Act → World → Prop} (hgd : o.guard = none) (s x : Operand)
    (ho : o.op = .call { callee := .builtin .append, args := #[s, x], argTypes := #[44, 44] })
    {A : Option Addr} {c : Nat} (hs : a.eval s = .slice none 0 0) (hx : a.eval x = .slice A 0 c)
    (h : wpList Try.prog ops Q rest (a.put o.dst (.slice none 0 0)) W) : wpList Try.prog ops Q (o :: rest) a W := by
  obtain ⟨i0, hi, hz0, hz1, hz2⟩ := info_parts edge_info
  refine wpList_plain hgd fun K hK => ?_
  have hsrc : Src Try.prog i0.size 44 (.slice A 0 c) 0 [] W := by
    cases A with
    | none => exact Src.ofNil W Try.underlying44 c
    | some p => exact Src.ofSlice W Try.underlying44 p 0 c [] (by simp) (fun j u hu => by simp at hu) (fun u hu => by cases hu)
  have hr : (Builtin.append_ #[44, 44] o.type #[.slice none 0 0, .slice A 0 c]).run Try.prog W = .ok (.slice none 0 0) W := by
    simp [Builtin.append_, run_underlying Try.underlying44, sizeOf, typeInfo, hi, hsrc.len, hsrc.cells]
  unfold Oper.wp execOp
  simp only [ho, resolve, invoke, builtin, Sem.run_bind, Sem.run_pure, Result.andThen_ok, List.map_toArray, List.map_cons, List.map_nil, hs, hx, hr]
  exact hK _ _ h

/-- All edges of a list that may be empty, appended to nothing: a row in a block of its own. -/
theorem wpList_append_all {ops : Array Oper} {rest : List Oper} {o : Oper} {a : Act} {W : World} {Q : Exit → Act → World → Prop} (hgd : o.guard = none) (s x : Operand)
    (ho : o.op = .call { callee := .builtin .append, args := #[s, x], argTypes := #[44, 44] })
    {es : List Ed} {A : Option Addr} {c : Nat} (hs : a.eval s = .slice none 0 0) (hx : a.eval x = .slice A es.length c) (hE : Edges W (.slice A es.length c) es) (hl : es.length ≤ 1000)
    (h : ∀ v' W', EOwn W.heap.size W' v' es → W.grownBy W' none → wpList Try.prog ops Q rest (a.put o.dst v') W') : wpList Try.prog ops Q (o :: rest) a W := by
  by_cases hn : es = []
  · subst hn
    exact wpList_append_none hgd s x ho hs hx (h _ _ (EOwn.nil_ _ _) (only_refl _ _))
  · obtain ⟨A', c', hA, _, hcl⟩ := id hE
    obtain ⟨b', off', hb', _⟩ := hcl hn
    simp only [Value.slice.injEq, true_and] at hA
    obtain ⟨rfl, rfl⟩ := hA
    subst hb'
    exact wpList_append_edges hgd s x ho hs hx hE hn hl h
/-- Two boxes that a region made. -/
def TwN (W0 : World) (t : TypeId) (cs ds : Array Value) (x y : Value) (W : World) : Prop := ∃ Bx By, x = .pointer (some ⟨Bx, 0, none⟩) ∧ y = .pointer (some ⟨By, 0, none⟩) ∧ Bx ≠ By ∧ Blk W Bx t cs ∧ Blk W By t ds ∧ W0.grownBy W none ∧ W0.heap.size ≤ Bx ∧ W0.heap.size ≤ By
/-- The types' boxes stand. -/
structure AS2 (w W2 W : World) (Ba Bb m n : Nat) (s t : Int) : Prop where
  gr : w.grownBy W none
  ba : Blk W Ba 35 (edCells ((m : Int), s))
  bb : Blk W Bb 35 (edCells ((n : Int), t))
theorem AS2.start {w W2 : World} {m n : Nat} {s t : Int} (hg : w.grownBy W2 none) : AS2 w W2 ((W2.alloc (.cells (edCells ((m : Int), s)) 35)).alloc (.cells (edCells ((n : Int), t)) 35)) W2.heap.size (W2.heap.size + 1) m n s t :=
  ⟨only_alloc (only_alloc hg _) _, (Blk.new _ _ _).alloc _, blk_at (by simp) _ _⟩
/-- What stands in 'apart': the types' boxes, the nodes' boxes. -/
structure AS (w W : World) (Ba Bb Bx By m n : Nat) (s t : Int) (x y : Nd) (vx vy : Value) : Prop where
  gr : w.grownBy W none
  ba : Blk W Ba 35 (edCells ((m : Int), s))
  bb : Blk W Bb 35 (edCells ((n : Int), t))
  b1 : Blk W Bx 46 (ndCells x vx)
  b2 : Blk W By 46 (ndCells y vy)
theorem AS.kept {w W W' : World} {Ba Bb Bx By m n : Nat} {s t : Int} {x y : Nd} {vx vy : Value} (h : AS w W Ba Bb Bx By m n s t x y vx vy) (hg : W.grownBy W' none) : AS w W' Ba Bb Bx By m n s t x y vx vy :=
  ⟨only_trans h.gr hg, h.ba.kept hg, h.bb.kept hg, h.b1.kept hg, h.b2.kept hg⟩

set_option maxRecDepth 100000 in
set_option maxHeartbeats 10000000 in
theorem apart_step {L : List Nd} (hL : TW L) (hl : L.length ≤ 64) (hJ : ∀ (a : Nat) (x : Nd) (e : Ed), L[a]? = some x → x.kind ≠ 5 → e ∈ allE x → jumpA L (a : Int) e = ((placeL L x e).2, decide (0 < (placeL L x e).2))) (k : Nat) (z : Int) (hz : z = (k : Int)) (h9 : k ≤ 9)
    (IH : 0 < k → ∀ (a b : Nat) (v : Value) (w : World), a < L.length → b < L.length → Tbl w v L → Calls Try.prog 20 #[v, .int .i64 (a : Int), .int .i64 (b : Int), .int .i64 (z - 1)] w fun e w' => e = .returned (.bool (aptK (hdL L) (scL L) k (rootL L a) (rootL L b))) ∧ w.grownBy w' none)
    (a b : Nat) (v : Value) (w : World) (ha : a < L.length) (hb : b < L.length) (hT : Tbl w v L) :
    Calls Try.prog 20 #[v, .int .i64 (a : Int), .int .i64 (b : Int), .int .i64 z] w fun e w' => e = .returned (.bool (aptK (hdL L) (scL L) (k + 1) (rootL L a) (rootL L b))) ∧ w.grownBy w' none := by
  have HTW := Lib.hid hL
  have HLL := Lib.hid hl
  have HJ := Lib.hid hJ
  have HIH := Lib.hid IH
  have HT := Lib.hid hT
  have HK9 : Hid (z = (k : Int) ∧ k ≤ 9) := Lib.hid ⟨hz, h9⟩
  obtain ⟨m, x, s, hx, hx5, hs0, hs1, hrm, _, hra⟩ := root_at hL ha
  obtain ⟨n, y, t, hy, hy5, ht0, ht1, hrn, _, hrb⟩ := root_at hL hb
  rw [hrm, hrn]
  have ra := hra 0 (by omega) (by omega)
  have rb := hrb 0 (by omega) (by omega)
  rw [Int.add_zero] at ra rb
  have HRA := Lib.hid ra
  have HRB := Lib.hid rb
  have hml : m < L.length := (List.getElem?_eq_some_iff.1 hx).1
  have hnl : n < L.length := (List.getElem?_eq_some_iff.1 hy).1
  have HX : Hid (L[m]? = some x ∧ x.kind ≠ 5) := Lib.hid ⟨hx, hx5⟩
  have HY : Hid (L[n]? = some y ∧ y.kind ≠ 5) := Lib.hid ⟨hy, hy5⟩
  obtain ⟨A, cap, rfl, _⟩ := id hT
  obtain ⟨bt, ot, A1, c1, hA1, hE1, p0', p1', p2', p3', p4', p5'⟩ := cls_at hT hx
  obtain ⟨bt', ot', A2, c2, hA2, hE2, q0', q1', q2', q3', q4', q5'⟩ := cls_at hT hy
  subst hA1
  simp only [Option.some.injEq, Addr.mk.injEq, and_true] at hA2
  obtain ⟨rfl, rfl⟩ := hA2
  have HC : Hid (∀ W : World, w.grownBy W none → (W.cell? ⟨bt, ot + m * 6, none⟩ = some (.int .i64 x.kind) ∧ W.cell? ⟨bt, ot + m * 6 + 1, none⟩ = some (.int .i64 x.prio) ∧ W.cell? ⟨bt, ot + m * 6 + 2, none⟩ = some (.bool x.chan) ∧ W.cell? ⟨bt, ot + m * 6 + 3, none⟩ = some (.int .i64 x.pay.1) ∧ W.cell? ⟨bt, ot + m * 6 + 4, none⟩ = some (.int .i64 x.pay.2) ∧ W.cell? ⟨bt, ot + m * 6 + 5, none⟩ = some (.slice A1 x.next.length c1)) ∧
      (W.cell? ⟨bt, ot + n * 6, none⟩ = some (.int .i64 y.kind) ∧ W.cell? ⟨bt, ot + n * 6 + 1, none⟩ = some (.int .i64 y.prio) ∧ W.cell? ⟨bt, ot + n * 6 + 2, none⟩ = some (.bool y.chan) ∧ W.cell? ⟨bt, ot + n * 6 + 3, none⟩ = some (.int .i64 y.pay.1) ∧ W.cell? ⟨bt, ot + n * 6 + 4, none⟩ = some (.int .i64 y.pay.2) ∧ W.cell? ⟨bt, ot + n * 6 + 5, none⟩ = some (.slice A2 y.next.length c2))) :=
    Lib.hid fun W hg => have kk := Keeps.grown hg; ⟨⟨kk _ _ p0', kk _ _ p1', kk _ _ p2', kk _ _ p3', kk _ _ p4', kk _ _ p5'⟩, kk _ _ q0', kk _ _ q1', kk _ _ q2', kk _ _ q3', kk _ _ q4', kk _ _ q5'⟩
  have HE : Hid (Edges w (.slice A1 x.next.length c1) x.next ∧ Edges w (.slice A2 y.next.length c2) y.next) := Lib.hid ⟨hE1, hE2⟩
  have hg1 := hL.good x (List.mem_of_getElem? hx)
  have hg2 := hL.good y (List.mem_of_getElem? hy)
  have HX8 : Hid (x.next.length ≤ 8 ∧ y.next.length ≤ 8) := Lib.hid ⟨hg1.2.2, hg2.2.2⟩
  clear hE1 hE2 p0' p1' p2' p3' p4' p5' q0' q1' q2' q3' q4' q5' hx hy hT hra hrb ra rb hg1 hg2 hx5 hy5 hrm hrn hL hJ IH
  go_enter Try.func20, Try.ntmps20
  go_upto_region 2 with (first
    | (go_at_call 22; (refine (resolve_any L _ ((b : Int), 0) _ (HT.out.keep (.grown HG1.out)) (by have := HLL.out; omega)).mono ?_; rw [HRB.out]; rintro e W2 ⟨rfl, hg⟩; have HG2 := Lib.hid (only_trans HG1.out hg); clear hg))
    | (go_at_call 22; (refine (resolve_any L _ ((a : Int), 0) _ HT.out (by have := HLL.out; omega)).mono ?_; rw [HRA.out]; rintro e W1 ⟨rfl, hg⟩; have HG1 := Lib.hid hg; clear hg))
    | fail)
  have HS2 : Hid (AS2 w W2 ((W2.alloc (.cells (edCells ((m : Int), s)) 35)).alloc (.cells (edCells ((n : Int), t)) 35)) W2.heap.size (W2.heap.size + 1) m n s t) := Lib.hid (AS2.start HG2.out)
  change Code.wp _ _ _ _ ((W2.alloc (.cells (edCells ((m : Int), s)) 35)).alloc (.cells (edCells ((n : Int), t)) 35))
  revert HS2
  generalize ((W2.alloc (.cells (edCells ((m : Int), s)) 35)).alloc (.cells (edCells ((n : Int), t)) 35)) = W3
  generalize W2.heap.size = Ba
  generalize Ba + 1 = Bb
  intro HS2
  have hc := HC.out W3 HS2.out.gr
  obtain ⟨⟨p0, p1, p2, p3, p4, p5⟩, q0, q1, q2, q3, q4, q5⟩ := hc
  have x0 := HS2.out.ba.cell 0
  have x1 := HS2.out.ba.cell 1
  have y0 := HS2.out.bb.cell 0
  have y1 := HS2.out.bb.cell 1
  have hml' : (m : Int) < (L.length : Int) := by omega
  have hnl' : (n : Int) < (L.length : Int) := by omega
  go_cut [11, 12] from 20 to 150 (fun u v wx => TwN W3 46 (ndCells x (.slice A1 x.next.length c1)) (ndCells y (.slice A2 y.next.length c2)) u v wx)
  case first =>
    refine region_two (by kernel_rfl) (by kernel_rfl) [28, 29, 30, 31, 32, 33, 34, 35, 36, 37, 11, 12] (by kernel_rfl) (by kernel_rfl) (by decide)
      [(0, .slice (some ⟨bt, ot, none⟩) L.length cap), (9, .pointer (some ⟨Ba, 0, none⟩)), (10, .pointer (some ⟨Bb, 0, none⟩)), (28, .slice (some ⟨bt, ot, none⟩) L.length cap), (29, .pointer (some ⟨Ba, 0, none⟩)), (30, .int .i64 (m : Int)), (31, .pointer (some ⟨bt, ot + m * 6, none⟩)), (32, ndV x (.slice A1 x.next.length c1)),
       (33, .slice (some ⟨bt, ot, none⟩) L.length cap), (34, .pointer (some ⟨Bb, 0, none⟩)), (35, .int .i64 (n : Int)), (36, .pointer (some ⟨bt, ot + n * 6, none⟩)), (37, ndV y (.slice A2 y.next.length c2))]
      ⟨11, 46, ndCells ⟨0, 0, false, (0, 0), []⟩ (.slice none 0 0), ndCells x (.slice A1 x.next.length c1), 32, 10, 12⟩ ⟨12, 46, ndCells ⟨0, 0, false, (0, 0), []⟩ (.slice none 0 0), ndCells y (.slice A2 y.next.length c2), 37, 11, 13⟩
      ?h0 (boxed_node _ _ _ _ _ _ _ _) (boxed_node _ _ _ _ _ _ _ _) rfl rfl rfl rfl (by dsimp only; decide) (by kernel_rfl) (by kernel_rfl) (by kernel_rfl) (by kernel_rfl) ?hops ?hQ
    case h0 =>
      intro p hp hn
      simp only [List.mem_cons, List.not_mem_nil, or_false] at hp
      rcases hp with rfl | rfl | rfl | rfl | rfl | rfl | rfl | rfl | rfl | rfl | rfl | rfl | rfl
      all_goals first | rfl | exact absurd (by dsimp only; decide) hn
    case hops =>
      exact ⟨.val 28 _ rfl rfl rfl (ov_move rfl rfl), .val 29 _ rfl rfl rfl (ov_field0 rfl rfl), .val 30 _ rfl rfl rfl (ov_load_int rfl rfl x0), .val 31 _ rfl rfl rfl (ov_index rfl rfl rfl hml), .val 32 _ rfl rfl rfl (ov_load_node rfl rfl p0 p1 p2 p3 p4 p5),
        .val 33 _ rfl rfl rfl (ov_move rfl rfl), .val 34 _ rfl rfl rfl (ov_field0 rfl rfl), .val 35 _ rfl rfl rfl (ov_load_int rfl rfl y0), .val 36 _ rfl rfl rfl (ov_index rfl rfl rfl hnl), .val 37 _ rfl rfl rfl (ov_load_node rfl rfl q0 q1 q2 q3 q4 q5),
        .al1 rfl rfl rfl, .al2 rfl rfl rfl, .st1 rfl rfl rfl, .st2 rfl rfl rfl, trivial⟩
    case hQ =>
      intro vs W Bm Bn hg e1 e2 hne h1 h2 k1 k2
      have HZ : Hid (TwN W3 46 (ndCells x (.slice A1 x.next.length c1)) (ndCells y (.slice A2 y.next.length c2)) (vs 11) (vs 12) W) := Lib.hid ⟨Bm, Bn, e1, e2, hne, k1, k2, hg, h1, h2⟩
      clear hg e1 e2 hne h1 h2 k1 k2
      simp only [List.foldl_cons, List.foldl_nil, List.setIfInBounds_toArray, List.set_cons_zero, List.set_cons_succ]
      go_wp2_with fail
      go_meet
      exact HZ.out
  case rest =>
    clear p0 p1 p2 p3 p4 p5 q0 q1 q2 q3 q4 q5 x0 x1 y0 y1
    obtain ⟨Bm, Bn, rfl, rfl, hmn, km, kn, hg, _, _⟩ := hcut
    have HS := Lib.hid (AS.mk (x := x) (y := y) (vx := .slice A1 x.next.length c1) (vy := .slice A2 y.next.length c2) (only_trans HS2.out.gr hg) (HS2.out.ba.kept hg) (HS2.out.bb.kept hg) km kn)
    have HMN := Lib.hid hmn
    clear hg hmn HS2 km kn hml' hnl'
    have m0 := HS.out.b1.cell 0
    have m2 := HS.out.b1.cell 2
    have m3 := HS.out.b1.cell 3
    have m4 := HS.out.b1.cell 4
    have m5 := HS.out.b1.cell 5
    have n0 := HS.out.b2.cell 0
    have n2 := HS.out.b2.cell 2
    have n3 := HS.out.b2.cell 3
    have n4 := HS.out.b2.cell 4
    have n5 := HS.out.b2.cell 5
    have HDL : Hid (∀ e, (x.kind != y.kind || x.chan != y.chan || ((x.next.length : Int) != (y.next.length : Int))) = e → e = true → aptK (hdL L) (scL L) (k + 1) m n = true) := Lib.hid fun e h1 h2 => apr_head HX.out.1 HY.out.1 (fun h => by rw [← h1, h.1, h.2.1, h.2.2] at h2; simp at h2)
    cases hk1 : (x.kind != y.kind)
    case true =>
      have HR := Lib.hid (HDL.out _ rfl (by rw [hk1]; rfl))
      go_wp2
      go_ret
      exact ⟨by rw [HR.out]; rfl, HS.out.gr⟩
    case false =>
      by_cases hk2 : x.chan = y.chan
      case neg =>
        have HR := Lib.hid (HDL.out _ rfl (by rw [hk1, bne_iff_ne.2 hk2]; rfl))
        go_wp2
        go_ret
        exact ⟨by rw [HR.out]; rfl, HS.out.gr⟩
      case pos =>
        cases hk3 : ((x.next.length : Int) != (y.next.length : Int))
        case true =>
          have HR := Lib.hid (HDL.out _ rfl (by rw [hk1, hk3]; simp))
          go_wp2
          go_ret
          exact ⟨by rw [HR.out]; rfl, HS.out.gr⟩
        case false =>
          have HHD : Hid (x.kind = y.kind ∧ x.chan = y.chan ∧ x.next.length = y.next.length) := Lib.hid ⟨by simpa using hk1, hk2, by have h := hk3; simp at h; omega⟩
          have HE1 := Lib.hid (HE.out.1.keep (.grown HS.out.gr))
          have HE2 := Lib.hid (HE.out.2.keep (.grown HS.out.gr))
          have HLN : Hid (x.next.length ≤ 1000 ∧ y.next.length ≤ 1000) := Lib.hid (by have := HX8.out; omega)
          go_upto_region 8 with (first
            | (at_builtin; refine wpList_append_all rfl _ _ rfl rfl rfl (HE2.out.keep (.grown HG4.out)) HLN.out.2 ?_; intro vq W5 hr5 hg5; have HR5 := Lib.hid hr5; have HG5 := Lib.hid hg5; replace m2 := Keeps.grown hg5 _ _ m2; replace m3 := Keeps.grown hg5 _ _ m3; replace m4 := Keeps.grown hg5 _ _ m4; replace n3 := Keeps.grown hg5 _ _ n3; replace n4 := Keeps.grown hg5 _ _ n4; clear hr5 hg5 n5)
            | (at_builtin; refine wpList_append_all rfl _ _ rfl rfl rfl HE1.out HLN.out.1 ?_; intro vp W4 hr4 hg4; have HR4 := Lib.hid hr4; have HG4 := Lib.hid hg4; replace m2 := Keeps.grown hg4 _ _ m2; replace m3 := Keeps.grown hg4 _ _ m3; replace m4 := Keeps.grown hg4 _ _ m4; replace n3 := Keeps.grown hg4 _ _ n3; replace n4 := Keeps.grown hg4 _ _ n4; replace n5 := Keeps.grown hg4 _ _ n5; clear hr4 hg4 m5)
            | fail)
          have HS5 := Lib.hid (HS.out.kept (only_trans HG4.out HG5.out))
          have H2 : Hid (E2 wc.heap.size W5 vp vq x.next y.next) := Lib.hid ⟨HR4.out.kept0 HG5.out, World.ownsRow.mono HR5.out (by have := HG4.out.size; omega), fun g e e' => by
            have h4 := (World.ownsRow.lt HR4.out g e).2
            have h5 := (World.ownsRow.lt HR5.out g e').1
            omega⟩
          clear m0 m2 m3 m4 n0 n2 n3 n4
          have m2 : W5.cell? ⟨Bm, 2, none⟩ = some (.bool y.chan) := by
            have h : W5.cell? ⟨Bm, 2, none⟩ = some (.bool x.chan) := HS5.out.b1.cell 2
            rw [h, HHD.out.2.1]
          have m3 : W5.cell? ⟨Bm, 3, none⟩ = some (.int .i64 x.pay.1) := HS5.out.b1.cell 3
          have m4 : W5.cell? ⟨Bm, 4, none⟩ = some (.int .i64 x.pay.2) := HS5.out.b1.cell 4
          have n3 : W5.cell? ⟨Bn, 3, none⟩ = some (.int .i64 y.pay.1) := HS5.out.b2.cell 3
          have n4 : W5.cell? ⟨Bn, 4, none⟩ = some (.int .i64 y.pay.2) := HS5.out.b2.cell 4
          have hwc : Hid (wc.grownBy W5 none ∧ wc.heap.size ≤ W5.heap.size) := Lib.hid ⟨only_trans HG4.out HG5.out, by have := HG4.out.size; have := HG5.out.size; omega⟩
          clear HG4 HG5 HR4 HR5 hk1 hk2 hk3 HDL
          go_upto_if 68 with fail
          go_cut [13, 14] from 38 to 134 (fun u v wx => E2 wc.heap.size wx u v (allE x) (allE y) ∧ wc.grownBy wx none)
          case first =>
            cases hc : y.chan
            · have HA2 : Hid (E2 wc.heap.size W5 vp vq (allE x) (allE y)) := Lib.hid (by
                have := HHD.out.2.1
                have e1 : allE x = x.next := by unfold allE; rw [this, hc]; simp
                have e2 : allE y = y.next := by unfold allE; rw [hc]; simp
                rw [e1, e2]; exact H2.out)
              rw [hc] at m2
              go_wp2_with fail
              go_meet
              exact ⟨HA2.out, hwc.out.1⟩
            · have HA2 : Hid (allE x = x.next ++ [x.pay] ∧ allE y = y.next ++ [y.pay]) := Lib.hid (by
                have := HHD.out.2.1
                exact ⟨by unfold allE; rw [this, hc]; simp, by unfold allE; rw [hc]; simp⟩)
              rw [hc] at m2
              have HSZ : Hid (wc.heap.size ≤ (W5.alloc (.cells (edCells x.pay) 43)).heap.size) := Lib.hid (by have := hwc.out.2; simp; omega)
              go_wp2_with (first
                | (at_builtin; refine wpList_append_edgeB rfl _ _ rfl rfl rfl (H6.out.rot.kept (only_alloc (only_refl _ _) _)).o1 (Blk.new _ _ (edCells y.pay)) HLN.out.2 HSZ6.out ?_; intro v7 W7 hr7 hg7 hb7; have H7 := Lib.hid ((H6.out.rot.kept (only_alloc (only_refl _ _) (.cells (edCells y.pay) 43))).put1 hg7 hr7 hb7).rot; have HG7 : Hid (wc.grownBy W7 none) := Lib.hid (grown_own (only_alloc HG6.out (.cells (edCells y.pay) 43)) (fun g e => (World.ownsRow.lt H6.out.o2 g e).1) hg7); clear hr7 hb7 hg7)
                | (at_builtin; refine wpList_append_edgeB rfl _ _ rfl rfl rfl (H2.out.kept (only_alloc (only_refl _ _) _)).o1 (Blk.new _ _ (edCells x.pay)) HLN.out.1 HSZ.out ?_; intro v6 W6 hr6 hg6 hb6; have H6 := Lib.hid ((H2.out.kept (only_alloc (only_refl _ _) (.cells (edCells x.pay) 43))).put1 hg6 hr6 hb6); have HG6 : Hid (wc.grownBy W6 none) := Lib.hid (grown_own (only_alloc hwc.out.1 (.cells (edCells x.pay) 43)) (fun g e => (World.ownsRow.lt H2.out.o1 g e).1) hg6); have HS6 := Lib.hid (HS.out.kept HG6.out); replace n3 : W6.cell? ⟨Bn, 3, none⟩ = some (.int .i64 y.pay.1) := HS6.out.b2.cell 3; replace n4 : W6.cell? ⟨Bn, 4, none⟩ = some (.int .i64 y.pay.2) := HS6.out.b2.cell 4; have HSZ6 : Hid (wc.heap.size ≤ (W6.alloc (.cells (edCells y.pay) 43)).heap.size) := Lib.hid (by have := HG6.out.size; simp; omega); clear hr6 hb6 hg6 m2 m3 m4)
                | fail)
              go_meet
              exact ⟨by rw [HA2.out.1, HA2.out.2]; exact H7.out, HG7.out⟩
          case rest =>
            obtain ⟨h3, hg3⟩ := hcut
            generalize wc = w8 at *
            have hls : (allE x).length ≤ 9 ∧ (allE y).length = (allE x).length := by
              have h8 := HX8.out
              have h1 := HHD.out
              rw [allE_len, allE_len, ← h1.2.1, ← h1.2.2]
              exact ⟨by split <;> omega, rfl⟩
            have HLS := Lib.hid hls
            have hs8 := HS.out.kept hg3
            have H8 := Lib.hid (And.intro ((h3.o1.edges (by omega)).edges) ((h3.o2.edges (by omega)).edges))
            have HS8 := Lib.hid hs8
            clear HS HS5 H2 m2 m3 m4 n3 n4 hwc hg3 h3 HE1 HE2 hs8 HE
            obtain ⟨A3, d3, rfl, _, _⟩ := id H8.out.1
            obtain ⟨A4, d4, rfl, _, _⟩ := id H8.out.2
            rw [hls.2] at H8 ⊢
            clear hls
            go_wp2_with fail
            go_loopw [15] (fun i wr => ∃ q : Nat, q ≤ (allE x).length ∧ i = .int .i64 (q : Int) ∧ (∀ (j : Nat) (e f : Ed), j < q → (allE x)[j]? = some e → (allE y)[j]? = some f → tellB L k x y e f = false) ∧ w8.grownBy wr none) (fun i _ => (allE x).length - (intOf i).toNat)
            case atStart => exact ⟨0, Nat.zero_le _, rfl, fun i e f h => by omega, only_refl _ _⟩
            case round =>
              obtain ⟨q, hq, rfl, hqs, hgq⟩ := hrel
              have HQS := Lib.hid hqs
              have HGQ := Lib.hid hgq
              have hls := HLS.out
              clear hqs hgq
              have hq0 : (0 : Int) ≤ (q : Int) := by omega
              by_cases hlt : q < (allE x).length
              · have hq1 : (q : Int) < ((allE x).length : Int) := by omega
                obtain ⟨e, he⟩ : ∃ e, (allE x)[q]? = some e := ⟨_, List.getElem?_eq_getElem hlt⟩
                obtain ⟨f, hf⟩ : ∃ f, (allE y)[q]? = some f := ⟨_, List.getElem?_eq_getElem (by omega)⟩
                have HEF : Hid ((allE x)[q]? = some e ∧ (allE y)[q]? = some f) := Lib.hid ⟨he, hf⟩
                have hme := List.mem_of_getElem? he
                have hmf := List.mem_of_getElem? hf
                have hj1 := HJ.out m x e HX.out.1 HX.out.2 hme
                have hj2 := HJ.out n y f HY.out.1 HY.out.2 hmf
                have hed1 := HTW.out.edge x (List.mem_of_getElem? HX.out.1) e hme
                have hed2 := HTW.out.edge y (List.mem_of_getElem? HY.out.1) f hmf
                have hp1 := root_place HTW.out (List.mem_of_getElem? HX.out.1) hme
                have hp2 := root_place HTW.out (List.mem_of_getElem? HY.out.1) hmf
                have HTL : Hid (∀ B, aptK (hdL L) (scL L) k (rootL L e.1.toNat) (rootL L f.1.toNat) = B → tellB L k x y e f = (B || !decide ((placeL L x e).2 = (placeL L y f).2))) := Lib.hid fun B hB => by unfold tellB; rw [← hp1, ← hp2, hB]
                generalize hje : (placeL L x e).2 = je at *
                generalize hjf : (placeL L y f).2 = jf at *
                have HJ1 := Lib.hid hj1
                have HJ2 := Lib.hid hj2
                have HD : Hid ((0 ≤ e.1 ∧ e.1 < (L.length : Int) ∧ 0 ≤ e.2 ∧ e.2 ≤ 1000) ∧ (0 ≤ f.1 ∧ f.1 < (L.length : Int) ∧ 0 ≤ f.2 ∧ f.2 ≤ 1000)) := Lib.hid ⟨hed1, hed2⟩
                clear hj1 hj2 hed1 hed2 hp1 hp2 hje hjf he hf hme hmf
                obtain ⟨A6, c6, hA6, _, hcl6⟩ := H8.out.1
                obtain ⟨b3, o3, hb3, hce3⟩ := hcl6 (by intro e0; rw [e0] at hlt; simp at hlt)
                simp only [Value.slice.injEq, true_and] at hA6
                obtain ⟨rfl, rfl⟩ := hA6
                subst hb3
                obtain ⟨A7, c7, hA7, _, hcl7⟩ := H8.out.2
                obtain ⟨b4, o4, hb4, hce4⟩ := hcl7 (by intro e0; rw [e0] at hls; simp at hls; omega)
                simp only [Value.slice.injEq] at hA7
                obtain ⟨rfl, hxx, rfl⟩ := hA7
                subst hb4
                clear hxx hls
                have HCC : Hid (∀ W, w8.grownBy W none → W.cell? ⟨Ba, 0, none⟩ = some (.int .i64 (m : Int)) ∧ W.cell? ⟨Bb, 0, none⟩ = some (.int .i64 (n : Int)) ∧ (W.cell? ⟨b3, o3 + q * 2, none⟩ = some (.int .i64 e.1) ∧ W.cell? ⟨b3, o3 + q * 2 + 1, none⟩ = some (.int .i64 e.2)) ∧ W.cell? ⟨b4, o4 + q * 2, none⟩ = some (.int .i64 f.1) ∧ W.cell? ⟨b4, o4 + q * 2 + 1, none⟩ = some (.int .i64 f.2)) :=
                  Lib.hid fun W hg => have kk := Keeps.grown hg; ⟨kk _ _ (HS8.out.ba.cell 0), kk _ _ (HS8.out.bb.cell 0), ⟨kk _ _ (hce3 q e HEF.out.1).1, kk _ _ (hce3 q e HEF.out.1).2⟩, kk _ _ (hce4 q f HEF.out.2).1, kk _ _ (hce4 q f HEF.out.2).2⟩
                clear hcl6 hce3 hcl7 hce4
                have s : wr.grownBy wr.drew none := only_drew (only_refl _ _)
                obtain ⟨z0, z1, ⟨z2, z3⟩, z4, z5⟩ := HCC.out wr HGQ.out
                go_upto_region 14 with fail
                go_cut [16, 17] from 85 to 95 (fun u v wx => u = .int .i64 je ∧ v = .bool (decide (0 < je)) ∧ wr.grownBy wx none)
                case first =>
                  go_region_held3 (fun w' => w'.cell? ⟨Ba, 0, none⟩ = some (.int .i64 (m : Int)) ∧ w'.cell? ⟨b3, o3 + q * 2, none⟩ = some (.int .i64 e.1) ∧ w'.cell? ⟨b3, o3 + q * 2 + 1, none⟩ = some (.int .i64 e.2)) (exact ⟨Keeps.grown s _ _ z0, Keeps.grown s _ _ z2, Keeps.grown s _ _ z3⟩) ((go_at_call 42; ((refine (oJump_any L _ (m : Int) e _ (HT.out.keep (.grown (only_trans HS8.out.gr (only_trans HGQ.out s)))) (by have := HLL.out; omega) (by have := HD.out; omega) (by have := HD.out; omega)).mono ?_); rw [HJ1.out]; rintro en W9 ⟨rfl, hs⟩); replace s := only_trans s hs; clear hs))
                  all_goals go_wp2_with fail
                  all_goals go_meet
                  all_goals exact ⟨rfl, rfl, s⟩
                case rest =>
                  obtain ⟨rfl, rfl, hg9⟩ := hcut
                  generalize wc = W9 at *
                  have HGA := Lib.hid (only_trans HGQ.out hg9)
                  clear hg9 s z0 z1 z2 z3 z4 z5
                  have s : W9.grownBy W9.drew none := only_drew (only_refl _ _)
                  obtain ⟨z0, z1, ⟨z2, z3⟩, z4, z5⟩ := HCC.out W9 HGA.out
                  go_upto_region 15 with fail
                  go_cut [18, 19] from 96 to 106 (fun u v wx => u = .int .i64 jf ∧ v = .bool (decide (0 < jf)) ∧ W9.grownBy wx none)
                  case first =>
                    go_region_held3 (fun w' => w'.cell? ⟨Bb, 0, none⟩ = some (.int .i64 (n : Int)) ∧ w'.cell? ⟨b4, o4 + q * 2, none⟩ = some (.int .i64 f.1) ∧ w'.cell? ⟨b4, o4 + q * 2 + 1, none⟩ = some (.int .i64 f.2)) (exact ⟨Keeps.grown s _ _ z1, Keeps.grown s _ _ z4, Keeps.grown s _ _ z5⟩) ((go_at_call 42; ((refine (oJump_any L _ (n : Int) f _ (HT.out.keep (.grown (only_trans HS8.out.gr (only_trans HGA.out s)))) (by have := HLL.out; omega) (by have := HD.out; omega) (by have := HD.out; omega)).mono ?_); rw [HJ2.out]; rintro en WA ⟨rfl, hs⟩); replace s := only_trans s hs; clear hs))
                    all_goals go_wp2_with fail
                    all_goals go_meet
                    all_goals exact ⟨rfl, rfl, s⟩
                  case rest =>
                    obtain ⟨rfl, rfl, hgA⟩ := hcut
                    generalize wc = WA at *
                    have HGB := Lib.hid (only_trans HGA.out hgA)
                    clear hgA s z0 z1 z2 z3 z4 z5
                    obtain ⟨z0, z1, ⟨z2, z3⟩, z4, z5⟩ := HCC.out WA HGB.out
                    have HUP : Hid (∀ B, aptK (hdL L) (scL L) k (rootL L e.1.toNat) (rootL L f.1.toNat) = B → (B || !decide (je = jf)) = true → aptK (hdL L) (scL L) (k + 1) m n = true) := Lib.hid fun B hB h => apr_here HX.out.1 HY.out.1 HEF.out.1 HEF.out.2 ((HTL.out B hB).trans h)
                    have HGW := Lib.hid (only_trans HS8.out.gr HGB.out)
                    have HGW := Lib.hid (only_trans HS8.out.gr HGB.out)
                    have HCA : Hid (∀ W, w8.grownBy W none → 0 < k → Calls Try.prog 20 #[.slice (some ⟨bt, ot, none⟩) L.length cap, .int .i64 e.1, .int .i64 f.1, .int .i64 ((k : Int) - 1)] W fun en w' => en = .returned (.bool (aptK (hdL L) (scL L) k (rootL L e.1.toNat) (rootL L f.1.toNat))) ∧ W.grownBy w' none) := Lib.hid fun W hg hk => by
                      have hd := HD.out
                      have h := HIH.out hk e.1.toNat f.1.toNat (.slice (some ⟨bt, ot, none⟩) L.length cap) W (by omega) (by omega) (HT.out.keep (.grown (only_trans HS8.out.gr hg)))
                      rw [show ((e.1.toNat : Nat) : Int) = e.1 by omega, show ((f.1.toNat : Nat) : Int) = f.1 by omega, hz] at h
                      exact h
                    have HB0 : Hid (k = 0 → aptK (hdL L) (scL L) k (rootL L e.1.toNat) (rootL L f.1.toNat) = false) := Lib.hid fun h => by subst h; rfl
                    have HUP : Hid (∀ B, aptK (hdL L) (scL L) k (rootL L e.1.toNat) (rootL L f.1.toNat) = B → (B || !decide (je = jf)) = true → aptK (hdL L) (scL L) (k + 1) m n = true) := Lib.hid fun B hB h => apr_here HX.out.1 HY.out.1 HEF.out.1 HEF.out.2 ((HTL.out B hB).trans h)
                    have HNX : Hid (∀ B, aptK (hdL L) (scL L) k (rootL L e.1.toNat) (rootL L f.1.toNat) = B → (B || !decide (je = jf)) = false → ∀ (j : Nat) (e f : Ed), j < q + 1 → (allE x)[j]? = some e → (allE y)[j]? = some f → tellB L k x y e f = false) := Lib.hid fun B hB h j e' f' hj he' hf' => by
                      by_cases h2 : j = q
                      · subst h2
                        rw [HEF.out.1] at he'; rw [HEF.out.2] at hf'
                        cases he'; cases hf'
                        rw [HTL.out B hB]; exact h
                      · exact HQS.out j e' f' (by omega) he' hf'
                    generalize hB : aptK (hdL L) (scL L) k (rootL L e.1.toNat) (rootL L f.1.toNat) = B at *
                    have HU := Lib.hid (HUP.out B rfl)
                    have HN := Lib.hid (HNX.out B rfl)
                    clear hB HUP HNX
                    have s : WA.grownBy WA.drew none := only_drew (only_refl _ _)
                    generalize hua : decide (0 < je) = ua at *
                    generalize hub : decide (0 < jf) = ub at *
                    have HUA := Lib.hid hua
                    have HUB := Lib.hid hub
                    clear hua hub
                    go_upto_region 16 with fail
                    go_cut [134] from 107 to 133 (fun u wx => u = .bool (B || !decide (je = jf)) ∧ WA.grownBy wx none)
                    case first =>
                      cases hne : (je != jf)
                      case true =>
                        have HR : Hid ((B || !decide (je = jf)) = true) := Lib.hid (by rw [decide_eq_false (bne_iff_ne.1 hne)]; simp)
                        go_quiet (fail)
                        all_goals go_wp2_with fail
                        all_goals go_meet
                        all_goals exact ⟨by rw [HR.out], only_drewN_C (only_refl _ _) _⟩
                      case false =>
                        have HR : Hid ((B || !decide (je = jf)) = B) := Lib.hid (by
                          have : je = jf := by simpa using hne
                          subst this; simp)
                        obtain rfl : ua = ub := by rw [← HUA.out, ← HUB.out, show je = jf by simpa using hne]
                        by_cases hk : k = 0
                        case pos =>
                          have HB1 := Lib.hid (HB0.out hk)
                          subst hk
                          have hkk : decide ((0 : Int) > 0) = false := rfl
                          simp only [Int.cast_ofNat_Int] at *
                          go_quiet (fail)
                          all_goals go_wp2_with fail
                          all_goals go_meet
                          all_goals exact ⟨by rw [HR.out, HB1.out], only_drewN_C (only_refl _ _) _⟩
                        case neg =>
                          have hk0 : (0 : Int) < (k : Int) := by omega
                          have hk9 : (k : Int) ≤ 9 := by omega
                          have hkp : 0 < k := by omega
                          have hnj : (je != jf) = false := hne
                          refine region_guards (by kernel_rfl)
                            [(0, .slice (some ⟨bt, ot, none⟩) L.length cap), (3, .int .i64 (k : Int)), (13, .slice (some ⟨b3, o3, none⟩) (allE x).length d3), (14, .slice (some ⟨b4, o4, none⟩) (allE x).length d4), (15, .int .i64 (q : Int)), (16, .int .i64 je), (17, .bool ua), (18, .int .i64 jf), (19, .bool ua),
                             (107, .int .i64 je), (108, .int .i64 jf), (109, .bool false), (110, .bool false), (111, .bool ua), (112, .bool ua), (113, .bool false), (114, .bool false), (115, .bool false), (116, .int .i64 (k : Int)), (117, .bool true), (118, .bool true),
                             (119, .slice (some ⟨bt, ot, none⟩) L.length cap), (120, .slice (some ⟨b3, o3, none⟩) (allE x).length d3), (121, .int .i64 (q : Int)), (122, .pointer (some ⟨b3, o3 + q * 2, none⟩)), (123, .pointer (some ⟨b3, o3 + q * 2, none⟩)), (124, .int .i64 e.1),
                             (125, .slice (some ⟨b4, o4, none⟩) (allE x).length d4), (126, .int .i64 (q : Int)), (127, .pointer (some ⟨b4, o4 + q * 2, none⟩)), (128, .pointer (some ⟨b4, o4 + q * 2, none⟩)), (129, .int .i64 f.1), (130, .int .i64 (k : Int)), (131, .int .i64 ((k : Int) - 1)), (132, .bool B), (133, .bool B), (134, .bool B)]
                            (by kernel_rfl) [107, 108, 109, 110, 111, 112, 113, 114, 115, 116, 117, 118, 119, 120, 121, 122, 123, 124, 125, 126, 127, 128, 129, 130, 131, 132, 133, 134] (by kernel_rfl) (by kernel_rfl) (by decide) ?h0 ?hops ?hQ
                          case h0 =>
                            intro p hp hn
                            simp only [List.mem_cons, List.not_mem_nil, or_false] at hp
                            rcases hp with rfl | rfl | rfl | rfl | rfl | rfl | rfl | rfl | rfl | rfl | rfl | rfl | rfl | rfl | rfl | rfl | rfl | rfl | rfl | rfl | rfl | rfl | rfl | rfl | rfl | rfl | rfl | rfl | rfl | rfl | rfl | rfl | rfl | rfl | rfl | rfl | rfl
                            all_goals first | rfl | exact absurd (by dsimp only; decide) hn
                          case hops =>
                            exact ⟨og rfl rfl (ov_move rfl rfl), og rfl rfl (ov_move rfl rfl), og rfl rfl (ov_neq_int rfl rfl rfl hnj), og rfl rfl (ov_move rfl rfl), og rfl rfl (ov_move rfl rfl), og rfl rfl (ov_move rfl rfl), og rfl rfl (ov_neq_bool rfl rfl rfl (bne_self_eq_false ua)),
                              og rfl rfl (ov_pick_false rfl rfl (fun b h => h 113 _ (by simp [Op.operands]) rfl)), og rfl rfl (ov_move rfl rfl), og rfl rfl (ov_move rfl rfl), og rfl rfl (ov_gtr_c rfl rfl (decide_eq_true hk0)), og rfl rfl (ov_move rfl rfl),
                              og rfl rfl (ov_move rfl rfl), og rfl rfl (ov_move rfl rfl), og rfl rfl (ov_move rfl rfl), og rfl rfl (ov_index_edge rfl rfl rfl hlt), og rfl rfl (ov_field_edge0 rfl rfl), og rfl rfl (ov_load_int rfl rfl z2),
                              og rfl rfl (ov_move rfl rfl), og rfl rfl (ov_move rfl rfl), og rfl rfl (ov_index_edge rfl rfl rfl hlt), og rfl rfl (ov_field_edge0 rfl rfl), og rfl rfl (ov_load_int rfl rfl z4),
                              og rfl rfl (ov_move rfl rfl), og rfl rfl (ov_sub_c rfl rfl (by omega) (by omega) (by decide) (by decide)), og rfl rfl (ov_call4 rfl rfl rfl rfl rfl (fun W => by kernel_rfl) (fun W hg => HCA.out W (only_trans HGB.out hg) hkp)),
                              og rfl rfl (ov_pick_true rfl rfl (fun b h => h 132 _ (by simp [Op.operands]) rfl)), og rfl rfl (ov_pick_false rfl rfl (fun b h => h 133 _ (by simp [Op.operands]) rfl)), trivial⟩
                          case hQ =>
                            intro vs W hg hv
                            have HV := Lib.hid (hv 134 _ rfl (by decide))
                            clear hv
                            simp only [List.foldl_cons, List.foldl_nil, List.setIfInBounds_toArray, List.set_cons_zero, List.set_cons_succ]
                            go_wp2_with fail
                            go_meet
                            exact ⟨by rw [HR.out]; exact HV.out, hg⟩
                    case rest =>
                      obtain ⟨rfl, hgC⟩ := hcut
                      generalize wc = WC at *
                      have HGC := Lib.hid (only_trans HGB.out hgC)
                      clear hgC s z0 z1 z2 z3 z4 z5 HCA HB0
                      cases hT : (B || !decide (je = jf))
                      case true =>
                        have HR := Lib.hid (HU.out hT)
                        go_wp2_with fail
                        go_ret
                        exact ⟨by rw [HR.out]; rfl, only_trans HS8.out.gr HGC.out⟩
                      case false =>
                        have HN0 := Lib.hid (HN.out hT)
                        clear hT HN HU
                        go_wp2_with fail
                        go_roundw
                        case rel => exact ⟨q + 1, by omega, by go_num, HN0.out, HGC.out⟩
                        case measure => simp [intOf]; omega
              · have HR : Hid (aptK (hdL L) (scL L) (k + 1) m n = false) := Lib.hid (apr_none HX.out.1 HY.out.1 HHD.out fun j e f he hf => HQS.out j e f (by have := (List.getElem?_eq_some_iff.1 he).1; omega) he hf)
                clear hls
                go_wp2
                go_ret
                exact ⟨by rw [HR.out]; rfl, only_trans HS8.out.gr HGQ.out⟩
end Go.Proofs.Ytepjkoegbehojaa

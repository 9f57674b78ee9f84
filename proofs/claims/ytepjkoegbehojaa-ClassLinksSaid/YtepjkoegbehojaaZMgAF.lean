/- Texts joined for the claim's sake: GEds, GShp, GRefA, GRefB. -/
import Derived.Test.YtepjkoegbehojaaZMgAE
import Derived.Laws.Rows
import Derived.Sort.CutIn
import Derived.Deep.DeepMust
import Derived.LoopTactic
/- graph: hasPay, edges, and the edges one by one. -/
namespace Go.Proofs.Ytepjkoegbehojaa
open Go.RowKit Go.Shelf
attribute [local go_sem] Oper.semAt_some

set_option maxRecDepth 100000 in
set_option maxHeartbeats 1000000 in
theorem hasPay_any (x : Nd) (v : Value) (a b : Int) (p : Bool) (c : Int) (w : World) :
    Calls Try.prog 73 #[ndV x v, shV a b p c] w fun e w' => e = .returned (.bool (payB x p)) ∧ w.grownBy w' none := by
  obtain ⟨kind, prio, chan, ⟨ea, es⟩, next⟩ := x
  have hg : ∀ A B, w.grownBy ((w.alloc A).alloc B) none := fun A B => only_alloc (only_alloc (only_refl _ _) _) _
  have HG := Lib.hid hg
  clear hg
  cases chan
  · go_enter Try.func73, Try.ntmps73
    go_wp2
    all_goals (go_ret; refine ⟨?_, HG.out _ _⟩; simp [payB, *])
  · go_enter Try.func73, Try.ntmps73
    go_wp2
    go_ret
    exact ⟨rfl, HG.out _ _⟩

theorem edges_any (x : Nd) (v : Value) (w : World) :
    Calls Try.prog 68 #[ndV x v] w fun e w' => e = .returned (.func (.func 74) #[] #[.pointer (some ⟨w.heap.size, 0, none⟩)]) ∧ w' = w.alloc (.cells (ndCells x v) 46) := by
  have hmf : ∀ (fn : Fn) (first cap : Array Value) (w : World), (Instr.makeFunc fn first cap).run Try.prog w = .ok (.func fn first cap) w := fun _ _ _ _ => rfl
  go_enter Try.func68, Try.ntmps68
  go_wp2
  go_ret
  exact ⟨rfl, rfl⟩

theorem edges_eq_chan {x : Nd} (h : x.chan = true) : edgesL x = [x.pay] ++ x.next := by simp [edgesL, h]
theorem edges_eq_word {x : Nd} (h : x.chan = false) : edgesL x = [] ++ x.next := by simp [edgesL, h]
theorem pre_take {α : Type} (p l : List α) (k : Nat) : p ++ l.take k <+: p ++ l := (List.prefix_append_right_inj p).2 (List.take_prefix _ _)
theorem take_len {α : Type} {l : List α} {k : Nat} {e : α} (h : l[k]? = some e) : l.take (k + 1) = l.take k ++ [e] := by
  obtain ⟨hl, rfl⟩ := List.getElem?_eq_some_iff.1 h
  exact List.take_succ_eq_append_getElem hl

/-- What stands between two edges of a node. -/
def EI (W : World) (J : List Ed → World → Prop) (p0 next : List Ed) (k : Nat) (wr : World) : Prop := J (p0 ++ next.take k) wr ∧ KeepsCells W wr

set_option maxRecDepth 100000 in
set_option maxHeartbeats 2000000 in
/-- The edges come one by one, the payload's first, until a round says 'no more'. -/
theorem edges_tells (Bn : Nat) (x : Nd) (v : Value) :
    Tells Fence.wide 2 Try.prog 74 #[.pointer (some ⟨Bn, 0, none⟩)] (fun e => #[edV e]) KeepsCells (fun W => Blk W Bn 46 (ndCells x v) ∧ Edges W v x.next) (edgesL x) := fun l J Jx W hJ hY h0 ⟨hb, hE⟩ => by
  refine callsIn_of_wp Try.func74 rfl trivial ?_ rfl
  simp only [Try.ntmps74, List.size_toArray, List.length_cons, List.length_nil, Nat.reduceAdd, Nat.reduceSub, Array.replicate_succ, Array.replicate_zero, List.push_toArray, List.append_toArray, List.nil_append, List.cons_append]
  obtain ⟨A, cap, rfl, hlen, hcell⟩ := hE
  obtain ⟨kind, prio, chan, ⟨ea, es⟩, next⟩ := x
  dsimp only at *
  have c2 : W.cell? ⟨Bn, 2, none⟩ = some (.bool chan) := hb.cell 2
  have c3 : W.cell? ⟨Bn, 3, none⟩ = some (.int .i64 ea) := hb.cell 3
  have c4 : W.cell? ⟨Bn, 4, none⟩ = some (.int .i64 es) := hb.cell 4
  have c5 : W.cell? ⟨Bn, 5, none⟩ = some (.slice A next.length cap) := hb.cell 5
  have HB := Lib.hid hb
  clear hb
  cases chan
  · have HC := Lib.hid hcell
    have HY := Lib.hid hY
    have HJ := Lib.hid hJ
    have HL := Lib.hid hlen
    clear hcell hY hJ
    gi_wp2_with fail
    refine ⟨fun _ h => (by cases h), ?_⟩
    gi_wp2_with fail
    have H0 : Hid (EI W J [] next 0 W) := ⟨h0, .refl _⟩
    gi_loopw [17] (fun i wr => ∃ k : Nat, k ≤ next.length ∧ i = .int .i64 (k : Int) ∧ EI W J [] next k wr) (fun i _ => next.length - (intOf i).toNat)
    case atStart => exact ⟨0, Nat.zero_le _, rfl, H0.out⟩
    case round =>
      obtain ⟨k, hk, rfl, hJ1, hkc⟩ := hrel
      have hl2 := HL.out
      by_cases hlt : k < next.length
      · obtain ⟨⟨a, b⟩, he⟩ : ∃ e, next[k]? = some e := ⟨_, List.getElem?_eq_getElem hlt⟩
        obtain ⟨bb, off, rfl, hce⟩ := HC.out (by intro e0; rw [e0] at hlt; simp at hlt)
        have d0 : wr.cell? ⟨bb, off + k * 2, none⟩ = some (.int .i64 a) := hkc.cell (hce k _ he).1
        have d1 : wr.cell? ⟨bb, off + k * 2 + 1, none⟩ = some (.int .i64 b) := hkc.cell (hce k _ he).2
        clear hce
        have hb2 : Below W.heap.size wr (wr.alloc (.cells #[.int .i64 a, .int .i64 b] 43)) := (Below.refl _ _).alloc hkc.size _
        have hsn := take_len he
        obtain ⟨fn, tmps, assign, body, hy, hR⟩ := HY.out ([] ++ next.take k) (a, b) _ (by
          rw [edges_eq_word (rfl : (Nd.mk kind prio false (ea, es) next).chan = false), List.append_assoc, ← hsn]; exact pre_take _ _ _) (HJ.out _ _ _ hJ1 hb2)
        have HS := Lib.hid hsn
        have HK := Lib.hid hkc
        have hk0 : (0 : Int) ≤ (k : Int) := by omega
        have hk1 : (k : Int) < (next.length : Int) := by omega
        clear hsn hkc he hb2 hJ1
        gi_wp2_with fail
        refine hR.mono ?_
        rintro e W3 (⟨rfl, hJ3, hk3⟩ | ⟨rfl, hJ3⟩)
        · have hEI : EI W J [] next (k + 1) W3 := ⟨by rw [HS.out, ← List.append_assoc]; exact hJ3, (HK.out.trans (KeepsCells.alloc _ _)).trans hk3⟩
          have HE := Lib.hid hEI
          clear hEI hJ3 hk3
          gi_wp2_with fail
          go_roundw
          case rel => exact ⟨k + 1, by omega, by go_num, HE.out⟩
          case measure => simp [intOf]; omega
        · have HX : Hid (Jx ([] ++ next.take (k + 1)) W3) := by rw [HS.out, ← List.append_assoc]; exact hJ3
          clear hJ3
          gi_wp2_with fail
          refine bodyPost_ret (results_none rfl _ _ _) rfl ?_
          exact ⟨⟨_, rfl⟩, .inr ⟨_, by rw [edges_eq_word (rfl : (Nd.mk kind prio false (ea, es) next).chan = false)]; exact pre_take _ _ _, by rw [HS.out]; simp, HX.out⟩⟩
      · have hke : k = next.length := by omega
        have HX : Hid (J ([] ++ next) wr) := by have := hJ1; rw [hke, List.take_length] at this; exact this
        have hge : (next.length : Int) ≤ (k : Int) := by omega
        clear hJ1 hkc hke
        gi_wp2_with fail
        go_end0
        exact ⟨⟨_, rfl⟩, .inl (by rw [edges_eq_word (rfl : (Nd.mk kind prio false (ea, es) next).chan = false)]; exact HX.out)⟩
  · obtain ⟨fn, tmps, assign, body, hy, hR⟩ := hY [] (ea, es) W (by rw [edges_eq_chan rfl]; exact ⟨next, rfl⟩) h0
    have HC := Lib.hid hcell
    have HY := Lib.hid hY
    have HJ := Lib.hid hJ
    have HL := Lib.hid hlen
    clear hcell hY hJ
    gi_wp2_with fail
    refine hR.mono ?_
    rintro e W1 (⟨rfl, hJ3, hk3⟩ | ⟨rfl, hJ3⟩)
    · have q5 := hk3.cell c5
      have H0 : Hid (EI W J [(ea, es)] next 0 W1) := ⟨by simpa using hJ3, hk3⟩
      clear hJ3 hk3
      gi_wp2_with fail
      gi_loopw [17] (fun i wr => ∃ k : Nat, k ≤ next.length ∧ i = .int .i64 (k : Int) ∧ EI W J [(ea, es)] next k wr) (fun i _ => next.length - (intOf i).toNat)
      case atStart => exact ⟨0, Nat.zero_le _, rfl, H0.out⟩
      case round =>
        obtain ⟨k, hk, rfl, hJ1, hkc⟩ := hrel
        have hl2 := HL.out
        by_cases hlt : k < next.length
        · obtain ⟨⟨a, b⟩, he⟩ : ∃ e, next[k]? = some e := ⟨_, List.getElem?_eq_getElem hlt⟩
          obtain ⟨bb, off, rfl, hce⟩ := HC.out (by intro e0; rw [e0] at hlt; simp at hlt)
          have d0 : wr.cell? ⟨bb, off + k * 2, none⟩ = some (.int .i64 a) := hkc.cell (hce k _ he).1
          have d1 : wr.cell? ⟨bb, off + k * 2 + 1, none⟩ = some (.int .i64 b) := hkc.cell (hce k _ he).2
          clear hce
          have hb2 : Below W.heap.size wr (wr.alloc (.cells #[.int .i64 a, .int .i64 b] 43)) := (Below.refl _ _).alloc hkc.size _
          have hsn := take_len he
          obtain ⟨fn, tmps, assign, body, hy, hR⟩ := HY.out ([(ea, es)] ++ next.take k) (a, b) _ (by
            rw [edges_eq_chan (rfl : (Nd.mk kind prio true (ea, es) next).chan = true), List.append_assoc, ← hsn]; exact pre_take _ _ _) (HJ.out _ _ _ hJ1 hb2)
          have HS := Lib.hid hsn
          have HK := Lib.hid hkc
          have hk0 : (0 : Int) ≤ (k : Int) := by omega
          have hk1 : (k : Int) < (next.length : Int) := by omega
          clear hsn hkc he hb2 hJ1
          gi_wp2_with fail
          refine hR.mono ?_
          rintro e W3 (⟨rfl, hJ3, hk3⟩ | ⟨rfl, hJ3⟩)
          · have hEI : EI W J [(ea, es)] next (k + 1) W3 := ⟨by rw [HS.out, ← List.append_assoc]; exact hJ3, (HK.out.trans (KeepsCells.alloc _ _)).trans hk3⟩
            have HE := Lib.hid hEI
            clear hEI hJ3 hk3
            gi_wp2_with fail
            go_roundw
            case rel => exact ⟨k + 1, by omega, by go_num, HE.out⟩
            case measure => simp [intOf]; omega
          · have HX : Hid (Jx ([(ea, es)] ++ next.take (k + 1)) W3) := by rw [HS.out, ← List.append_assoc]; exact hJ3
            clear hJ3
            gi_wp2_with fail
            refine bodyPost_ret (results_none rfl _ _ _) rfl ?_
            exact ⟨⟨_, rfl⟩, .inr ⟨_, by rw [edges_eq_chan (rfl : (Nd.mk kind prio true (ea, es) next).chan = true)]; exact pre_take _ _ _, by rw [HS.out]; simp, HX.out⟩⟩
        · have hke : k = next.length := by omega
          have HX : Hid (J ([(ea, es)] ++ next) wr) := by have := hJ1; rw [hke, List.take_length] at this; exact this
          have hge : (next.length : Int) ≤ (k : Int) := by omega
          clear hJ1 hkc hke
          gi_wp2_with fail
          go_end0
          exact ⟨⟨_, rfl⟩, .inl (by rw [edges_eq_chan (rfl : (Nd.mk kind prio true (ea, es) next).chan = true)]; exact HX.out)⟩
    · have HX := Lib.hid hJ3
      clear hJ3
      gi_wp2_with fail
      refine bodyPost_ret (results_none rfl _ _ _) rfl ?_
      exact ⟨⟨_, rfl⟩, .inr ⟨_, by rw [edges_eq_chan rfl]; exact ⟨next, rfl⟩, by simp, HX.out⟩⟩
end Go.Proofs.Ytepjkoegbehojaa

/- graph: hasShape: what it answers of any node. -/
namespace Go.Proofs.Ytepjkoegbehojaa
open Go.RowKit Go.Shelf
attribute [local go_sem] Oper.semAt_some

theorem shapeOf_in (k : Int) (hk : kindB k = true) (w : World) :
    Calls Try.prog 72 #[.int .i64 k] w fun e w' => e = .returned (.tuple #[shV (leastN k) (mostN k) (paysB k) (mostP k), .bool true]) ∧ w.grownBy w' none := by
  have := shapeOf_any k w
  rwa [shapeV_in hk, hk] at this
theorem shapeOf_out (k : Int) (hk : kindB k = false) (w : World) :
    Calls Try.prog 72 #[.int .i64 k] w fun e w' => e = .returned (.tuple #[shV 0 0 false 0, .bool false]) ∧ w.grownBy w' none := by
  have := shapeOf_any k w
  rwa [shapeV_out hk, hk] at this
theorem hs_results {tmps : Array Value} {W : World} {tb : Nat} {v : Value} (hp : tmps.getD 2 undef = .pointer (some ⟨tb, 0, none⟩)) (hb : Blk W tb 4 #[v]) :
    (results Try.f67 tmps).run Try.prog W = .ok v W := by
  have hc := hb.cell 0
  have hp' : tmps[2]?.getD undef = .pointer (some ⟨tb, 0, none⟩) := by simpa using hp
  simp [results, Try.results67, hp', go_sem, hc]

/-- Behind shapeOf: the node's box and the answer's, and the shape's. -/
theorem hs_boxes {w w3 : World} {x : Nd} {v : Value} (hg : ((w.alloc (.cells (ndCells x v) 46)).alloc (.cells #[.bool false] 4)).grownBy w3 none) :
    w.grownBy w3 none ∧ Blk w3 w.heap.size 46 (ndCells x v) ∧ Blk w3 (w.heap.size + 1) 4 #[.bool false] ∧ w.heap.size + 1 < w3.heap.size := by
  have h0 : w.grownBy ((w.alloc (.cells (ndCells x v) 46)).alloc (.cells #[.bool false] 4)) none := only_alloc (only_alloc (only_refl _ _) _) _
  have hz : (w.alloc (.cells (ndCells x v) 46)).heap.size = w.heap.size + 1 := by simp
  refine ⟨only_trans h0 hg, ((Blk.new w _ _).alloc _).kept hg, (blk_at hz _ _).kept hg, ?_⟩
  have := hg.size
  simp at this
  omega

theorem hs_paid {w w3 w4 : World} {x : Nd} {v : Value} {o : Obj} (hg : w.grownBy w3 none) (h1 : Blk w3 w.heap.size 46 (ndCells x v)) (h2 : Blk w3 (w.heap.size + 1) 4 #[.bool false]) (h4 : (w3.alloc o).grownBy w4 none) :
    w.grownBy w4 none ∧ Blk w4 w.heap.size 46 (ndCells x v) ∧ Blk w4 (w.heap.size + 1) 4 #[.bool false] ∧ w.heap.size + 1 < w4.heap.size :=
  have h2' := (h2.alloc o).kept h4
  ⟨only_trans (only_alloc hg o) h4, (h1.alloc o).kept h4, h2', h2'.lt⟩
theorem nd_cells {W : World} {b : Nat} {t : TypeId} {x : Nd} {v : Value} (h : Blk W b t (ndCells x v)) : W.cell? ⟨b, 0, none⟩ = some (.int .i64 x.kind) ∧ W.cell? ⟨b, 1, none⟩ = some (.int .i64 x.prio) ∧ W.cell? ⟨b, 2, none⟩ = some (.bool x.chan) ∧
    W.cell? ⟨b, 3, none⟩ = some (.int .i64 x.pay.1) ∧ W.cell? ⟨b, 4, none⟩ = some (.int .i64 x.pay.2) ∧ W.cell? ⟨b, 5, none⟩ = some v := ⟨h.cell 0, h.cell 1, h.cell 2, h.cell 3, h.cell 4, h.cell 5⟩

/-- Where the head is wrong. -/
theorem shape_head {x : Nd} (h : headB x = false) : shapeB x = false := by simp [shapeB, h]
theorem head_1 {x : Nd} (h : kindB x.kind = false) : headB x = false := by simp [headB, h]
theorem head_2 {x : Nd} (h : withinB x.next.length (leastN x.kind) (mostN x.kind) = false) : headB x = false := by simp [headB, h]
theorem head_3 {x : Nd} (h : withinB x.prio 0 (mostP x.kind) = false) : headB x = false := by simp [headB, h]
theorem head_4 {x : Nd} (h : payB x (paysB x.kind) = false) : headB x = false := by simp [headB, h]
theorem head_ok {x : Nd} (h1 : kindB x.kind = true) (h2 : withinB x.next.length (leastN x.kind) (mostN x.kind) = true) (h3 : withinB x.prio 0 (mostP x.kind) = true) (h4 : payB x (paysB x.kind) = true) : headB x = true := by simp [headB, h1, h2, h3, h4]
/-- It leaves ahead of the edges. -/
theorem hs_out {w w3 : World} {x : Nd} {tmps : Array Value} {F : Fence} {n : Nat} {o : Obj} (hp : tmps.getD 2 undef = .pointer (some ⟨w.heap.size + 1, 0, none⟩)) (hg : w.grownBy w3 none) (hb : Blk w3 (w.heap.size + 1) 4 #[.bool false]) (hx : headB x = false) :
    bodyPostM F n Try.prog Try.f67 (fun e w' => e = .returned (.bool (shapeB x)) ∧ w.grownBy w' none) .ret { tmps := tmps, defers := [] } ((w3.setCell ⟨w.heap.size + 1, 0, none⟩ (.bool false)).alloc o) := by
  have hb' := (hb.set_ 0 (.bool false)).alloc o
  refine ret_unmarked (hs_results hp hb') ⟨by rw [shape_head hx], only_alloc (only_setNew hg (by show w.heap.size ≤ w.heap.size + 1; omega) _) o⟩
theorem hs_out' {w w3 : World} {x : Nd} {tmps : Array Value} {F : Fence} {n : Nat} (hp : tmps.getD 2 undef = .pointer (some ⟨w.heap.size + 1, 0, none⟩)) (hg : w.grownBy w3 none) (hb : Blk w3 (w.heap.size + 1) 4 #[.bool false]) (hx : headB x = false) :
    bodyPostM F n Try.prog Try.f67 (fun e w' => e = .returned (.bool (shapeB x)) ∧ w.grownBy w' none) .ret { tmps := tmps, defers := [] } (w3.setCell ⟨w.heap.size + 1, 0, none⟩ (.bool false)) := by
  have hb' := hb.set_ 0 (.bool false)
  refine ret_unmarked (hs_results hp hb') ⟨by rw [shape_head hx], only_setNew hg (by show w.heap.size ≤ w.heap.size + 1; omega) _⟩

/-- Between two edges; where one is wrong. -/
def HI (w : World) (pre : List Ed) (W : World) : Prop := w.grownBy W none ∧ Blk W (w.heap.size + 1) 4 #[.bool false] ∧ pre.all shiftB = true
def HX (w : World) (c : Code) (pre : List Ed) (W : World) : Prop := c = .ret ∧ w.grownBy W none ∧ Blk W (w.heap.size + 1) 4 #[.bool false] ∧ pre.all shiftB = false
theorem hi_below {w : World} {B : Nat} (hB : w.heap.size + 1 < B) (s : List Ed) (X Y : World) (h : HI w s X) (hb : Below B X Y) : HI w s Y := ⟨below_only hb h.1 (by omega), h.2.1.below hb hB, h.2.2⟩
theorem hx_below {w : World} {B : Nat} (hB : w.heap.size + 1 < B) (c : Code) (s : List Ed) (X Y : World) (h : HX w c s X) (hb : Below B X Y) : HX w c s Y := ⟨h.1, below_only hb h.2.1 (by omega), h.2.2.1.below hb hB, h.2.2.2⟩
theorem hi_next {w W : World} {pre : List Ed} {e : Ed} (h : HI w pre W) (he : shiftB e = true) : HI w (pre ++ [e]) W := ⟨h.1, h.2.1, by simp [h.2.2, he]⟩
theorem hx_next {w W : World} {pre : List Ed} {e : Ed} (h : HI w pre W) (he : shiftB e = false) : HX w .ret (pre ++ [e]) (W.setCell ⟨w.heap.size + 1, 0, none⟩ (.bool false)) :=
  ⟨rfl, only_setNew h.1 (by show w.heap.size ≤ w.heap.size + 1; omega) _, h.2.1.set_ 0 _, by simp [he]⟩
theorem all_prefix {α : Type} {p : α → Bool} {l m : List α} (h : l <+: m) (hl : l.all p = false) : m.all p = false := by
  obtain ⟨r, rfl⟩ := h
  simp [List.all_append, hl]
theorem shape_ok {x : Nd} (h : headB x = true) (he : (edgesL x).all shiftB = true) : shapeB x = true := by simp only [shapeB, h, he, Bool.and_self]
theorem shape_bad {x : Nd} (he : (edgesL x).all shiftB = false) : shapeB x = false := by simp only [shapeB, he, Bool.and_false]

set_option maxRecDepth 100000 in
set_option maxHeartbeats 2000000 in
theorem hasShape_any (x : Nd) (v : Value) (w : World) (hE : Edges w v x.next) :
    Calls Try.prog 67 #[ndV x v] w fun e w' => e = .returned (.bool (shapeB x)) ∧ w.grownBy w' none := by
  refine (callsIn_wide (n := 3)).1 ?_
  refine callsIn_of_wp_marks Try.func67 rfl trivial ?_ rfl
  simp only [Try.ntmps67, List.size_toArray, List.length_cons, List.length_nil, Nat.reduceAdd, Nat.reduceSub, Array.replicate_succ, Array.replicate_zero, List.push_toArray, List.append_toArray, List.nil_append, List.cons_append]
  have HE := Lib.hid hE
  obtain ⟨A, cap, rfl, hlen, _⟩ := hE
  have HL := Lib.hid hlen
  clear hlen
  cases hk : kindB x.kind
  · have HK := Lib.hid hk
    gi_wp2_with (first | (refine ⟨trivial, ?_⟩; gi_at_call 72; go_must (refine (callsIn_wide.2 (shapeOf_out _ HK.out _)).mono ?_; rintro e w3 ⟨rfl, hg3⟩; obtain ⟨hg, hb1, hb2, hz⟩ := hs_boxes hg3; have hz0 : w.heap.size < w3.heap.size := (by omega); have HG := Lib.hid hg; have HB := Lib.hid hb2; clear hg3 hg; have c0 : w3.cell? ⟨w.heap.size + 1, 0, none⟩ = some (.bool false) := hb2.cell 0; have f0 := hb2.frozen 0; clear hb2 hb1)) | (refine ⟨trivial, ?_⟩))
    exact hs_out rfl HG.out HB.out (head_1 HK.out)
  · have HK := Lib.hid hk
    cases hc1 : withinB x.next.length (leastN x.kind) (mostN x.kind)
    · have H1 := Lib.hid hc1
      gi_wp2_with (first | (refine ⟨trivial, ?_⟩; gi_at_call 72; go_must (refine (callsIn_wide.2 (shapeOf_in _ HK.out _)).mono ?_; rintro e w3 ⟨rfl, hg3⟩; obtain ⟨hg, hb1, hb2, hz⟩ := hs_boxes hg3; have hz0 : w.heap.size < w3.heap.size := (by omega); have HG := Lib.hid hg; have HB := Lib.hid hb2; clear hg3 hg; have c0 : w3.cell? ⟨w.heap.size + 1, 0, none⟩ = some (.bool false) := hb2.cell 0; have f0 := hb2.frozen 0; obtain ⟨q0, q1, q2, q3, q4, q5⟩ := nd_cells hb1; clear hb2 hb1)) | (refine ⟨trivial, ?_⟩; gi_at_call 70; go_must (refine (callsIn_wide.2 (within_any _ _ _ _)).mono ?_; rintro e w4 ⟨rfl, rfl⟩)) | (refine ⟨trivial, ?_⟩))
      exact hs_out rfl HG.out HB.out (head_2 H1.out)
    · cases hc2 : withinB x.prio 0 (mostP x.kind)
      · have H1 := Lib.hid hc2
        gi_wp2_with (first | (refine ⟨trivial, ?_⟩; gi_at_call 72; go_must (refine (callsIn_wide.2 (shapeOf_in _ HK.out _)).mono ?_; rintro e w3 ⟨rfl, hg3⟩; obtain ⟨hg, hb1, hb2, hz⟩ := hs_boxes hg3; have hz0 : w.heap.size < w3.heap.size := (by omega); have HG := Lib.hid hg; have HB := Lib.hid hb2; clear hg3 hg; have c0 : w3.cell? ⟨w.heap.size + 1, 0, none⟩ = some (.bool false) := hb2.cell 0; have f0 := hb2.frozen 0; obtain ⟨q0, q1, q2, q3, q4, q5⟩ := nd_cells hb1; clear hb2 hb1)) | (refine ⟨trivial, ?_⟩; gi_at_call 70; go_must (refine (callsIn_wide.2 (within_any _ _ _ _)).mono ?_; rintro e w4 ⟨rfl, rfl⟩)) | (refine ⟨trivial, ?_⟩))
        exact hs_out rfl HG.out HB.out (head_3 H1.out)
      · cases hc3 : payB x (paysB x.kind)
        · have H1 := Lib.hid hc3
          gi_wp2_with (first | (refine ⟨trivial, ?_⟩; gi_at_call 72; go_must (refine (callsIn_wide.2 (shapeOf_in _ HK.out _)).mono ?_; rintro e w3 ⟨rfl, hg3⟩; obtain ⟨hg, hb1, hb2, hz⟩ := hs_boxes hg3; have hz0 : w.heap.size < w3.heap.size := (by omega); have HG := Lib.hid hg; have HB := Lib.hid hb2; have HB1 := Lib.hid hb1; clear hg3 hg; have c0 : w3.cell? ⟨w.heap.size + 1, 0, none⟩ = some (.bool false) := hb2.cell 0; have f0 := hb2.frozen 0; obtain ⟨q0, q1, q2, q3, q4, q5⟩ := nd_cells hb1; clear hb2 hb1)) | (refine ⟨trivial, ?_⟩; gi_at_call 70; go_must (refine (callsIn_wide.2 (within_any _ _ _ _)).mono ?_; rintro e w4 ⟨rfl, rfl⟩)) | (refine ⟨trivial, ?_⟩; gi_at_call 73; go_must (refine (callsIn_wide.2 (hasPay_any x _ _ _ _ _ _)).mono ?_; rintro e w4 ⟨rfl, hg4⟩; obtain ⟨hg5, hb1, hb2, hz5⟩ := hs_paid HG.out HB1.out HB.out hg4; have HG5 := Lib.hid hg5; have HB5 := Lib.hid hb2; clear hg4 hg5; have c5 : w4.cell? ⟨w.heap.size + 1, 0, none⟩ = some (.bool false) := hb2.cell 0; have f5 := hb2.frozen 0; clear hb1 hb2)) | (refine ⟨trivial, ?_⟩))
          exact hs_out' rfl HG5.out HB5.out (head_4 H1.out)
        · have HH := Lib.hid (head_ok hk hc1 hc2 hc3)
          gi_wp2_with (first | (refine ⟨trivial, ?_⟩; gi_at_call 72; go_must (refine (callsIn_wide.2 (shapeOf_in _ HK.out _)).mono ?_; rintro e w3 ⟨rfl, hg3⟩; obtain ⟨hg, hb1, hb2, hz⟩ := hs_boxes hg3; have hz0 : w.heap.size < w3.heap.size := (by omega); have HG := Lib.hid hg; have HB := Lib.hid hb2; have HB1 := Lib.hid hb1; clear hg3 hg; have c0 : w3.cell? ⟨w.heap.size + 1, 0, none⟩ = some (.bool false) := hb2.cell 0; have f0 := hb2.frozen 0; obtain ⟨q0, q1, q2, q3, q4, q5⟩ := nd_cells hb1; clear hb2 hb1)) | (refine ⟨trivial, ?_⟩; gi_at_call 70; go_must (refine (callsIn_wide.2 (within_any _ _ _ _)).mono ?_; rintro e w4 ⟨rfl, rfl⟩)) | (refine ⟨trivial, ?_⟩; gi_at_call 73; go_must (refine (callsIn_wide.2 (hasPay_any x _ _ _ _ _ _)).mono ?_; rintro e w4 ⟨rfl, hg4⟩; obtain ⟨hg5, hb1, hb2, hz5⟩ := hs_paid HG.out HB1.out HB.out hg4; have HG5 := Lib.hid hg5; have HB5 := Lib.hid hb2; clear hg4 hg5; have c5 : w4.cell? ⟨w.heap.size + 1, 0, none⟩ = some (.bool false) := hb2.cell 0; have f5 := hb2.frozen 0; obtain ⟨p0, p1, p2, p3, p4, p5⟩ := nd_cells hb1; have HB6 := Lib.hid hb1; clear hb1 hb2)) | (refine ⟨trivial, ?_⟩; gi_at_call 68; go_must (refine (callsIn_wide.2 (edges_any x _ _)).mono ?_; rintro e w5 ⟨rfl, rfl⟩)) | (refine ⟨trivial, ?_⟩))
          have hz6 : (w4.alloc (.cells (ndCells x (.slice A x.next.length cap)) 46)).heap.size = w4.heap.size + 1 := by simp
          have hb2' := HB5.out.alloc (.cells (ndCells x (.slice A x.next.length cap)) 46)
          have hg2' := only_alloc HG5.out (.cells (ndCells x (.slice A x.next.length cap)) 46)
          refine wpIn_rangeFunc_tells rfl (by omega) (gf := 74) (lb := #[.pointer (some ⟨w4.heap.size, 0, none⟩)]) rfl trivial (enters_of Try.func74 (by kernel_rfl) rfl)
            (edges_tells w4.heap.size x (.slice A x.next.length cap)) (fun h k => h.trans k) (fun _ _ _ o' h hc => .putObj o' h hc) KeepsCells.alloc (fun _ => rfl) ?t0 (HI w) (HX w) (hi_below (by omega)) (hx_below (by omega)) ⟨hg2', hb2', rfl⟩ 43 edCells
            (fun e Bx => { tmps := #[ndV x (.slice A x.next.length cap), .pointer (some ⟨w.heap.size, 0, none⟩), .pointer (some ⟨w.heap.size + 1, 0, none⟩), .pointer (some ⟨w3.heap.size, 0, none⟩), .bool true, .pointer (some ⟨Bx, 0, none⟩), .tuple #[shV (leastN x.kind) (mostN x.kind) (paysB x.kind) (mostP x.kind), .bool true], .pointer (some ⟨w.heap.size, 0, none⟩), .int .i64 x.kind, .tuple #[shV (leastN x.kind) (mostN x.kind) (paysB x.kind) (mostP x.kind), .bool true], shV (leastN x.kind) (mostN x.kind) (paysB x.kind) (mostP x.kind), .bool true, .bool true, .bool false, .bool false, .pointer (some ⟨w.heap.size, 5, none⟩), .slice A x.next.length cap, .int .i64 (x.next.length : Int), .pointer (some ⟨w3.heap.size, 0, none⟩), .int .i64 (leastN x.kind), .pointer (some ⟨w3.heap.size, 1, none⟩), .int .i64 (mostN x.kind), .bool true, .bool false, .bool false, .bool false, .pointer (some ⟨w.heap.size, 1, none⟩), .int .i64 x.prio, .pointer (some ⟨w3.heap.size, 3, none⟩), .int .i64 (mostP x.kind), .bool true, .bool false, .bool false, .bool false, ndV x (.slice A x.next.length cap), shV (leastN x.kind) (mostN x.kind) (paysB x.kind) (mostP x.kind), .bool true, .bool false, .bool false, ndV x (.slice A x.next.length cap), .func (.func 74) #[] #[.pointer (some ⟨w4.heap.size, 0, none⟩)], edV e, undef, undef, undef, undef], defers := [] }) ?assign ?body ?done ?stop
          case t0 =>
            intro W hW
            exact ⟨(Blk.new w4 46 _).below hW (by omega), (HE.out.keep (.grown hg2')).keep (.below hW)⟩
          case assign =>
            intro l e W K hK
            gi_wp2
            exact hK
          case body =>
            rintro l pre ⟨a, b⟩ W Bx hpre hBx hI hbx
            have c1 : W.cell? ⟨Bx, 1, none⟩ = some (.int .i64 b) := hbx.cell 1
            have c0' : W.cell? ⟨w.heap.size + 1, 0, none⟩ = some (.bool false) := hI.2.1.cell 0
            have f0' := hI.2.1.frozen 0
            have HI' := Lib.hid hI
            clear hI hpre
            cases hs : withinB b 0 1000
            · have HS : Hid (shiftB (a, b) = false) := hs
              gi_wp2_with (refine ⟨trivial, ?_⟩; gi_at_call 70; refine (CallsIn.inRound l (callsIn_wide.2 (within_any _ _ _ _))).mono ?_; rintro e w6 ⟨rfl, rfl⟩)
              exact ⟨(KeepsOthers.setCell _ _ _).from _, hx_next HI'.out HS.out⟩
            · have HS : Hid (shiftB (a, b) = true) := hs
              gi_wp2_with (refine ⟨trivial, ?_⟩; gi_at_call 70; refine (CallsIn.inRound l (callsIn_wide.2 (within_any _ _ _ _))).mono ?_; rintro e w6 ⟨rfl, rfl⟩)
              exact ⟨KeepsFrom.refl _ _, .refl _, hi_next HI'.out HS.out⟩
          case done =>
            rintro D W hD ⟨h1, h2, h3⟩ hK
            have d0 : W.cell? ⟨w.heap.size + 1, 0, none⟩ = some (.bool false) := h2.cell 0
            have g0 := h2.frozen 0
            have HK2 := Lib.hid ((KeepsOthers.setCell W ⟨w.heap.size + 1, 0, none⟩ (.bool true)).same D _ hK rfl)
            have HB7 := Lib.hid (h2.set_ 0 (.bool true))
            have HG7 := Lib.hid (only_setNew h1 (p := ⟨w.heap.size + 1, 0, none⟩) (by show w.heap.size ≤ w.heap.size + 1; omega) (.bool true))
            have HS := Lib.hid (shape_ok HH.out h3)
            clear h1 h2 h3 hK
            gi_wp2
            refine marks_ret (B := w4.heap.size + 1) [D] _ (by simp) (by simp only [List.mem_singleton, forall_eq]; exact ⟨by omega, HK2.out⟩) fun W' hW' => ?_
            refine ⟨_, hs_results rfl (HB7.out.keeps hW'.2), by rw [HS.out], hW'.grown HG7.out (by omega)⟩
          case stop =>
            rintro D c pre W hD hpre hne ⟨rfl, h1, h2, h3⟩ hK
            gi_wp2
            refine marks_ret (B := w4.heap.size + 1) [D] _ (by simp) (by simp only [List.mem_singleton, forall_eq]; exact ⟨by omega, hK⟩) fun W' hW' => ?_
            refine ⟨_, hs_results rfl (h2.keeps hW'.2), by rw [shape_bad (all_prefix hpre h3)], hW'.grown h1 (by omega)⟩
end Go.Proofs.Ytepjkoegbehojaa

/- The document's answer for graph: bounds, shape: what each answers of any node. -/
namespace Go.Proofs.Ytepjkoegbehojaa
open Go.RowKit Go.Shelf

set_option maxHeartbeats 1000000 in
theorem bounds_in (k : Int) (hk : kindB k = true) (w : World) :
    Calls Try.prog 71 #[.int .i64 k] w fun e w' => e = .returned (.tuple #[.int .i64 (leastN k), .int .i64 (mostN k), .bool true]) ∧ w = w' := by
  have hb : 0 ≤ k ∧ k ≤ 5 := by simpa [kindB, withinB] using hk
  clear hk
  have hc : k = 0 ∨ k = 1 ∨ k = 2 ∨ k = 3 ∨ k = 4 ∨ k = 5 := by omega
  rcases hc with rfl | rfl | rfl | rfl | rfl | rfl <;> clear hb
  all_goals
    go_enter Try.func71, Try.ntmps71
    go_wp2
    go_ret3
    exact ⟨rfl, rfl⟩
set_option maxHeartbeats 1000000 in
theorem bounds_out (k : Int) (hk : kindB k = false) (w : World) :
    Calls Try.prog 71 #[.int .i64 k] w fun e w' => e = .returned (.tuple #[.int .i64 0, .int .i64 0, .bool false]) ∧ w = w' := by
  have hb : ¬ (0 ≤ k ∧ k ≤ 5) := by simpa [kindB, withinB] using hk
  have h0 : (k == 0) = false := by simp; omega
  have h1 : (k == 1) = false := by simp; omega
  have h2 : (k == 2) = false := by simp; omega
  have h3 : (k == 3) = false := by simp; omega
  have h4 : (k == 4) = false := by simp; omega
  have h5 : (k == 5) = false := by simp; omega
  clear hb hk
  go_enter Try.func71, Try.ntmps71
  go_wp2
  go_ret3
  exact ⟨rfl, rfl⟩

/-- The document's shape: of the head, of the edges ahead. -/
def headR (x : Nd) : Bool := kindB x.kind && decide (leastN x.kind ≤ x.next.length) && decide ((x.next.length : Int) ≤ mostN x.kind) && decide (0 ≤ x.prio) && decide (x.prio ≤ 1000)
def tailR (x : Nd) : Bool := !((decide (x.kind = 0) || decide (x.kind = 5)) && decide (x.prio ≠ 0)) && (if x.chan then (decide (x.kind = 1) || decide (x.kind = 2)) && shiftB x.pay else decide (x.pay = (0, 0)))
theorem shape_eq (x : Nd) : shapeB x = (headR x && x.next.all shiftB && tailR x) := by
  obtain ⟨kind, prio, chan, ⟨ea, es⟩, next⟩ := x
  by_cases hk : kindB kind = true
  · have hb : 0 ≤ kind ∧ kind ≤ 5 := by simpa [kindB, withinB] using hk
    have hc : kind = 0 ∨ kind = 1 ∨ kind = 2 ∨ kind = 3 ∨ kind = 4 ∨ kind = 5 := by omega
    rw [Bool.eq_iff_iff]
    generalize hA : next.all shiftB = A
    generalize hN : (next.length : Int) = N
    clear hk hb
    rcases hc with rfl | rfl | rfl | rfl | rfl | rfl <;> cases chan <;> simp [shapeB, headB, headR, tailR, kindB, withinB, leastN, mostN, mostP, paysB, payB, edgesL, shiftB, hA, hN] <;> (try omega)
    all_goals (clear hA; cases A <;> simp <;> omega)
  · simp only [Bool.not_eq_true] at hk
    simp [shapeB, headB, headR, hk]
theorem headR_in {x : Nd} (h1 : kindB x.kind = true) (h2 : leastN x.kind ≤ x.next.length) (h3 : (x.next.length : Int) ≤ mostN x.kind) (h4 : 0 ≤ x.prio) (h5 : x.prio ≤ 1000) : headR x = true := by simp [headR, h1, h2, h3, h4, h5]
theorem shape_r1 {x : Nd} (h : headR x = false) : shapeB x = false := by simp [shape_eq, h]
theorem shape_r2 {x : Nd} {k : Nat} {e : Ed} (hk : x.next[k]? = some e) (h : shiftB e = false) : shapeB x = false := by
  have : x.next.all shiftB = false := by
    rw [List.all_eq_false]
    exact ⟨e, List.mem_of_getElem? hk, by simp [h]⟩
  simp [shape_eq, this]
theorem shape_r3 {x : Nd} (h1 : headR x = true) (h2 : ∀ j e, j < x.next.length → x.next[j]? = some e → shiftB e = true) : shapeB x = tailR x := by
  have : x.next.all shiftB = true := by
    rw [List.all_eq_true]
    intro e he
    obtain ⟨j, hj⟩ := List.mem_iff_getElem?.1 he
    exact h2 j e (List.getElem?_eq_some_iff.1 hj).1 hj
  simp [shape_eq, h1, this]

def ShOk (next : List Ed) (k : Nat) : Prop := ∀ j e, j < k → next[j]? = some e → shiftB e = true
theorem ShOk.next_ {next : List Ed} {k : Nat} {e : Ed} (h : ShOk next k) (hk : next[k]? = some e) (he : shiftB e = true) : ShOk next (k + 1) := fun j y hj hy => by
  by_cases e : j = k
  · subst e; rw [hk] at hy; cases hy; exact he
  · exact h j y (by omega) hy
set_option maxRecDepth 100000 in
set_option maxHeartbeats 2000000 in
theorem refShape_any (x : Nd) (v : Value) (w : World) (hE : Edges w v x.next) :
    Calls Try.prog 65 #[ndV x v] w fun e w' => e = .returned (.bool (shapeB x)) ∧ w.grownBy w' none := by
  have HE := Lib.hid hE
  obtain ⟨A, cap, rfl, hlen, hcell⟩ := hE
  have HL := Lib.hid hlen
  have HC := Lib.hid hcell
  have HG : Hid (∀ o, w.grownBy (w.alloc o) none) := fun o => only_alloc (only_refl _ _) _
  clear hlen hcell
  obtain ⟨kind, prio, chan, ⟨ea, es⟩, next⟩ := x
  dsimp only at HE HL HC
  obtain ⟨b0, hb0⟩ : ∃ b0, shapeB ⟨kind, prio, chan, (ea, es), next⟩ = b0 := ⟨_, rfl⟩
  rw [hb0]
  have HB := Lib.hid hb0
  clear hb0
  by_cases hk : kindB kind = true
  · have HK := Lib.hid hk
    clear hk
    by_cases h1 : leastN kind ≤ (next.length : Int)
    · by_cases h2 : (next.length : Int) ≤ mostN kind
      · by_cases h3 : 0 ≤ prio
        · by_cases h4 : prio ≤ 1000
          · have HR := Lib.hid (headR_in (x := ⟨kind, prio, chan, (ea, es), next⟩) HK.out h1 h2 h3 h4)
            go_enter Try.func65, Try.ntmps65
            go_wp2_with (go_at_call 71; go_must (refine (bounds_in _ HK.out _).mono ?_; rintro e w4 ⟨rfl, rfl⟩))
            go_loop [6] (fun i => ∃ k : Nat, k ≤ next.length ∧ i = .int .i64 (k : Int) ∧ ShOk next k) (fun i => next.length - (intOf i).toNat)
            case atStart => exact ⟨0, Nat.zero_le _, rfl, fun j e h => by omega⟩
            case round =>
              obtain ⟨k, hk, rfl, hok⟩ := hrel
              have HO := Lib.hid hok
              have hl2 := HL.out
              clear hok
              by_cases hlt : k < next.length
              · obtain ⟨⟨a, b⟩, he⟩ : ∃ e, next[k]? = some e := ⟨_, List.getElem?_eq_getElem hlt⟩
                obtain ⟨bb, off, rfl, hce⟩ := HC.out (by intro e0; rw [e0] at hlt; simp at hlt)
                obtain ⟨d0, d1⟩ := hce k _ he
                have hbb : bb < w.heap.size := cell_lt d0
                have HE2 := Lib.hid he
                have hk0 : (0 : Int) ≤ (k : Int) := by omega
                have hk1 : (k : Int) < (next.length : Int) := by omega
                clear hce he
                by_cases s0 : b < 0
                · have HS := Lib.hid (HB.out.symm.trans (shape_r2 (x := ⟨kind, prio, chan, (ea, es), next⟩) HE2.out (by simp [shiftB, withinB]; omega)))
                  go_wp2_with fail
                  go_ret
                  exact ⟨by rw [HS.out]; rfl, HG.out _⟩
                · by_cases s1 : 1000 < b
                  · have HS := Lib.hid (HB.out.symm.trans (shape_r2 (x := ⟨kind, prio, chan, (ea, es), next⟩) HE2.out (by simp [shiftB, withinB]; omega)))
                    go_wp2_with fail
                    go_ret
                    exact ⟨by rw [HS.out]; rfl, HG.out _⟩
                  · have HN := Lib.hid (HO.out.next_ HE2.out (by simp [shiftB, withinB]; omega))
                    have s0' : 0 ≤ b := by omega
                    have s1' : b ≤ 1000 := by omega
                    clear s0 s1
                    go_wp2_with fail
                    go_round
                    case rel => exact ⟨k + 1, by omega, by go_num, HN.out⟩
                    case measure => simp [intOf]; omega
              · have hke : k = next.length := by omega
                have HT := Lib.hid (HB.out.symm.trans (shape_r3 (x := ⟨kind, prio, chan, (ea, es), next⟩) HR.out (by have := HO.out; rw [hke] at this; exact this)))
                have hge : (next.length : Int) ≤ (k : Int) := by omega
                clear hke hlt hk h1 h2
                have hkb : 0 ≤ kind ∧ kind ≤ 5 := by simpa [kindB, withinB] using HK.out
                have hc : kind = 0 ∨ kind = 1 ∨ kind = 2 ∨ kind = 3 ∨ kind = 4 ∨ kind = 5 := by omega
                clear hkb
                rcases hc with rfl | rfl | rfl | rfl | rfl | rfl
                all_goals cases chan
                all_goals
                  go_wp2_with fail
                  all_goals
                    go_ret
                    refine ⟨?_, HG.out _⟩
                    rw [HT.out]
                    first | rfl | (simp [tailR, shiftB, withinB, *]; done) | (simp [tailR, shiftB, withinB]; (try simp only [bne_iff_ne, ne_eq, bne_eq_false_iff_eq] at *); intros; omega)
          · have HS := Lib.hid (HB.out.symm.trans (shape_r1 (x := ⟨kind, prio, chan, (ea, es), next⟩) (by simp [headR, h4])))
            go_enter Try.func65, Try.ntmps65
            go_wp2_with (go_at_call 71; go_must (refine (bounds_in _ HK.out _).mono ?_; rintro e w4 ⟨rfl, rfl⟩))
            go_ret
            exact ⟨by rw [HS.out]; rfl, HG.out _⟩
        · have HS := Lib.hid (HB.out.symm.trans (shape_r1 (x := ⟨kind, prio, chan, (ea, es), next⟩) (by simp [headR, h3])))
          go_enter Try.func65, Try.ntmps65
          go_wp2_with (go_at_call 71; go_must (refine (bounds_in _ HK.out _).mono ?_; rintro e w4 ⟨rfl, rfl⟩))
          go_ret
          exact ⟨by rw [HS.out]; rfl, HG.out _⟩
      · have HS := Lib.hid (HB.out.symm.trans (shape_r1 (x := ⟨kind, prio, chan, (ea, es), next⟩) (by simp [headR, h2])))
        go_enter Try.func65, Try.ntmps65
        go_wp2_with (go_at_call 71; go_must (refine (bounds_in _ HK.out _).mono ?_; rintro e w4 ⟨rfl, rfl⟩))
        go_ret
        exact ⟨by rw [HS.out]; rfl, HG.out _⟩
    · have HS := Lib.hid (HB.out.symm.trans (shape_r1 (x := ⟨kind, prio, chan, (ea, es), next⟩) (by simp [headR, h1])))
      go_enter Try.func65, Try.ntmps65
      go_wp2_with (go_at_call 71; go_must (refine (bounds_in _ HK.out _).mono ?_; rintro e w4 ⟨rfl, rfl⟩))
      go_ret
      exact ⟨by rw [HS.out]; rfl, HG.out _⟩
  · have HK : Hid (kindB kind = false) := eq_false_of_ne_true hk
    have HS := Lib.hid (HB.out.symm.trans (shape_r1 (x := ⟨kind, prio, chan, (ea, es), next⟩) (by simp [headR, HK.out])))
    clear hk
    go_enter Try.func65, Try.ntmps65
    go_wp2_with (go_at_call 71; go_must (refine (bounds_out _ HK.out _).mono ?_; rintro e w4 ⟨rfl, rfl⟩))
    go_ret
    exact ⟨by rw [HS.out]; rfl, HG.out _⟩
end Go.Proofs.Ytepjkoegbehojaa

/- The document's answer for graph: open: what it answers of any node. -/
namespace Go.Proofs.Ytepjkoegbehojaa
open Go.RowKit Go.Shelf

def InOk (n : Nat) (next : List Ed) (k : Nat) : Prop := ∀ j e, j < k → next[j]? = some e → inB n e = true
theorem InOk.next_ {n : Nat} {next : List Ed} {k : Nat} {e : Ed} (h : InOk n next k) (hk : next[k]? = some e) (he : inB n e = true) : InOk n next (k + 1) := fun j y hj hy => by
  by_cases e : j = k
  · subst e; rw [hk] at hy; cases hy; exact he
  · exact h j y (by omega) hy
theorem InOk.all {n : Nat} {next : List Ed} (h : InOk n next next.length) : next.all (inB n) = true := by
  rw [List.all_eq_true]
  intro e he
  obtain ⟨j, hj⟩ := List.mem_iff_getElem?.1 he
  exact h j e (List.getElem?_eq_some_iff.1 hj).1 hj
theorem open_r2 {n k : Nat} {x : Nd} {e : Ed} (hk : x.next[k]? = some e) (h : inB n e = false) : (!(edgesL x).all (inB n)) = true := by
  have : x.next.all (inB n) = false := by
    rw [List.all_eq_false]
    exact ⟨e, List.mem_of_getElem? hk, by simp [h]⟩
  simp only [edgesL, List.all_append, this, Bool.and_false, Bool.not_false]
theorem open_r3 {n : Nat} {x : Nd} (h : x.next.all (inB n) = true) : (!(edgesL x).all (inB n)) = (x.chan && !inB n x.pay) := by
  simp only [edgesL, List.all_append, h, Bool.and_true]
  cases x.chan <;> simp

set_option maxRecDepth 100000 in
set_option maxHeartbeats 2000000 in
theorem open_any (x : Nd) (v : Value) (n : Nat) (w : World) (hE : Edges w v x.next) :
    Calls Try.prog 66 #[ndV x v, .int .i64 (n : Int)] w fun e w' => e = .returned (.bool (!(edgesL x).all (inB n))) ∧ w.grownBy w' none := by
  have HE := Lib.hid hE
  obtain ⟨A, cap, rfl, hlen, hcell⟩ := hE
  have HL := Lib.hid hlen
  have HC := Lib.hid hcell
  have HG : Hid (∀ o, w.grownBy (w.alloc o) none) := fun o => only_alloc (only_refl _ _) _
  clear hlen hcell
  obtain ⟨kind, prio, chan, ⟨ea, es⟩, next⟩ := x
  dsimp only at HE HL HC
  obtain ⟨b0, hb0⟩ : ∃ b0, (!(edgesL ⟨kind, prio, chan, (ea, es), next⟩).all (inB n)) = b0 := ⟨_, rfl⟩
  rw [hb0]
  have HB := Lib.hid hb0
  clear hb0
  go_enter Try.func66, Try.ntmps66
  go_wp2_with fail
  go_loop [5] (fun i => ∃ k : Nat, k ≤ next.length ∧ i = .int .i64 (k : Int) ∧ InOk n next k) (fun i => next.length - (intOf i).toNat)
  case atStart => exact ⟨0, Nat.zero_le _, rfl, fun j e h => by omega⟩
  case round =>
    obtain ⟨k, hk, rfl, hok⟩ := hrel
    have HO := Lib.hid hok
    have hl2 := HL.out
    clear hok
    by_cases hlt : k < next.length
    · obtain ⟨⟨a, b⟩, he⟩ : ∃ e, next[k]? = some e := ⟨_, List.getElem?_eq_getElem hlt⟩
      obtain ⟨bb, off, rfl, hce⟩ := HC.out (by intro e0; rw [e0] at hlt; simp at hlt)
      obtain ⟨d0, d1⟩ := hce k _ he
      have hbb : bb < w.heap.size := cell_lt d0
      have HE2 := Lib.hid he
      have hk0 : (0 : Int) ≤ (k : Int) := by omega
      have hk1 : (k : Int) < (next.length : Int) := by omega
      clear hce he
      by_cases s0 : a < 0
      · have HS := Lib.hid (HB.out.symm.trans (open_r2 (x := ⟨kind, prio, chan, (ea, es), next⟩) HE2.out (by simp [inB, nodeB, withinB]; omega)))
        go_wp2_with fail
        go_ret
        exact ⟨by rw [HS.out]; rfl, HG.out _⟩
      · by_cases s1 : (n : Int) ≤ a
        · have HS := Lib.hid (HB.out.symm.trans (open_r2 (x := ⟨kind, prio, chan, (ea, es), next⟩) HE2.out (by simp [inB, nodeB, withinB]; omega)))
          go_wp2_with fail
          go_ret
          exact ⟨by rw [HS.out]; rfl, HG.out _⟩
        · have HN := Lib.hid (HO.out.next_ HE2.out (by simp [inB, nodeB, withinB]; omega))
          have s0' : 0 ≤ a := by omega
          have s1' : a < (n : Int) := by omega
          clear s0 s1
          go_wp2_with fail
          go_round
          case rel => exact ⟨k + 1, by omega, by go_num, HN.out⟩
          case measure => simp [intOf]; omega
    · have hke : k = next.length := by omega
      have HT := Lib.hid (HB.out.symm.trans (open_r3 (n := n) (x := ⟨kind, prio, chan, (ea, es), next⟩) (InOk.all (by have := HO.out; rw [hke] at this; exact this))))
      have hge : (next.length : Int) ≤ (k : Int) := by omega
      clear hke hlt hk
      cases chan
      · go_wp2_with fail
        go_ret
        exact ⟨by rw [HT.out]; rfl, HG.out _⟩
      · by_cases s0 : ea < 0
        · go_wp2_with fail
          go_ret
          refine ⟨?_, HG.out _⟩
          rw [HT.out]
          simp [inB, nodeB, withinB, *]
        · have s0' : 0 ≤ ea := by omega
          clear s0
          by_cases s1 : (n : Int) ≤ ea
          · go_wp2_with fail
            go_ret
            refine ⟨?_, HG.out _⟩
            rw [HT.out]
            simp [inB, nodeB, withinB, *]
            omega
          · have s1' : ea < (n : Int) := by omega
            clear s1
            go_wp2_with fail
            go_ret
            refine ⟨?_, HG.out _⟩
            rw [HT.out]
            simp [inB, nodeB, withinB, *]
            rw [decide_eq_false (by omega), decide_eq_false (by omega), decide_eq_true (by omega)]; rfl
end Go.Proofs.Ytepjkoegbehojaa

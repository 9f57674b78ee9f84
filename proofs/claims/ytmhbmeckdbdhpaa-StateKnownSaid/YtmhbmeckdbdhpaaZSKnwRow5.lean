/- Texts joined for the claim's sake: GShp, GRefA. -/
import Derived.Test.YtmhbmeckdbdhpaaZSKnwRow4
import Derived.Sort.CutIn
import Derived.Deep.DeepMust
import Derived.LoopTactic
namespace Go.Proofs.Ytmhbmeckdbdhpaa
open Go.RowKit Go.Shelf
attribute [local go_sem] Oper.semAt_some

theorem shapeOf_in (k : Int) (hk : kindB k = true) (w : World) :
    Calls Try.prog 78 #[.int .i64 k] w fun e w' => e = .returned (.tuple #[shV (leastN k) (mostN k) (paysB k) (mostP k), .bool true]) ∧ w.grownBy w' none := by
  have := shapeOf_any k w
  rwa [shapeV_in hk, hk] at this
theorem shapeOf_out (k : Int) (hk : kindB k = false) (w : World) :
    Calls Try.prog 78 #[.int .i64 k] w fun e w' => e = .returned (.tuple #[shV 0 0 false 0, .bool false]) ∧ w.grownBy w' none := by
  have := shapeOf_any k w
  rwa [shapeV_out hk, hk] at this
theorem hs_results {tmps : Array Value} {W : World} {tb : Nat} {v : Value} (hp : tmps.getD 2 undef = .pointer (some ⟨tb, 0, none⟩)) (hb : Blk W tb 4 #[v]) :
    (results Try.f71 tmps).run Try.prog W = .ok v W := by
  have hc := hb.cell 0
  have hp' : tmps[2]?.getD undef = .pointer (some ⟨tb, 0, none⟩) := by simpa using hp
  simp [results, Try.results71, hp', go_sem, hc]

/-- Behind shapeOf: the node's box and the answer's, and the shape's. -/
theorem hs_boxes {w w3 : World} {x : Nd} {v : Value} (hg : ((w.alloc (.cells (ndCells x v) 70)).alloc (.cells #[.bool false] 4)).grownBy w3 none) :
    w.grownBy w3 none ∧ Blk w3 w.heap.size 70 (ndCells x v) ∧ Blk w3 (w.heap.size + 1) 4 #[.bool false] ∧ w.heap.size + 1 < w3.heap.size := by
  have h0 : w.grownBy ((w.alloc (.cells (ndCells x v) 70)).alloc (.cells #[.bool false] 4)) none := only_alloc (only_alloc (only_refl _ _) _) _
  have hz : (w.alloc (.cells (ndCells x v) 70)).heap.size = w.heap.size + 1 := by simp
  refine ⟨only_trans h0 hg, ((Blk.new w _ _).alloc _).kept hg, (blk_at hz _ _).kept hg, ?_⟩
  have := hg.size
  simp at this
  omega

theorem hs_paid {w w3 w4 : World} {x : Nd} {v : Value} {o : Obj} (hg : w.grownBy w3 none) (h1 : Blk w3 w.heap.size 70 (ndCells x v)) (h2 : Blk w3 (w.heap.size + 1) 4 #[.bool false]) (h4 : (w3.alloc o).grownBy w4 none) :
    w.grownBy w4 none ∧ Blk w4 w.heap.size 70 (ndCells x v) ∧ Blk w4 (w.heap.size + 1) 4 #[.bool false] ∧ w.heap.size + 1 < w4.heap.size :=
  have h2' := (h2.alloc o).kept h4
  ⟨only_trans (only_alloc hg o) h4, (h1.alloc o).kept h4, h2', h2'.lt⟩
theorem nd_cells {W : World} {b : Nat} {t : TypeId} {x : Nd} {v : Value} (h : Blk W b t (ndCells x v)) : W.cell? ⟨b, 0, none⟩ = some (.int .i64 x.kind) ∧ W.cell? ⟨b, 1, none⟩ = some (.int .i64 x.prio) ∧ W.cell? ⟨b, 2, none⟩ = some (.bool x.chan) ∧
    W.cell? ⟨b, 3, none⟩ = some (.int .i64 x.pay.1) ∧ W.cell? ⟨b, 4, none⟩ = some (.int .i64 x.pay.2) ∧ W.cell? ⟨b, 5, none⟩ = some v := ⟨h.cell 0, h.cell 1, h.cell 2, h.cell 3, h.cell 4, h.cell 5⟩

/-- Where the head is wrong. -/
theorem shape_head {x : Nd} (h : headB x = false) : shapeB x = false := by simp [shapeB, h]
theorem head_1 {x : Nd} (h : kindB x.kind = false) : headB x = false := by simp [headB, h]
theorem head_2 {x : Nd} (h : withinB x.next.length (leastN x.kind) (mostN x.kind) = false) : headB x = false := by simp [headB, h]
theorem head_3 {x : Nd} (h : withinB x.prio 0 (mostP x.kind) = false) : headB x = false := by simp [headB, h]
theorem head_4 {x : Nd} (h : payB x (paysB x.kind) = false) : headB x = false := by simp [headB, h]
theorem head_ok {x : Nd} (h1 : kindB x.kind = true) (h2 : withinB x.next.length (leastN x.kind) (mostN x.kind) = true) (h3 : withinB x.prio 0 (mostP x.kind) = true) (h4 : payB x (paysB x.kind) = true) : headB x = true := by simp [headB, h1, h2, h3, h4]
/-- It leaves ahead of the edges. -/
theorem hs_out {w w3 : World} {x : Nd} {tmps : Array Value} {F : Fence} {n : Nat} {o : Obj} (hp : tmps.getD 2 undef = .pointer (some ⟨w.heap.size + 1, 0, none⟩)) (hg : w.grownBy w3 none) (hb : Blk w3 (w.heap.size + 1) 4 #[.bool false]) (hx : headB x = false) :
    bodyPostM F n Try.prog Try.f71 (fun e w' => e = .returned (.bool (shapeB x)) ∧ w.grownBy w' none) .ret { tmps := tmps, defers := [] } ((w3.setCell ⟨w.heap.size + 1, 0, none⟩ (.bool false)).alloc o) := by
  have hb' := (hb.set_ 0 (.bool false)).alloc o
  refine ret_unmarked (hs_results hp hb') ⟨by rw [shape_head hx], only_alloc (only_setNew hg (by show w.heap.size ≤ w.heap.size + 1; omega) _) o⟩
theorem hs_out' {w w3 : World} {x : Nd} {tmps : Array Value} {F : Fence} {n : Nat} (hp : tmps.getD 2 undef = .pointer (some ⟨w.heap.size + 1, 0, none⟩)) (hg : w.grownBy w3 none) (hb : Blk w3 (w.heap.size + 1) 4 #[.bool false]) (hx : headB x = false) :
    bodyPostM F n Try.prog Try.f71 (fun e w' => e = .returned (.bool (shapeB x)) ∧ w.grownBy w' none) .ret { tmps := tmps, defers := [] } (w3.setCell ⟨w.heap.size + 1, 0, none⟩ (.bool false)) := by
  have hb' := hb.set_ 0 (.bool false)
  refine ret_unmarked (hs_results hp hb') ⟨by rw [shape_head hx], only_setNew hg (by show w.heap.size ≤ w.heap.size + 1; omega) _⟩

/-- Between two edges; where one is wrong. -/
def HI (w : World) (pre : List Ed) (W : World) : Prop := w.grownBy W none ∧ Blk W (w.heap.size + 1) 4 #[.bool false] ∧ pre.all shiftB = true
def HX (w : World) (c : Code) (pre : List Ed) (W : World) : Prop := c = .ret ∧ w.grownBy W none ∧ Blk W (w.heap.size + 1) 4 #[.bool false] ∧ pre.all shiftB = false
theorem hi_below {w : World} {B : Nat} (hB : w.heap.size + 1 < B) (s : List Ed) (X Y : World) (h : HI w s X) (hb : Below B X Y) : HI w s Y := ⟨below_only hb h.1 (by omega), h.2.1.below hb hB, h.2.2⟩
theorem hx_below {w : World} {B : Nat} (hB : w.heap.size + 1 < B) (c : Code) (s : List Ed) (X Y : World) (h : HX w c s X) (hb : Below B X Y) : HX w c s Y := ⟨h.1, below_only hb h.2.1 (by omega), h.2.2.1.below hb hB, h.2.2.2⟩
theorem hi_next {w W : World} {pre : List Ed} {e : Ed} (h : HI w pre W) (he : shiftB e = true) : HI w (pre ++ [e]) W := ⟨h.1, h.2.1, by simp [h.2.2, he]⟩
theorem hx_next {w W : World} {pre : List Ed} {e : Ed} (h : HI w pre W) (he : shiftB e = false) : HX w .ret (pre ++ [e]) (W.setCell ⟨w.heap.size + 1, 0, none⟩ (.bool false)) :=
  ⟨rfl, only_setNew h.1 (by show w.heap.size ≤ w.heap.size + 1; omega) _, h.2.1.set_ 0 _, by simp [he]⟩
theorem all_prefix {α : Type} {p : α → Bool} {l m : List α} (h : l <+: m) (hl : l.all p = false) : m.all p = false := by
  obtain ⟨r, rfl⟩ := h
  simp [List.all_append, hl]
theorem shape_ok {x : Nd} (h : headB x = true) (he : (edgesL x).all shiftB = true) : shapeB x = true := by simp only [shapeB, h, he, Bool.and_self]
theorem shape_bad {x : Nd} (he : (edgesL x).all shiftB = false) : shapeB x = false := by simp only [shapeB, he, Bool.and_false]

set_option maxRecDepth 100000 in
set_option maxHeartbeats 2000000 in
theorem hasShape_any (x : Nd) (v : Value) (w : World) (hE : Edges w v x.next) :
    Calls Try.prog 71 #[ndV x v] w fun e w' => e = .returned (.bool (shapeB x)) ∧ w.grownBy w' none := by
  refine (callsIn_wide (n := 3)).1 ?_
  refine callsIn_of_wp_marks Try.func71 rfl trivial ?_ rfl
  simp only [Try.ntmps71, List.size_toArray, List.length_cons, List.length_nil, Nat.reduceAdd, Nat.reduceSub, Array.replicate_succ, Array.replicate_zero, List.push_toArray, List.append_toArray, List.nil_append, List.cons_append]
  have HE := Lib.hid hE
  obtain ⟨A, cap, rfl, hlen, _⟩ := hE
  have HL := Lib.hid hlen
  clear hlen
  cases hk : kindB x.kind
  · have HK := Lib.hid hk
    gi_wp2_with (first | (refine ⟨trivial, ?_⟩; gi_at_call 78; go_must (refine (callsIn_wide.2 (shapeOf_out _ HK.out _)).mono ?_; rintro e w3 ⟨rfl, hg3⟩; obtain ⟨hg, hb1, hb2, hz⟩ := hs_boxes hg3; have hz0 : w.heap.size < w3.heap.size := (by omega); have HG := Lib.hid hg; have HB := Lib.hid hb2; clear hg3 hg; have c0 : w3.cell? ⟨w.heap.size + 1, 0, none⟩ = some (.bool false) := hb2.cell 0; have f0 := hb2.frozen 0; clear hb2 hb1)) | (refine ⟨trivial, ?_⟩))
    exact hs_out rfl HG.out HB.out (head_1 HK.out)
  · have HK := Lib.hid hk
    cases hc1 : withinB x.next.length (leastN x.kind) (mostN x.kind)
    · have H1 := Lib.hid hc1
      gi_wp2_with (first | (refine ⟨trivial, ?_⟩; gi_at_call 78; go_must (refine (callsIn_wide.2 (shapeOf_in _ HK.out _)).mono ?_; rintro e w3 ⟨rfl, hg3⟩; obtain ⟨hg, hb1, hb2, hz⟩ := hs_boxes hg3; have hz0 : w.heap.size < w3.heap.size := (by omega); have HG := Lib.hid hg; have HB := Lib.hid hb2; clear hg3 hg; have c0 : w3.cell? ⟨w.heap.size + 1, 0, none⟩ = some (.bool false) := hb2.cell 0; have f0 := hb2.frozen 0; obtain ⟨q0, q1, q2, q3, q4, q5⟩ := nd_cells hb1; clear hb2 hb1)) | (refine ⟨trivial, ?_⟩; gi_at_call 79; go_must (refine (callsIn_wide.2 (within_any _ _ _ _)).mono ?_; rintro e w4 ⟨rfl, rfl⟩)) | (refine ⟨trivial, ?_⟩))
      exact hs_out rfl HG.out HB.out (head_2 H1.out)
    · cases hc2 : withinB x.prio 0 (mostP x.kind)
      · have H1 := Lib.hid hc2
        gi_wp2_with (first | (refine ⟨trivial, ?_⟩; gi_at_call 78; go_must (refine (callsIn_wide.2 (shapeOf_in _ HK.out _)).mono ?_; rintro e w3 ⟨rfl, hg3⟩; obtain ⟨hg, hb1, hb2, hz⟩ := hs_boxes hg3; have hz0 : w.heap.size < w3.heap.size := (by omega); have HG := Lib.hid hg; have HB := Lib.hid hb2; clear hg3 hg; have c0 : w3.cell? ⟨w.heap.size + 1, 0, none⟩ = some (.bool false) := hb2.cell 0; have f0 := hb2.frozen 0; obtain ⟨q0, q1, q2, q3, q4, q5⟩ := nd_cells hb1; clear hb2 hb1)) | (refine ⟨trivial, ?_⟩; gi_at_call 79; go_must (refine (callsIn_wide.2 (within_any _ _ _ _)).mono ?_; rintro e w4 ⟨rfl, rfl⟩)) | (refine ⟨trivial, ?_⟩))
        exact hs_out rfl HG.out HB.out (head_3 H1.out)
      · cases hc3 : payB x (paysB x.kind)
        · have H1 := Lib.hid hc3
          gi_wp2_with (first | (refine ⟨trivial, ?_⟩; gi_at_call 78; go_must (refine (callsIn_wide.2 (shapeOf_in _ HK.out _)).mono ?_; rintro e w3 ⟨rfl, hg3⟩; obtain ⟨hg, hb1, hb2, hz⟩ := hs_boxes hg3; have hz0 : w.heap.size < w3.heap.size := (by omega); have HG := Lib.hid hg; have HB := Lib.hid hb2; have HB1 := Lib.hid hb1; clear hg3 hg; have c0 : w3.cell? ⟨w.heap.size + 1, 0, none⟩ = some (.bool false) := hb2.cell 0; have f0 := hb2.frozen 0; obtain ⟨q0, q1, q2, q3, q4, q5⟩ := nd_cells hb1; clear hb2 hb1)) | (refine ⟨trivial, ?_⟩; gi_at_call 79; go_must (refine (callsIn_wide.2 (within_any _ _ _ _)).mono ?_; rintro e w4 ⟨rfl, rfl⟩)) | (refine ⟨trivial, ?_⟩; gi_at_call 80; go_must (refine (callsIn_wide.2 (hasPay_any x _ _ _ _ _ _)).mono ?_; rintro e w4 ⟨rfl, hg4⟩; obtain ⟨hg5, hb1, hb2, hz5⟩ := hs_paid HG.out HB1.out HB.out hg4; have HG5 := Lib.hid hg5; have HB5 := Lib.hid hb2; clear hg4 hg5; have c5 : w4.cell? ⟨w.heap.size + 1, 0, none⟩ = some (.bool false) := hb2.cell 0; have f5 := hb2.frozen 0; clear hb1 hb2)) | (refine ⟨trivial, ?_⟩))
          exact hs_out' rfl HG5.out HB5.out (head_4 H1.out)
        · have HH := Lib.hid (head_ok hk hc1 hc2 hc3)
          gi_wp2_with (first | (refine ⟨trivial, ?_⟩; gi_at_call 78; go_must (refine (callsIn_wide.2 (shapeOf_in _ HK.out _)).mono ?_; rintro e w3 ⟨rfl, hg3⟩; obtain ⟨hg, hb1, hb2, hz⟩ := hs_boxes hg3; have hz0 : w.heap.size < w3.heap.size := (by omega); have HG := Lib.hid hg; have HB := Lib.hid hb2; have HB1 := Lib.hid hb1; clear hg3 hg; have c0 : w3.cell? ⟨w.heap.size + 1, 0, none⟩ = some (.bool false) := hb2.cell 0; have f0 := hb2.frozen 0; obtain ⟨q0, q1, q2, q3, q4, q5⟩ := nd_cells hb1; clear hb2 hb1)) | (refine ⟨trivial, ?_⟩; gi_at_call 79; go_must (refine (callsIn_wide.2 (within_any _ _ _ _)).mono ?_; rintro e w4 ⟨rfl, rfl⟩)) | (refine ⟨trivial, ?_⟩; gi_at_call 80; go_must (refine (callsIn_wide.2 (hasPay_any x _ _ _ _ _ _)).mono ?_; rintro e w4 ⟨rfl, hg4⟩; obtain ⟨hg5, hb1, hb2, hz5⟩ := hs_paid HG.out HB1.out HB.out hg4; have HG5 := Lib.hid hg5; have HB5 := Lib.hid hb2; clear hg4 hg5; have c5 : w4.cell? ⟨w.heap.size + 1, 0, none⟩ = some (.bool false) := hb2.cell 0; have f5 := hb2.frozen 0; obtain ⟨p0, p1, p2, p3, p4, p5⟩ := nd_cells hb1; have HB6 := Lib.hid hb1; clear hb1 hb2)) | (refine ⟨trivial, ?_⟩; gi_at_call 72; go_must (refine (callsIn_wide.2 (edges_any x _ _)).mono ?_; rintro e w5 ⟨rfl, rfl⟩)) | (refine ⟨trivial, ?_⟩))
          have hz6 : (w4.alloc (.cells (ndCells x (.slice A x.next.length cap)) 70)).heap.size = w4.heap.size + 1 := by simp
          have hb2' := HB5.out.alloc (.cells (ndCells x (.slice A x.next.length cap)) 70)
          have hg2' := only_alloc HG5.out (.cells (ndCells x (.slice A x.next.length cap)) 70)
          refine wpIn_rangeFunc_tells rfl (by omega) (gf := 81) (lb := #[.pointer (some ⟨w4.heap.size, 0, none⟩)]) rfl trivial (enters_of Try.func81 (by kernel_rfl) rfl)
            (edges_tells w4.heap.size x (.slice A x.next.length cap)) (fun h k => h.trans k) (fun _ _ _ o' h hc => .putObj o' h hc) KeepsCells.alloc (fun _ => rfl) ?t0 (HI w) (HX w) (hi_below (by omega)) (hx_below (by omega)) ⟨hg2', hb2', rfl⟩ 67 edCells
            (fun e Bx => { tmps := #[ndV x (.slice A x.next.length cap), .pointer (some ⟨w.heap.size, 0, none⟩), .pointer (some ⟨w.heap.size + 1, 0, none⟩), .pointer (some ⟨w3.heap.size, 0, none⟩), .bool true, .pointer (some ⟨Bx, 0, none⟩), .tuple #[shV (leastN x.kind) (mostN x.kind) (paysB x.kind) (mostP x.kind), .bool true], .pointer (some ⟨w.heap.size, 0, none⟩), .int .i64 x.kind, .tuple #[shV (leastN x.kind) (mostN x.kind) (paysB x.kind) (mostP x.kind), .bool true], shV (leastN x.kind) (mostN x.kind) (paysB x.kind) (mostP x.kind), .bool true, .bool true, .bool false, .bool false, .pointer (some ⟨w.heap.size, 5, none⟩), .slice A x.next.length cap, .int .i64 (x.next.length : Int), .pointer (some ⟨w3.heap.size, 0, none⟩), .int .i64 (leastN x.kind), .pointer (some ⟨w3.heap.size, 1, none⟩), .int .i64 (mostN x.kind), .bool true, .bool false, .bool false, .bool false, .pointer (some ⟨w.heap.size, 1, none⟩), .int .i64 x.prio, .pointer (some ⟨w3.heap.size, 3, none⟩), .int .i64 (mostP x.kind), .bool true, .bool false, .bool false, .bool false, ndV x (.slice A x.next.length cap), shV (leastN x.kind) (mostN x.kind) (paysB x.kind) (mostP x.kind), .bool true, .bool false, .bool false, ndV x (.slice A x.next.length cap), .func (.func 81) #[] #[.pointer (some ⟨w4.heap.size, 0, none⟩)], edV e, undef, undef, undef, undef], defers := [] }) ?assign ?body ?done ?stop
          case t0 =>
            intro W hW
            exact ⟨(Blk.new w4 70 _).below hW (by omega), (HE.out.keep (.grown hg2')).keep (.below hW)⟩
          case assign =>
            intro l e W K hK
            gi_wp2
            exact hK
          case body =>
            rintro l pre ⟨a, b⟩ W Bx hpre hBx hI hbx
            have c1 : W.cell? ⟨Bx, 1, none⟩ = some (.int .i64 b) := hbx.cell 1
            have c0' : W.cell? ⟨w.heap.size + 1, 0, none⟩ = some (.bool false) := hI.2.1.cell 0
            have f0' := hI.2.1.frozen 0
            have HI' := Lib.hid hI
            clear hI hpre
            cases hs : withinB b 0 1000
            · have HS : Hid (shiftB (a, b) = false) := hs
              gi_wp2_with (refine ⟨trivial, ?_⟩; gi_at_call 79; refine (CallsIn.inRound l (callsIn_wide.2 (within_any _ _ _ _))).mono ?_; rintro e w6 ⟨rfl, rfl⟩)
              exact ⟨(KeepsOthers.setCell _ _ _).from _, hx_next HI'.out HS.out⟩
            · have HS : Hid (shiftB (a, b) = true) := hs
              gi_wp2_with (refine ⟨trivial, ?_⟩; gi_at_call 79; refine (CallsIn.inRound l (callsIn_wide.2 (within_any _ _ _ _))).mono ?_; rintro e w6 ⟨rfl, rfl⟩)
              exact ⟨KeepsFrom.refl _ _, .refl _, hi_next HI'.out HS.out⟩
          case done =>
            rintro D W hD ⟨h1, h2, h3⟩ hK
            have d0 : W.cell? ⟨w.heap.size + 1, 0, none⟩ = some (.bool false) := h2.cell 0
            have g0 := h2.frozen 0
            have HK2 := Lib.hid ((KeepsOthers.setCell W ⟨w.heap.size + 1, 0, none⟩ (.bool true)).same D _ hK rfl)
            have HB7 := Lib.hid (h2.set_ 0 (.bool true))
            have HG7 := Lib.hid (only_setNew h1 (p := ⟨w.heap.size + 1, 0, none⟩) (by show w.heap.size ≤ w.heap.size + 1; omega) (.bool true))
            have HS := Lib.hid (shape_ok HH.out h3)
            clear h1 h2 h3 hK
            gi_wp2
            refine marks_ret (B := w4.heap.size + 1) [D] _ (by simp) (by simp only [List.mem_singleton, forall_eq]; exact ⟨by omega, HK2.out⟩) fun W' hW' => ?_
            refine ⟨_, hs_results rfl (HB7.out.keeps hW'.2), by rw [HS.out], hW'.grown HG7.out (by omega)⟩
          case stop =>
            rintro D c pre W hD hpre hne ⟨rfl, h1, h2, h3⟩ hK
            gi_wp2
            refine marks_ret (B := w4.heap.size + 1) [D] _ (by simp) (by simp only [List.mem_singleton, forall_eq]; exact ⟨by omega, hK⟩) fun W' hW' => ?_
            refine ⟨_, hs_results rfl (h2.keeps hW'.2), by rw [shape_bad (all_prefix hpre h3)], hW'.grown h1 (by omega)⟩
end Go.Proofs.Ytmhbmeckdbdhpaa

namespace Go.Proofs.Ytmhbmeckdbdhpaa
open Go.RowKit Go.Shelf

end Go.Proofs.Ytmhbmeckdbdhpaa

/- order: leastBack: the way back that rises least. -/
import Derived.Test.YtablbgfleopbfaaONea
import Derived.Test.YtablbgfleopbfaaGLost
namespace Go.Proofs.Ytablbgfleopbfaa
open Go.RowKit Go.Shelf
attribute [local go_sem] Oper.semAt_some

/-- ways[v] = way{..}, inside a fence. -/
theorem wpListIn_way_put {F : Fence} {nF : Nat} (w : World) {ops : Array Oper} {rest : List Oper} {o : Oper} {a : Act} {Q : Exit → Act → World → Prop} (hg : o.guard = none) (m x v : Operand) (hop : o.op = Op.mapUpdate 60 m x v)
    {b n i : Nat} {M : WMp} {r : Int} {l : Bool} (hm : a.eval m = .map (some b)) (hx : a.eval x = .int .i64 (i : Int)) (hv : a.eval v = .agg #[.int .i64 r, .bool l]) (hW : WMap w b n M) (hi : i ≤ 1000) (hn : n ≤ 1000000)
    (hK : ∀ w', WMap w' b (n + 1) (updM M i (r, l)) → w.mapTurned w' b → wpListIn F nF Try.prog ops Q rest (a.put o.dst undef) w') : wpListIn F nF Try.prog ops Q (o :: rest) a w := by
  refine wpListIn_plain hg fun K' hK' => ?_
  obtain ⟨w', hrun, r1, r2⟩ := hW.put hi hn r l
  unfold Oper.wpIn
  refine ⟨by simp [Oper.about, hop], ?_⟩
  rw [Oper.semAt_plain F _ _ (by rw [hop]; intro c hc'; cases hc')]
  simp [execOp, hop, hm, hx, hv, hrun, Result.andThen]
  exact hK' _ _ (hK w' r1 r2)

/-- What stands in the search. -/
structure LS (w : World) (M : WMp) (m : Nat) (rise : Int) (Ds : List Nat) (W : World) : Prop where
  step : w.grownBy W none
  map : WMap W w.heap.size m M
  box : Blk W (w.heap.size + 1) 60 #[.map (some w.heap.size)]
  rs : Blk W (w.heap.size + 2) 3 #[.int .i64 rise]
  apart : Ds.Nodup
  marks : ∀ D ∈ Ds, w.heap.size + 3 ≤ D ∧ W.heap[D]? = some (.deferred (some []))
section
variable {w X Y W : World} {M : WMp} {m : Nat} {rise : Int} {Ds : List Nat}
theorem LS.below {B : Nat} (h : LS w M m rise Ds X) (hb : Below B X Y) (hw : w.heap.size + 2 < B) (hD : ∀ D ∈ Ds, D < B) : LS w M m rise Ds Y :=
  ⟨below_only hb h.step (by omega), h.map.below hb (by omega), h.box.below hb (by omega), h.rs.below hb hw, h.apart, fun D hm => ⟨(h.marks D hm).1, (hb.block D (hD D hm)).trans (h.marks D hm).2⟩⟩
theorem LS.lt (h : LS w M m rise Ds W) : ∀ D ∈ Ds, D < W.heap.size := fun D hm => (Array.getElem?_eq_some_iff.1 (h.marks D hm).2).1
theorem LS.kept (h : LS w M m rise Ds X) (hg : X.grownBy Y none) : LS w M m rise Ds Y := h.below (below_of_only hg) h.rs.lt h.lt
theorem LS.mark {D : Nat} (h : LS w M m rise Ds W) (hD : ∀ D' ∈ Ds, D' < D) (hw : w.heap.size + 2 < D) (hK : W.heap[D]? = some (.deferred (some []))) : LS w M m rise (D :: Ds) W :=
  ⟨h.step, h.map, h.box, h.rs, List.nodup_cons.2 ⟨fun hm => by have := hD D hm; omega, h.apart⟩, fun D' hm => by
    rcases List.mem_cons.1 hm with rfl | hm
    · exact ⟨by omega, hK⟩
    · exact h.marks D' hm⟩
/-- The map is turned. -/
theorem LS.turn {M' : WMp} {m' : Nat} (h : LS w M m rise Ds X) (ht : X.mapTurned Y w.heap.size) (hM : WMap Y w.heap.size m' M') : LS w M' m' rise Ds Y := by
  have hg := ht.grown
  have hk := turned_cells ht
  refine ⟨only_new h.step hg (Nat.le_refl _), hM, h.box.keeps hk, h.rs.keeps hk, h.apart, fun D hm => ⟨(h.marks D hm).1, ?_⟩⟩
  have h2 := h.marks D hm
  exact (hg.block D (h.lt D hm) (fun e => by simp only [Option.some.injEq] at e; omega)).trans h2.2
theorem LS.rise_ (h : LS w M m rise Ds W) (r : Int) : LS w M m r Ds (W.setCell ⟨w.heap.size + 2, 0, none⟩ (.int .i64 r)) :=
  have hk := KeepsOthers.setCell W ⟨w.heap.size + 2, 0, none⟩ (.int .i64 r)
  ⟨only_setNew h.step (by show w.heap.size ≤ w.heap.size + 2; omega) _, h.map.setCell (by show w.heap.size ≠ w.heap.size + 2; omega) _,
    h.box.far (p := ⟨w.heap.size + 2, 0, none⟩) (by show w.heap.size + 1 ≠ w.heap.size + 2; omega) _, h.rs.set_ 0 _, h.apart, fun D hm => ⟨(h.marks D hm).1, hk.same D _ (h.marks D hm).2 rfl⟩⟩
end
theorem LS.mono_ {w W : World} {M : WMp} {m m' : Nat} {rise : Int} {Ds : List Nat} (h : LS w M m rise Ds W) (hm : m ≤ m') : LS w M m' rise Ds W := ⟨h.step, h.map.mono hm, h.box, h.rs, h.apart, h.marks⟩
theorem put_end {w W5 W6 : World} {M M' : WMp} {m : Nat} {rise : Int} {Ds : List Nat} {o : Obj} {B : Nat} (h : LS w M m rise Ds W5) (ht : (W5.alloc o).mapTurned W6 w.heap.size) (hM : WMap W6 w.heap.size (m + 1) M') (hB : w.heap.size < B) : KeepsFrom B W5 W6 ∧ KeepsCells W5 W6 ∧ LS w M' (m + 1) rise Ds W6 :=
  ⟨(only_keepsFrom (only_alloc (only_refl _ _) o) B).trans (KeepsFrom.of_grownBy ht.grown (fun j e => by simp only [Option.some.injEq] at e; omega)), (KeepsCells.alloc _ o).trans (turned_cells ht), (h.kept (only_alloc (only_refl _ _) o)).turn ht hM⟩
/-- The frame between two rounds. -/
def Frm (A : Option Addr) (n cap u B a : Nat) (Ds : List Nat) (act : Act) : Prop := ∃ f : Nat → Value, act = { tmps := #[.slice A n cap, .int .i64 (u : Int), undef, undef, .int .i64 0, .bool false, .pointer (some ⟨B + 1, 0, none⟩), .int .i64 (a : Int), .pointer (some ⟨B + 1 + 1, 0, none⟩), f 9, f 10, f 11, f 12, f 13, f 14, .map (some B), .int .i64 (u : Int), f 17, f 18, f 19, f 20, f 21, f 22, f 23, f 24, f 25, f 26, f 27, f 28, f 29, f 30, f 31, f 32, f 33, f 34, f 35, f 36, f 37, f 38, f 39, f 40, f 41, f 42, f 43, f 44, f 45, f 46, f 47, f 48, f 49, f 50, f 51, f 52, f 53, f 54, f 55, f 56, f 57, f 58, f 59, f 60, f 61, f 62, f 63, f 64, f 65, f 66, f 67, f 68, f 69, f 70, f 71, f 72, f 73, f 74], defers := Ds.map mark }
theorem lit_of (t : Array Value) (h : t.size = 75) : t = ((List.range 75).map fun k => t.getD k undef).toArray := by
  refine Array.ext (by simp [h]) fun i h1 h2 => ?_
  simp [h1]
theorem frm_of {A : Option Addr} {n cap u B a : Nat} {Ds : List Nat} {act : Act} (hs : act.tmps.size = 75) (hd : act.defers = Ds.map mark) (h0 : act.tmps.getD 0 undef = .slice A n cap) (h1 : act.tmps.getD 1 undef = .int .i64 (u : Int)) (h2 : act.tmps.getD 2 undef = undef) (h3 : act.tmps.getD 3 undef = undef) (h4 : act.tmps.getD 4 undef = .int .i64 0) (h5 : act.tmps.getD 5 undef = .bool false)
    (h6 : act.tmps.getD 6 undef = .pointer (some ⟨B + 1, 0, none⟩)) (h7 : act.tmps.getD 7 undef = .int .i64 (a : Int)) (h8 : act.tmps.getD 8 undef = .pointer (some ⟨B + 1 + 1, 0, none⟩)) (h15 : act.tmps.getD 15 undef = .map (some B)) (h16 : act.tmps.getD 16 undef = .int .i64 (u : Int)) : Frm A n cap u B a Ds act := by
  obtain ⟨t, d⟩ := act
  simp only at hs hd h0 h1 h2 h3 h4 h5 h6 h7 h8 h15 h16
  subst hd
  have e : t = #[t.getD 0 undef, t.getD 1 undef, t.getD 2 undef, t.getD 3 undef, t.getD 4 undef, t.getD 5 undef, t.getD 6 undef, t.getD 7 undef, t.getD 8 undef, t.getD 9 undef, t.getD 10 undef, t.getD 11 undef, t.getD 12 undef, t.getD 13 undef, t.getD 14 undef, t.getD 15 undef, t.getD 16 undef, t.getD 17 undef, t.getD 18 undef, t.getD 19 undef, t.getD 20 undef, t.getD 21 undef, t.getD 22 undef, t.getD 23 undef, t.getD 24 undef, t.getD 25 undef, t.getD 26 undef, t.getD 27 undef, t.getD 28 undef, t.getD 29 undef, t.getD 30 undef, t.getD 31 undef, t.getD 32 undef, t.getD 33 undef, t.getD 34 undef, t.getD 35 undef, t.getD 36 undef, t.getD 37 undef, t.getD 38 undef, t.getD 39 undef, t.getD 40 undef, t.getD 41 undef, t.getD 42 undef, t.getD 43 undef, t.getD 44 undef, t.getD 45 undef, t.getD 46 undef, t.getD 47 undef, t.getD 48 undef, t.getD 49 undef, t.getD 50 undef, t.getD 51 undef, t.getD 52 undef, t.getD 53 undef, t.getD 54 undef, t.getD 55 undef, t.getD 56 undef, t.getD 57 undef, t.getD 58 undef, t.getD 59 undef, t.getD 60 undef, t.getD 61 undef, t.getD 62 undef, t.getD 63 undef, t.getD 64 undef, t.getD 65 undef, t.getD 66 undef, t.getD 67 undef, t.getD 68 undef, t.getD 69 undef, t.getD 70 undef, t.getD 71 undef, t.getD 72 undef, t.getD 73 undef, t.getD 74 undef] := lit_of t hs
  rw [h0, h1, h2, h3, h4, h5, h6, h7, h8, h15, h16] at e
  exact ⟨fun k => t.getD k undef, congrArg (fun t => (⟨t, Ds.map mark⟩ : Act)) e⟩
theorem wk_act {xs : List Nd} (ho : ORD xs) {k u v : Nat} {s : Int} (hk : 1 ≤ k) (h : Wk xs k u v s) : ∃ y, xs[v]? = some y ∧ actB y.kind = true := by
  cases h with
  | zero => omega
  | snoc _ he => exact (ho.eg he).2.2.2.2
theorem jump_eg {xs : List Nd} (ho : ORD xs) {a : Nat} {x : Nd} (hx : xs[a]? = some x) (ha : actB x.kind = true) {t d : Int} (h : (t, d) ∈ x.next.filterMap (jumpP xs x.prio)) : ∃ v : Nat, t = v ∧ Eg xs a v d := by
  obtain ⟨e, he, hj⟩ := List.mem_filterMap.1 h
  have := ho.rise hx ha (List.mem_append_left _ he) hj
  exact ⟨t.toNat, by omega, x, e, hx, ha, he, by rw [hj]; congr 2; omega⟩
theorem eg_jump {xs : List Nd} {a z : Nat} {x : Nd} {d : Int} (hx : xs[a]? = some x) (h : Eg xs a z d) : ((z : Int), d) ∈ x.next.filterMap (jumpP xs x.prio) := by
  obtain ⟨x', e, hx', _, he, hj⟩ := h
  rw [hx] at hx'
  cases hx'
  exact List.mem_filterMap.2 ⟨e, he, hj⟩

set_option maxRecDepth 100000 in
set_option maxHeartbeats 4000000 in
theorem oleast_any (xs : List Nd) (v : Value) (u : Nat) (x0 : Nd) (w : World) (hT : Tbl w v xs) (ho : ORD xs) (hu : xs[u]? = some x0) (ha : actB x0.kind = true) :
    Calls Try.prog 27 #[v, .int .i64 (u : Int)] w fun e w' => (∃ p, e = .returned (pairB p) ∧ BackIs xs u p) ∧ w.grownBy w' none := by
  have hmm := @run_makeMap Try.prog
  have hfld := fun r l w => way_field0 r l w
  refine (callsIn_wide (n := 3)).1 ?_
  refine callsIn_of_wp_marks Try.func27 rfl trivial ?_ rfl
  simp only [Try.ntmps27, List.size_toArray, List.length_cons, List.length_nil, Nat.reduceAdd, Nat.reduceSub, Array.replicate_succ, Array.replicate_zero, List.push_toArray, List.append_toArray, List.nil_append, List.cons_append]
  have HT := Lib.hid hT
  have HO := Lib.hid ho
  have h64 := ho.ok.le
  have h64' : (xs.length : Int) ≤ 64 := by omega
  have hul : u < xs.length := (List.getElem?_eq_some_iff.1 hu).1
  have hul' : (u : Int) < (xs.length : Int) := by omega
  have HA0 : Hid (xs[u]? = some x0 ∧ actB x0.kind = true) := ⟨hu, ha⟩
  obtain ⟨A, cap, rfl, hcl⟩ := hT
  clear hcl ho hu ha
  gi_wp2_with fail
  refine wpIn_scope_wide ?_
  gi_wp2_with fail
  refine wpIn_label ?_
  gi_wp2_with fail
  have hL0 : LS w (fun _ => none) 0 0 [] (((w.alloc (.map #[] 0)).alloc (.cells #[.map (some w.heap.size)] 60)).alloc (.cells #[.int .i64 0] 3)) := by
    refine ⟨only_alloc (only_alloc (only_alloc (only_refl _ _) _) _) _, ?_, (blk_at (by simp) _ _).alloc _, blk_at (by simp) _ _, List.nodup_nil, fun D h => (by cases h)⟩
    exact ((WMap.made w).kept (row := none) (only_alloc (only_refl _ _) _) (fun e => by cases e)).kept (row := none) (only_alloc (only_refl _ _) _) (fun e => by cases e)
  refine wpIn_loop (fun a' W => ∃ (a c m : Nat) (x : Nd) (rise : Int) (M : WMp) (Ds : List Nat), DM xs u M c a rise [] ∧ c ≤ xs.length ∧ m ≤ 10 * c ∧ Ds.length = c ∧ xs[a]? = some x ∧ actB x.kind = true ∧ LS w M m rise Ds W ∧ Frm A xs.length cap u w.heap.size a Ds a') (fun a' _ => xs.length - a'.defers.length)
    ⟨u, 0, 0, x0, 0, fun _ => none, [], DM.start, Nat.zero_le _, Nat.le_refl _, rfl, HA0.out.1, HA0.out.2, hL0, frm_of rfl rfl rfl rfl rfl rfl rfl rfl rfl rfl rfl rfl rfl⟩ ?_
  clear hL0
  rintro a' W ⟨a, c, m, x, rise, M, Ds, hdm, hcn, hmc, hDl, hx, ha, hI, f, rfl⟩
  have hr0 := hdm.low
  have hr1 : rise ≤ 4480000 := by have := hdm.high; omega
  have hal : a < xs.length := (List.getElem?_eq_some_iff.1 hx).1
  have hal' : (a : Int) < (xs.length : Int) := by omega
  have hrl := hI.rs.lt
  obtain ⟨A', c', hA, hcl⟩ := HT.out.keep (Keeps.grown hI.step)
  obtain ⟨bb, off, hAb, hcl2⟩ := hcl (by intro e0; rw [e0] at hal; simp at hal)
  obtain ⟨v', hE, _, _, _, _, _, n5⟩ := hcl2 a x hx
  have HE := Lib.hid hE
  obtain ⟨A2, c2, rfl, _, _⟩ := hE
  obtain ⟨rfl, rfl⟩ : A = A' ∧ cap = c' := by simpa using hA
  subst hAb
  have HX : Hid (xs[a]? = some x ∧ actB x.kind = true) := ⟨hx, ha⟩
  have HDM := Lib.hid hdm
  have HI := Lib.hid hI
  clear hA hcl hcl2 hx ha hdm hI
  gi_wp2_with (refine ⟨trivial, ?_⟩; gi_at_call 20; go_must (refine (callsIn_wide.2 (ojumps_any _ _ _ _ _ _ _ _ _ _ rfl rfl)).mono ?_; rintro e W4 ⟨rfl, rfl⟩))
  have hgW : W.grownBy (((W.alloc (.cells #[.slice (some ⟨bb, off, none⟩) xs.length cap] 22)).alloc (.cells #[.int .i64 (a : Int)] 3)).alloc (.cells #[.slice A2 x.next.length c2] 39)) none := only_alloc (only_alloc (only_alloc (only_refl _ _) _) _) _
  have hbn : Blk (((W.alloc (.cells #[.slice (some ⟨bb, off, none⟩) xs.length cap] 22)).alloc (.cells #[.int .i64 (a : Int)] 3)).alloc (.cells #[.slice A2 x.next.length c2] 39)) W.heap.size 22 #[.slice (some ⟨bb, off, none⟩) xs.length cap] := ((Blk.new W _ _).alloc _).alloc _
  have hbf : Blk (((W.alloc (.cells #[.slice (some ⟨bb, off, none⟩) xs.length cap] 22)).alloc (.cells #[.int .i64 (a : Int)] 3)).alloc (.cells #[.slice A2 x.next.length c2] 39)) (W.heap.size + 1) 3 #[.int .i64 (a : Int)] := (blk_at (by simp) _ _).alloc _
  have hbe : Blk (((W.alloc (.cells #[.slice (some ⟨bb, off, none⟩) xs.length cap] 22)).alloc (.cells #[.int .i64 (a : Int)] 3)).alloc (.cells #[.slice A2 x.next.length c2] 39)) (W.heap.size + 2) 39 #[.slice A2 x.next.length c2] := blk_at (by simp) _ _
  generalize (((W.alloc (.cells #[.slice (some ⟨bb, off, none⟩) xs.length cap] 22)).alloc (.cells #[.int .i64 (a : Int)] 3)).alloc (.cells #[.slice A2 x.next.length c2] 39)) = W4 at *
  have hI4 := HI.out.kept hgW
  have hE4 := HE.out.keep (.grown hgW)
  have hT4 := HT.out.keep (.grown hI4.step)
  have hDs := hI4.lt
  have hb4 := hI4.rs.lt
  have hb6 := hbe.lt
  have hWm : W.heap.size ≤ W4.heap.size := hgW.size
  generalize W.heap.size = B3 at *
  clear n5 hgW
  refine wpIn_rangeFunc_tellsP rfl (by omega) (gf := 31) (lb := #[.pointer (some ⟨B3 + 2, 0, none⟩), .pointer (some ⟨B3, 0, none⟩), .pointer (some ⟨B3 + 1, 0, none⟩)]) rfl trivial (enters_of Try.func31 (by kernel_rfl) rfl)
    (jumps_tells (B3 + 2) B3 (B3 + 1) xs (.slice (some ⟨bb, off, none⟩) xs.length cap) (a : Int) x x.next (.slice A2 x.next.length c2) (by omega) (nodeAt_nat.trans HX.out.1) (fun e he => okt_goes HO.out.ok HX.out.1 (List.mem_append_left _ he))) (fun h k => h.trans k) (fun _ _ _ o' h hc => .putObj o' h hc) (fun _ => rfl) ?t0
    (fun pre W7 => ∃ M7, DM xs u M7 c a rise pre ∧ LS w M7 (m + pre.length) rise Ds W7) (fun _ _ _ => False)
    (fun s X Y ⟨M7, h1, h2⟩ hb => ⟨M7, h1, h2.below hb hb4 hDs⟩) (fun c s X Y h hb => h) ⟨M, HDM.out, hI4⟩
    (fun q => { tmps := #[.slice (some ⟨bb, off, none⟩) xs.length cap, .int .i64 (u : Int), undef, undef, .int .i64 0, .bool false, .pointer (some ⟨w.heap.size + 1, 0, none⟩), .int .i64 (a : Int), .pointer (some ⟨w.heap.size + 1 + 1, 0, none⟩), .int .i64 q.1, .int .i64 q.2, f 11, f 12, f 13, f 14, .map (some w.heap.size), .int .i64 (u : Int), .slice (some ⟨bb, off, none⟩) xs.length cap, .int .i64 (a : Int), .slice (some ⟨bb, off, none⟩) xs.length cap, .int .i64 (a : Int), .pointer (some ⟨bb, off + a * 6, none⟩), .pointer (some ⟨bb, off + a * 6 + 5, none⟩), .slice A2 x.next.length c2, .func (.func 31) #[] #[.pointer (some ⟨B3 + 2, 0, none⟩), .pointer (some ⟨B3, 0, none⟩), .pointer (some ⟨B3 + 1, 0, none⟩)], .int .i64 q.1, .int .i64 q.2, f 27, f 28, f 29, f 30, f 31, f 32, f 33, f 34, f 35, f 36, f 37, f 38, f 39, f 40, f 41, f 42, f 43, f 44, f 45, f 46, f 47, f 48, f 49, f 50, f 51, f 52, f 53, f 54, f 55, f 56, f 57, f 58, f 59, f 60, f 61, f 62, f 63, f 64, f 65, f 66, f 67, f 68, f 69, f 70, f 71, f 72, f 73, f 74], defers := [] }) ?assign ?body ?done ?stop
  case t0 =>
    intro W5 hW
    exact ⟨hbe.below hW hb6, hbn.below hW (by omega), hbf.below hW (by omega), hT4.keep (.below hW), hE4.keep (.below hW)⟩
  case assign =>
    intro l q W3 K hK
    gi_wp2
    exact hK
  case body =>
    rintro l pre ⟨t, d⟩ W5 hpre hsz ⟨M7, h1, h2⟩
    have hpl : pre.length ≤ 64 := by
      have := hpre.length_le
      have h3 := List.length_filterMap_le (jumpP xs x.prio) x.next
      have h4 := (HO.out.ok.end_ HX.out.1).2.2.1
      simp at this
      omega
    obtain ⟨v, rfl, he⟩ := jump_eg HO.out HX.out.1 HX.out.2 (hpre.subset (List.mem_append_right _ (List.mem_singleton_self _)))
    obtain ⟨hd1, hd2, hvl, _, _⟩ := HO.out.eg he
    have hvl' : (v : Int) < (xs.length : Int) := by omega
    have hst := h1.step HO.out he
    have HS1 := Lib.hid hst
    have c6 : W5.cell? ⟨w.heap.size + 1, 0, none⟩ = some (.map (some w.heap.size)) := h2.box.cell 0
    have c8 : W5.cell? ⟨w.heap.size + 1 + 1, 0, none⟩ = some (.int .i64 rise) := h2.rs.cell 0
    have hl2 := (h2.kept (only_alloc (only_refl _ _) (.cells #[.int .i64 0, .bool false] 62))).map.look (i := v) (by omega)
    have hl1 := h2.map.look (i := v) (by omega)
    have H2 := Lib.hid h2
    have hlt5 := h2.rs.lt
    have hlt6 : w.heap.size + 1 + 1 < W5.heap.size := hlt5
    have hlt7 : w.heap.size + 1 < W5.heap.size := by omega
    have hmm6 : m + pre.length ≤ 1000000 := by omega
    have HMM := Lib.hid hmm6
    clear hmm6
    clear h1 h2 hst hpre he
    have HV : Hid (v ≤ 1000) := show _ ≤ _ by omega
    dsimp only
    cases hMk : M7 v with
    | none =>
      rw [hMk] at hl1 hl2
      simp only [wayV, Option.isSome] at hl1 hl2
      have HR : Hid (relM M7 v (rise + d) = updM M7 v (rise + d, false)) := show _ = _ by unfold relM; rw [hMk]
      clear hMk
      gi_wp2_with (gi_at_mapUpdate; refine wpListIn_way_put _ rfl _ _ _ rfl rfl rfl rfl (H2.out.kept (only_alloc (only_refl _ _) _)).map HV.out HMM.out ?_; intro W6 hM6 ht6; have HT6 := Lib.hid ht6; have HM6 := Lib.hid hM6; clear ht6 hM6)
      obtain ⟨hk1, hk2, hk3⟩ := put_end (B := W4.heap.size) H2.out HT6.out HM6.out (by omega)
      exact ⟨hk1, hk2, _, HS1.out, by rw [HR.out, List.length_append]; exact hk3⟩
    | some pr =>
      obtain ⟨r0, l0⟩ := pr
      rw [hMk] at hl1 hl2
      simp only [wayV, Option.isSome] at hl1 hl2
      by_cases hlow : rise + d < r0
      · have HR : Hid (relM M7 v (rise + d) = updM M7 v (rise + d, false)) := show _ = _ by unfold relM; rw [hMk]; simp only [hlow, if_true]
        clear hMk
        gi_wp2_with (gi_at_mapUpdate; refine wpListIn_way_put _ rfl _ _ _ rfl rfl rfl rfl (H2.out.kept (only_alloc (only_refl _ _) _)).map HV.out HMM.out ?_; intro W6 hM6 ht6; have HT6 := Lib.hid ht6; have HM6 := Lib.hid hM6; clear ht6 hM6)
        obtain ⟨hk1, hk2, hk3⟩ := put_end (B := W4.heap.size) H2.out HT6.out HM6.out (by omega)
        exact ⟨hk1, hk2, _, HS1.out, by rw [HR.out, List.length_append]; exact hk3⟩
      · have HR : Hid (relM M7 v (rise + d) = M7) := show _ = _ by unfold relM; rw [hMk]; simp only [hlow, if_false]
        clear hMk
        gi_wp2_with fail
        exact ⟨only_keepsFrom (only_alloc (only_refl _ _) _) _, KeepsCells.alloc _ _, M7, by have := HS1.out; rw [HR.out] at this; exact this, by rw [List.length_append]; exact (H2.out.kept (only_alloc (only_refl _ _) _)).mono_ (by omega)⟩
  case done =>
    rintro D W5 hD ⟨M7, h1, h2⟩ hK
    have hpl : (x.next.filterMap (jumpP xs x.prio)).length ≤ 8 := by
      have h3 := List.length_filterMap_le (jumpP xs x.prio) x.next
      have h4 := (HO.out.ok.end_ HX.out.1).2.2.1
      omega
    have hN5 := (h2.mono_ (m' := m + 8) (by omega)).mark (D := D) (fun D' hm => by have := hDs D' hm; omega) (by omega) hK
    have hall := h1.all (fun z d he => eg_jump HX.out.1 he)
    have HDK := Lib.hid h1.dk
    have HALL := Lib.hid hall
    have HN5 := Lib.hid hN5
    have c6 : W5.cell? ⟨w.heap.size + 1, 0, none⟩ = some (.map (some w.heap.size)) := hN5.box.cell 0
    clear h1 h2 hK hall hN5
    dsimp only
    gi_wp2_with fail
    refine ⟨trivial, (callsIn_wide.2 (onearest_any xs.length _ _ _ _ _ _ HN5.out.map (by omega))).mono ?_⟩
    rintro e W6 ⟨⟨p, rfl, hnear⟩, hg6⟩
    have hN6 := HN5.out.kept hg6
    have HN6 := Lib.hid hN6
    have d6 : W6.cell? ⟨w.heap.size + 1, 0, none⟩ = some (.map (some w.heap.size)) := hN6.box.cell 0
    have d8 : W6.cell? ⟨w.heap.size + 1 + 1, 0, none⟩ = some (.int .i64 rise) := hN6.rs.cell 0
    have f8 : W6.frozen? ⟨w.heap.size + 1 + 1, 0, none⟩ = false := hN6.rs.frozen 0
    have hsz6 : w.heap.size + 1 + 1 < W6.heap.size := hN6.rs.lt
    clear hN6 hg6 c6
    rcases hnear with ⟨rfl, hnone⟩ | ⟨i, r, rfl, hi, hMi, hmin⟩
    · have HB : Hid (BackIs xs u (0, false)) := no_way HO.out HDK.out HALL.out (fun j r hj => hnone j r hj)
      clear hnone
      gi_wp2_with fail
      exact marks_ret (B := w.heap.size + 3) (D :: Ds) _ HN6.out.apart HN6.out.marks fun W' hW' => ⟨_, results_tmp2 rfl _ _ _, ⟨_, rfl, HB.out⟩, hW'.grown HN6.out.step (by omega)⟩
    · by_cases hiu : i = u
      · subst hiu
        have HB : Hid (BackIs xs i (r, true)) := back_found HO.out HDK.out HALL.out hMi hmin
        have hl6 := HN6.out.map.get (i := i) (by omega)
        rw [hMi] at hl6
        simp only [wayV] at hl6
        clear hMi hmin
        gi_wp2_with fail
        exact marks_ret (B := w.heap.size + 3) (D :: Ds) _ HN6.out.apart HN6.out.marks fun W' hW' => ⟨_, results_tmp2 rfl _ _ _, ⟨_, rfl, HB.out⟩, hW'.grown HN6.out.step (by omega)⟩
      · obtain ⟨hnx, hc1⟩ := next_left HO.out HDK.out HALL.out hMi hmin hiu
        have HNX := Lib.hid hnx
        obtain ⟨hil, ⟨k0, hk0, hw0⟩, _⟩ := HDK.out.ent _ _ _ hMi
        obtain ⟨y, hy⟩ := wk_act HO.out hk0 hw0
        have HY := Lib.hid hy
        have HI1 : Hid (i ≤ 1000) := show _ ≤ _ by omega
        have HM8 : Hid (m + 8 ≤ 1000000) := show _ ≤ _ by omega
        clear hw0 hk0 hy
        have hne : ((i : Int) == (u : Int)) = false := beq_eq_false_iff_ne.2 (by omega)
        have hl6 := HN6.out.map.get (i := i) (by omega)
        rw [hMi] at hl6
        simp only [wayV] at hl6
        have hl6d : (Instr.lookup 60 (.map (some w.heap.size)) (.int .i64 (i : Int)) false).run Try.prog W6.drew = .ok (.agg #[.int .i64 r, .bool false]) W6.drew := by
          have := (HN6.out.kept (only_drew (only_refl _ _))).map.get (i := i) (by omega)
          rw [hMi] at this
          exact this
        clear hMi hmin hnx
        gi_wp2_with fail
        refine wpIn_mono (Q := NoPanic _) ?_ (fun e a w h => NoPanic.imp e a w h)
        gi_region_with fail
        all_goals
          (refine NoPanic.normal ?_
           have hN7 : LS w M7 (m + 8) r (D :: Ds) (W6.setCell ⟨w.heap.size + 1 + 1, 0, none⟩ (.int .i64 r)).drew := (HN6.out.rise_ r).kept (only_drew (only_refl _ _))
           have HN7 := Lib.hid hN7
           have g6 : (W6.setCell ⟨w.heap.size + 1 + 1, 0, none⟩ (.int .i64 r)).drew.cell? ⟨w.heap.size + 1, 0, none⟩ = some (.map (some w.heap.size)) := hN7.box.cell 0
           have g8 : (W6.setCell ⟨w.heap.size + 1 + 1, 0, none⟩ (.int .i64 r)).drew.cell? ⟨w.heap.size + 1 + 1, 0, none⟩ = some (.int .i64 r) := hN7.rs.cell 0
           clear hN7 d6 d8 f8 hl6 hl6d
           generalize (W6.setCell ⟨w.heap.size + 1 + 1, 0, none⟩ (.int .i64 r)).drew = W7 at *
           gi_wp2_with (gi_at_mapUpdate; refine wpListIn_way_put _ rfl _ _ _ rfl rfl rfl rfl HN7.out.map HI1.out HM8.out ?_; intro W8 hM8 ht8; have HT8 := Lib.hid ht8; have HMP := Lib.hid hM8; clear ht8 hM8)
           exact ⟨⟨i, c + 1, m + 9, y, r, updM M7 i (r, true), D :: Ds, HNX.out, hc1, by omega, by simp [hDl], HY.out.1, HY.out.2, HN7.out.turn HT8.out HMP.out, frm_of rfl rfl rfl rfl rfl rfl rfl rfl rfl rfl rfl rfl rfl⟩, by show xs.length - (mark D :: Ds.map mark).length < xs.length - (Ds.map mark).length; simp; omega⟩)
  case stop =>
    rintro D c pre W5 hD hpre hne hF
    exact hF.elim
end Go.Proofs.Ytablbgfleopbfaa

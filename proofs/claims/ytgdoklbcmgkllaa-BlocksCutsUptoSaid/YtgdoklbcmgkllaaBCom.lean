/- blocks: comesBack. -/
import Derived.Test.YtgdoklbcmgkllaaBAst
import Derived.Test.YtgdoklbcmgkllaaBWay
import Derived.Test.YtgdoklbcmgkllaaBRnd
import Derived.Deep.RegionHeld3
namespace Go.Proofs.Ytgdoklbcmgkllaa
open Go.RowKit Go.Shelf
attribute [local go_sem] Oper.semAt_some

theorem wpListIn_make_bs {F : Fence} {m : Nat} {ops : Array Oper} {rest : List Oper} {o : Oper} {a : Act} {W : World} {Q : Exit → Act → World → Prop} (hgd : o.guard = none) (l c : Operand) (ho : o.op = .makeSlice 54 l c)
    {N : Int} {n : Nat} (hl : a.eval l = .int .i64 N) (hc : a.eval c = .int .i64 N) (hN : N = (n : Int)) (hn : n ≤ 1000)
    (h : ∀ W', Blk W' W.heap.size 4 (Array.replicate n (.bool false)) → W.grownBy W' none → W'.heap.size = W.heap.size + 1 → wpListIn F m Try.prog ops Q rest (a.put o.dst (.slice (some ⟨W.heap.size, 0, none⟩) n n)) W') : wpListIn F m Try.prog ops Q (o :: rest) a W := by
  obtain ⟨i0, hi, hz0, hz1, hz2⟩ := info_parts boolB_info
  refine wpListIn_plain hgd fun K hK => ?_
  have hr := run_make (P := Try.prog) W 54 4 i0 _ Try.underlying54 hi hz0 .i64 .i64 (n : Int) (n : Int) (by omega) (Int.le_refl _) (by rw [hz2]; omega) (by omega)
  simp only [Int.toNat_natCast] at hr
  subst hN
  unfold Oper.wpIn
  refine ⟨by simp [Oper.about, ho], ?_⟩
  rw [Oper.semAt_plain F _ _ (by rw [ho]; intro c hc'; cases hc')]
  simp [execOp, ho, hl, hc, hr, Result.andThen]
  refine hK _ _ (h _ ?_ (World.grownBy_alloc W _ none) (by simp))
  rw [hz1, made_oneB _ rfl]
  exact Blk.new _ _ _

theorem wpIn_scope_ws {n : Nat} {P : Program} {c : Code} {Q : Exit → Act → World → Prop} {a : Act} {w : World} (h : c.wpIn Fence.wide n P (Exit.noGoto Q) a w) : (Code.scope c).wpIn Fence.wide n P Q a w :=
  wpIn_wide.2 (wp_scope_straight (wpIn_wide.1 h))
/-- What stands as it is looked for a way back: boxes, the row of those that were passed, the way, marks of the rounds that are over. -/
structure SS (w : World) (v : Value) (i n : Nat) (r : Bool) (T : List Int) (seen : List Bool) (A : Option Addr) (c : Nat) (Ds : List Nat) (W : World) : Prop where
  step : w.grownBy W none
  bc : Blk W w.heap.size 22 #[v]
  bi : Blk W (w.heap.size + 1) 3 #[.int .i64 (i : Int)]
  br : Blk W (w.heap.size + 2) 4 #[.bool r]
  bg : Blk W (w.heap.size + 3) 4 (bsV seen)
  bp : Blk W (w.heap.size + 4) 54 #[.slice (some ⟨w.heap.size + 3, 0, none⟩) n n]
  bw : Blk W (w.heap.size + 6) 24 #[.slice A T.length c]
  ow : BOwn (w.heap.size + 5) W (.slice A T.length c) T
  apart : Ds.Nodup
  marks : ∀ D ∈ Ds, w.heap.size + 7 ≤ D ∧ W.heap[D]? = some (.deferred (some []))
section
variable {w X Y W : World} {v : Value} {i n : Nat} {r : Bool} {T T' : List Int} {seen : List Bool} {A A' : Option Addr} {c c' : Nat} {Ds : List Nat}
theorem SS.lt (h : SS w v i n r T seen A c Ds W) : ∀ D ∈ Ds, D < W.heap.size := fun D hm => (Array.getElem?_eq_some_iff.1 (h.marks D hm).2).1
theorem bown_ownF {row : Option Nat} {B b : Nat} {v : Value} {zs : List Int} (h : BOwn b X v zs) (hg : X.grownBy Y row) (hr : ∀ r, row = some r → B ≤ r ∧ ∃ o : Obj, X.heap[r]? = some o ∧ o.isCells = false) : BOwn b Y v zs := h.kept hg (by
  cases e : v.ownBlock with
  | none => exact .inl rfl
  | some g =>
    refine .inr fun e' => ?_
    obtain ⟨_, cs', hb'⟩ := own_rowB h _ e
    obtain ⟨_, o, ho, hc⟩ := hr g e'.symm
    unfold Blk at hb'
    rw [hb'] at ho
    cases ho
    cases hc)
theorem SS.own {B : Nat} {row : Option Nat} (h : SS w v i n r T seen A c Ds X) (hw : w.heap.size + 6 < B) (hD : ∀ D ∈ Ds, D < B) (hg : X.grownBy Y row) (hr : ∀ r, row = some r → B ≤ r ∧ ∃ o : Obj, X.heap[r]? = some o ∧ o.isCells = false) : SS w v i n r T seen A c Ds Y :=
  ⟨grown_ownFB h.step (by omega) hg hr, blk_ownFB h.bc hg hr, blk_ownFB h.bi hg hr, blk_ownFB h.br hg hr, blk_ownFB h.bg hg hr, blk_ownFB h.bp hg hr, blk_ownFB h.bw hg hr, bown_ownF h.ow hg hr, h.apart, fun D hm => ⟨(h.marks D hm).1, (hg.block D (h.lt D hm) (fun e => by have := (hr D e.symm).1; have := hD D hm; omega)).trans (h.marks D hm).2⟩⟩
theorem SS.kept (h : SS w v i n r T seen A c Ds X) (hg : X.grownBy Y none) : SS w v i n r T seen A c Ds Y := h.own (B := X.heap.size) h.bw.lt h.lt hg (fun _ e => by cases e)
theorem SS.mark {D : Nat} (h : SS w v i n r T seen A c Ds W) (hD : ∀ D' ∈ Ds, D' < D) (hw : w.heap.size + 6 < D) (hK : W.heap[D]? = some (.deferred (some []))) : SS w v i n r T seen A c (D :: Ds) W :=
  ⟨h.step, h.bc, h.bi, h.br, h.bg, h.bp, h.bw, h.ow, List.nodup_cons.2 ⟨fun hm => by have := hD D hm; omega, h.apart⟩, fun D' hm => by
    rcases List.mem_cons.1 hm with rfl | hm
    · exact ⟨by omega, hK⟩
    · exact h.marks D' hm⟩
theorem SS.ne_own (h : SS w v i n r T seen A c Ds W) {k : Nat} {t : TypeId} {cs : Array Value} (hb : Blk W k t cs) (hk : k < w.heap.size + 5 ∨ t ≠ 3) : some k ≠ (Value.slice A T.length c).ownBlock := fun e => by
  obtain ⟨h1, cs', hb'⟩ := own_rowB h.ow k e.symm
  rcases hk with hk | hk
  · omega
  · exact Blk.ne_ hb hb' hk rfl
theorem SS.answer (h : SS w v i n r T seen A c Ds W) (r' : Bool) : SS w v i n r' T seen A c Ds (W.setCell ⟨w.heap.size + 2, 0, none⟩ (.bool r')) :=
  have ho : BOwn (w.heap.size + 5) (W.setCell ⟨w.heap.size + 2, 0, none⟩ (.bool r')) (.slice A T.length c) T := h.ow.kept (only_setCell (p := ⟨w.heap.size + 2, 0, none⟩) (only_refl _ _) rfl _) (.inr (fun e => h.ne_own h.br (.inl (by omega)) e.symm))
  ⟨only_setNew h.step (by show w.heap.size ≤ w.heap.size + 2; omega) _, h.bc.far (p := ⟨w.heap.size + 2, 0, none⟩) (by show w.heap.size ≠ w.heap.size + 2; omega) _, h.bi.far (p := ⟨w.heap.size + 2, 0, none⟩) (by show w.heap.size + 1 ≠ w.heap.size + 2; omega) _, h.br.set_ 0 _,
    h.bg.far (p := ⟨w.heap.size + 2, 0, none⟩) (by show w.heap.size + 3 ≠ w.heap.size + 2; omega) _, h.bp.far (p := ⟨w.heap.size + 2, 0, none⟩) (by show w.heap.size + 4 ≠ w.heap.size + 2; omega) _, h.bw.far (p := ⟨w.heap.size + 2, 0, none⟩) (by show w.heap.size + 6 ≠ w.heap.size + 2; omega) _, ho, h.apart,
    fun D hm => ⟨(h.marks D hm).1, (KeepsOthers.setCell W ⟨w.heap.size + 2, 0, none⟩ (.bool r')).same D _ (h.marks D hm).2 rfl⟩⟩
theorem SS.pass (h : SS w v i n r T seen A c Ds W) (t : Nat) : SS w v i n r T (seen.set t true) A c Ds (W.setCell ⟨w.heap.size + 3, t, none⟩ (.bool true)) :=
  have ho : BOwn (w.heap.size + 5) (W.setCell ⟨w.heap.size + 3, t, none⟩ (.bool true)) (.slice A T.length c) T := h.ow.kept (only_setCell (p := ⟨w.heap.size + 3, t, none⟩) (only_refl _ _) rfl _) (.inr (fun e => h.ne_own h.bg (.inl (by omega)) e.symm))
  ⟨only_setNew h.step (by show w.heap.size ≤ w.heap.size + 3; omega) _, h.bc.far (p := ⟨w.heap.size + 3, t, none⟩) (by show w.heap.size ≠ w.heap.size + 3; omega) _, h.bi.far (p := ⟨w.heap.size + 3, t, none⟩) (by show w.heap.size + 1 ≠ w.heap.size + 3; omega) _, h.br.far (p := ⟨w.heap.size + 3, t, none⟩) (by show w.heap.size + 2 ≠ w.heap.size + 3; omega) _,
    by rw [← bsV_set]; exact h.bg.set_ t _, h.bp.far (p := ⟨w.heap.size + 3, t, none⟩) (by show w.heap.size + 4 ≠ w.heap.size + 3; omega) _, h.bw.far (p := ⟨w.heap.size + 3, t, none⟩) (by show w.heap.size + 6 ≠ w.heap.size + 3; omega) _, ho, h.apart,
    fun D hm => ⟨(h.marks D hm).1, (KeepsOthers.setCell W ⟨w.heap.size + 3, t, none⟩ (.bool true)).same D _ (h.marks D hm).2 rfl⟩⟩
theorem SS.others (h : SS w v i n r T seen A c Ds X) (hg : X.grownBy Y (Value.slice A T.length c).ownBlock) : KeepsOthers X Y := KeepsOthers.of_grownBy hg fun j o e ho => by
  obtain ⟨_, cs', hb'⟩ := own_rowB h.ow j e
  unfold Blk at hb'
  rw [hb'] at ho
  cases ho
  rfl
theorem SS.way (h : SS w v i n r T seen A c Ds X) (hg : X.grownBy Y (Value.slice A T.length c).ownBlock) (ho : BOwn (w.heap.size + 5) Y (.slice A' T'.length c') T') : SS w v i n r T' seen A' c' Ds (Y.setCell ⟨w.heap.size + 6, 0, none⟩ (.slice A' T'.length c')) := by
  have b6 : Blk Y (w.heap.size + 6) 24 #[.slice A T.length c] := h.bw.grown hg (h.ne_own h.bw (.inr (by decide)))
  have g1 : w.grownBy Y none := grown_ownB h.step (fun g e => by have := (World.ownsRow.lt h.ow g e).1; omega) hg
  have ho2 : BOwn (w.heap.size + 5) (Y.setCell ⟨w.heap.size + 6, 0, none⟩ (.slice A' T'.length c')) (.slice A' T'.length c') T' := ho.kept (only_setCell (p := ⟨w.heap.size + 6, 0, none⟩) (only_refl _ _) rfl _) (.inr (fun e => by
    obtain ⟨_, cs', hb'⟩ := own_rowB ho (w.heap.size + 6) e
    exact Blk.ne_ b6 hb' (by decide) rfl))
  have e1 : ∀ {k : Nat} {t : TypeId} {cs : Array Value}, Blk X k t cs → k < w.heap.size + 5 → Blk (Y.setCell ⟨w.heap.size + 6, 0, none⟩ (.slice A' T'.length c')) k t cs := fun {k t cs} hb hk => (hb.grown hg (h.ne_own hb (.inl hk))).far (p := ⟨w.heap.size + 6, 0, none⟩) (by show k ≠ w.heap.size + 6; omega) _
  exact ⟨only_setNew g1 (by show w.heap.size ≤ w.heap.size + 6; omega) _, e1 h.bc (by omega), e1 h.bi (by omega), e1 h.br (by omega), e1 h.bg (by omega), e1 h.bp (by omega), b6.set_ 0 _, ho2, h.apart,
    fun D hm => ⟨(h.marks D hm).1, ((h.others hg).trans (KeepsOthers.setCell Y ⟨w.heap.size + 6, 0, none⟩ _)).same D _ (h.marks D hm).2 rfl⟩⟩
theorem ss_results {tmps : Array Value} (h4 : tmps.getD 4 undef = .pointer (some ⟨w.heap.size + 2, 0, none⟩)) (hb : Blk W (w.heap.size + 2) 4 #[.bool r]) :
    (results Try.f25 tmps).run Try.prog W = .ok (.bool r) W := by
  have h4' : tmps[4]?.getD undef = .pointer (some ⟨w.heap.size + 2, 0, none⟩) := by simpa using h4
  have c1 := hb.cell 0
  simp [results, Try.results25, h4', go_sem, c1]
theorem ss_out {F : Fence} {m : Nat} {tmps : Array Value} {R : Ending → World → Prop} (h4 : tmps.getD 4 undef = .pointer (some ⟨w.heap.size + 2, 0, none⟩)) (h : SS w v i n r T seen A c Ds W)
    (hR : ∀ W', w.grownBy W' none → R (.returned (.bool r)) W') : bodyPostM F m Try.prog Try.f25 R .ret { tmps := tmps, defers := Ds.map mark } W :=
  marks_ret (B := w.heap.size + 7) Ds W h.apart h.marks fun W' hW' => ⟨_, ss_results h4 (h.br.keeps hW'.2), hR W' (hW'.grown h.step (by omega))⟩
/-- What is left to do. -/
def leftS (W : World) (B n : Nat) : Nat := 2 * (seenOf W (B + 3) n).count false + (match W.cell? ⟨B + 6, 0, none⟩ with
  | some (.slice _ m _) => m
  | _ => 0)
theorem SS.left (h : SS w v i n r T seen A c Ds W) (hl : seen.length = n) : leftS W w.heap.size n = 2 * seen.count false + T.length := by
  unfold leftS
  rw [seenOf_is h.bg hl, h.bw.cell 0]
  rfl
end
set_option maxRecDepth 100000 in
set_option maxHeartbeats 4000000 in
theorem comesBack_any (cs : List Bi) (v : Value) (i : Nat) (w : World) (hi : i < cs.length) (hC : CodeA w v cs) (hl : ∀ x ∈ cs, x.2.length ≤ 1048576) (hn : cs.length ≤ 128) (hj : ∀ i x, cs[i]? = some x → jumpX cs.length i x = true) (hq : quietN cs i = true) : Calls Try.prog 25 #[v, .int .i64 (i : Int)] w fun e w' => e = .returned (.bool (roundB cs i)) ∧ w.grownBy w' none := by
  refine (callsIn_wide (n := 3)).1 ?_
  refine callsIn_of_wp_marks Try.func25 rfl trivial ?_ rfl
  simp only [Try.ntmps25, List.size_toArray, List.length_cons, List.length_nil, Nat.reduceAdd, Nat.reduceSub, Array.replicate_succ, Array.replicate_zero, List.push_toArray, List.append_toArray, List.nil_append, List.cons_append]
  obtain ⟨A, cp, rfl, _⟩ := id hC
  have HC := Lib.hid hC
  have HL := Lib.hid hl
  have HN := Lib.hid hn
  have HJ := Lib.hid hj
  have HQ := Lib.hid hq
  have hnI : (cs.length : Int) ≤ 128 := by omega
  clear hC hl hn hj hq
  have HA1 : Hid (w.grownBy (((w.alloc (.cells #[.slice A cs.length cp] 22)).alloc (.cells #[.int .i64 (i : Int)] 3)).alloc (.cells #[.bool false] 4)) none ∧ Blk (((w.alloc (.cells #[.slice A cs.length cp] 22)).alloc (.cells #[.int .i64 (i : Int)] 3)).alloc (.cells #[.bool false] 4)) w.heap.size 22 #[.slice A cs.length cp] ∧ Blk (((w.alloc (.cells #[.slice A cs.length cp] 22)).alloc (.cells #[.int .i64 (i : Int)] 3)).alloc (.cells #[.bool false] 4)) (w.heap.size + 1) 3 #[.int .i64 (i : Int)] ∧ Blk (((w.alloc (.cells #[.slice A cs.length cp] 22)).alloc (.cells #[.int .i64 (i : Int)] 3)).alloc (.cells #[.bool false] 4)) (w.heap.size + 2) 4 #[.bool false]) :=
    ⟨only_alloc (only_alloc (only_alloc (only_refl _ _) _) _) _, ((Blk.new w _ _).alloc _).alloc _, (blk_atB (by simp) _ _).alloc _, blk_atB (by simp) _ _⟩
  gi_wp2_with fail
  refine wpIn_scope_ws ?_
  gi_wp2_with (gi_at_make; go_loud (refine wpListIn_make_bs rfl (.tmp 9) (.tmp 9) rfl rfl rfl (n := cs.length) rfl (by have := HN.out; omega) ?_; intro W3 hb3 hg3 hs3; rw [bsV_false] at hb3; have hb4 : Blk W3 (w.heap.size + 3) 4 (bsV (List.replicate cs.length false)) := (by simpa using hb3); have HB3 := Lib.hid hb4; have HG3 := Lib.hid hg3; have q1 : W3.cell? ⟨w.heap.size + 1, 0, none⟩ = some (.int .i64 (i : Int)) := (HA1.out.2.2.1.kept hg3).cell 0; have hs4 : W3.heap.size = w.heap.size + 4 := (by rw [hs3]; simp); have hs5 := cell_ltB q1; clear hb3 hb4 hg3 hs3))
  refine wpIn_label ?_
  gi_wp2_with fail
  have hgq : W3.grownBy (((W3.alloc (.cells #[.slice (some ⟨w.heap.size + 3, 0, none⟩) cs.length cs.length] 54)).alloc (.cells #[.int .i64 (i : Int)] 3)).alloc (.cells #[.slice (some ⟨w.heap.size + 5, 0, none⟩) 1 1] 24)) none := only_alloc (only_alloc (only_alloc (only_refl _ _) _) _) _
  have h3 := HA1.out
  have hw5 : Blk (W3.alloc (.cells #[.slice (some ⟨w.heap.size + 3, 0, none⟩) cs.length cs.length] 54)) (w.heap.size + 4) 54 #[.slice (some ⟨w.heap.size + 3, 0, none⟩) cs.length cs.length] := blk_atB hs4 _ _
  have hb5 : Blk (((W3.alloc (.cells #[.slice (some ⟨w.heap.size + 3, 0, none⟩) cs.length cs.length] 54)).alloc (.cells #[.int .i64 (i : Int)] 3)).alloc (.cells #[.slice (some ⟨w.heap.size + 5, 0, none⟩) 1 1] 24)) (w.heap.size + 5) 3 #[.int .i64 (i : Int)] := (blk_atB (by simp; omega) _ _).alloc _
  have hF0 : SS w (.slice A cs.length cp) i cs.length false [(i : Int)] (List.replicate cs.length false) (some ⟨w.heap.size + 5, 0, none⟩) 1 [] (((W3.alloc (.cells #[.slice (some ⟨w.heap.size + 3, 0, none⟩) cs.length cs.length] 54)).alloc (.cells #[.int .i64 (i : Int)] 3)).alloc (.cells #[.slice (some ⟨w.heap.size + 5, 0, none⟩) 1 1] 24)) :=
    ⟨only_trans (only_trans h3.1 HG3.out) hgq, (h3.2.1.kept HG3.out).kept hgq, (h3.2.2.1.kept HG3.out).kept hgq, (h3.2.2.2.kept HG3.out).kept hgq, HB3.out.kept hgq, (hw5.alloc _).alloc _, blk_atB (by simp; omega) _ _,
      ⟨rfl, .inr ⟨w.heap.size + 5, 1, #[.int .i64 (i : Int)], rfl, Nat.le_refl _, hb5, Nat.le_refl _, by decide, rfl, rfl⟩⟩, List.nodup_nil, fun D h => by cases h⟩
  clear h3 hw5 hb5 hgq HB3 HG3 q1 hs4 hs5 HA1
  refine wpIn_loop (fun a' W => ∃ (T : List Int) (seen : List Bool) (Aw : Option Addr) (cw : Nat) (Ds : List Nat) (u7 u13 u14 u15 u16 u17 u18 u19 u20 u21 u22 u23 u24 u25 u26 u27 u28 u29 u30 u31 u32 u33 u34 u35 u36 u37 u38 u39 u40 u41 u42 u43 u44 u45 u46 u47 u48 u49 u50 u51 u52 u53 : Value), T.length ≤ 300 ∧ 2 * seen.count false + T.length ≤ 2 * cs.length + 1 ∧ Wy cs i T seen ∧ SS w (.slice A cs.length cp) i cs.length false T seen Aw cw Ds W ∧ a' = { tmps := #[.slice A cs.length cp, .int .i64 (i : Int), .pointer (some ⟨w.heap.size, 0, none⟩), .pointer (some ⟨w.heap.size + 1, 0, none⟩), .pointer (some ⟨w.heap.size + 2, 0, none⟩), .pointer (some ⟨w.heap.size + 4, 0, none⟩), .pointer (some ⟨w.heap.size + 6, 0, none⟩), u7, .slice A cs.length cp, .int .i64 (cs.length : Int), .slice (some ⟨w.heap.size + 3, 0, none⟩) cs.length cs.length, .int .i64 (i : Int), .slice (some ⟨w.heap.size + 5, 0, none⟩) 1 1, u13, u14, u15, u16, u17, u18, u19, u20, u21, u22, u23, u24, u25, u26, u27, u28, u29, u30, u31, u32, u33, u34, u35, u36, u37, u38, u39, u40, u41, u42, u43, u44, u45, u46, u47, u48, u49, u50, u51, u52, u53], defers := Ds.map mark }) (fun _ W => leftS W w.heap.size cs.length)
    ⟨_, _, _, _, [], undef, undef, undef, undef, undef, undef, undef, undef, undef, undef, undef, undef, undef, undef, undef, undef, undef, undef, undef, undef, undef, undef, undef, undef, undef, undef, undef, undef, undef, undef, undef, undef, undef, undef, undef, undef, undef, undef, undef, undef, undef, undef, by simp, by simp, Wy.start hi HQ.out, hF0, rfl⟩ ?_
  clear hF0
  rintro a' W ⟨T, seen, Aw, cw, Ds, u7, u13, u14, u15, u16, u17, u18, u19, u20, u21, u22, u23, u24, u25, u26, u27, u28, u29, u30, u31, u32, u33, u34, u35, u36, u37, u38, u39, u40, u41, u42, u43, u44, u45, u46, u47, u48, u49, u50, u51, u52, u53, hT2, hm2, hwy, hI, rfl⟩
  have HM := Lib.hid hm2
  have HWY := Lib.hid hwy
  have HI := Lib.hid hI
  have z1 : W.cell? ⟨w.heap.size + 6, 0, none⟩ = some (.slice Aw T.length cw) := hI.bw.cell 0
  have z2 : W.cell? ⟨w.heap.size, 0, none⟩ = some (.slice A cs.length cp) := hI.bc.cell 0
  have hbl6 := hI.bw.lt
  have hLS := Lib.hid (hI.left hwy.len)
  rcases List.eq_nil_or_concat T with rfl | ⟨T', u, rfl⟩
  · have HO := Lib.hid hwy.done
    have f1 : W.frozen? ⟨w.heap.size + 2, 0, none⟩ = false := hI.br.frozen 0
    have d1 : W.cell? ⟨w.heap.size + 2, 0, none⟩ = some (.bool false) := hI.br.cell 0
    clear hm2 hwy hI
    gi_wp2_with fail
    exact ss_out rfl (HI.out.answer _) fun W' hW' => ⟨by rw [HO.out], hW'⟩
  · rw [List.concat_eq_append] at *
    have hTl : (T' ++ [u]).length = T'.length + 1 := by simp
    obtain ⟨uk, rfl, hul, huq, hup⟩ := hwy.top
    have HUQ := Lib.hid huq
    have HUP := Lib.hid hup
    obtain ⟨g, rfl, hgb, hgn, hgc⟩ := hI.ow.some_ (by simp)
    have g0 : W.cell? ⟨g, T'.length, none⟩ = some (.int .i64 (uk : Int)) := by
      have := World.ownsRow.cells hI.ow (g := g) rfl T'.length (.int .i64 (uk : Int)) (by unfold zsV; simp)
      rwa [addr_B, Nat.zero_add] at this
    rw [hTl] at z1 hgn hT2
    have hlt2 : (T'.length : Int) + 1 ≤ 300 := by omega
    have hgI : (T'.length : Int) + 1 ≤ (cw : Int) := by omega
    have hT0 : (0 : Int) ≤ (T'.length : Int) := by omega
    have hT1 : T'.length < T'.length + 1 := by omega
    have hT3 : IntKind.i64.wrap (T'.length : Int) = (T'.length : Int) := IntWalk.i64_in _ (by omega)
    clear hm2 hwy hI huq hup hTl
    gi_upto_region 4 with fail
    refine wpIn_mono (Q := fun e a W' => e = .normal ∧ a = { tmps := #[.slice A cs.length cp, .int .i64 (i : Int), .pointer (some ⟨w.heap.size, 0, none⟩), .pointer (some ⟨w.heap.size + 1, 0, none⟩), .pointer (some ⟨w.heap.size + 2, 0, none⟩), .pointer (some ⟨w.heap.size + 4, 0, none⟩), .pointer (some ⟨w.heap.size + 6, 0, none⟩), u7, .slice A cs.length cp, .int .i64 (cs.length : Int), .slice (some ⟨w.heap.size + 3, 0, none⟩) cs.length cs.length, .int .i64 (i : Int), .slice (some ⟨w.heap.size + 5, 0, none⟩) 1 1, .slice (some ⟨g, 0, none⟩) (T'.length + 1) cw, .int .i64 ((T'.length : Int) + 1), .bool true, .slice A cs.length cp, .slice (some ⟨g, 0, none⟩) (T'.length + 1) cw, .slice (some ⟨g, 0, none⟩) (T'.length + 1) cw, .int .i64 ((T'.length : Int) + 1), .int .i64 (T'.length : Int), .pointer (some ⟨g, T'.length, none⟩), .int .i64 (uk : Int), .func (.func 32) #[] #[.pointer (some ⟨W.heap.size, 0, none⟩), .pointer (some ⟨W.heap.size + 1, 0, none⟩)], u24, u25, u26, u27, u28, u29, u30, u31, u32, u33, u34, u35, u36, u37, u38, u39, u40, u41, u42, u43, u44, u45, u46, u47, u48, u49, u50, u51, u52, u53], defers := Ds.map mark } ∧ W' = ((W.alloc (.cells #[.slice A cs.length cp] 22)).alloc (.cells #[.int .i64 (uk : Int)] 3)).drew) ?_ ?_
    · refine wpIn_mono (Q := NoPanic _) ?_ (fun e a w h => NoPanic.imp e a w h)
      gi_region_with (first | (refine ⟨trivial, ?_⟩; gi_at_call 19; go_must (refine (callsIn_wide.2 (blGoes_fn A cs.length cp (uk : Int) _)).mono ?_; rintro e W4 ⟨rfl, rfl⟩)))
      all_goals exact NoPanic.normal ⟨rfl, rfl, rfl⟩
    rintro e a W4 ⟨rfl, rfl, hW4⟩
    have hg4 : W.grownBy W4 none := by rw [hW4]; exact only_drew (only_alloc (only_alloc (only_refl _ _) _) _)
    have hf4 := HI.out.kept hg4
    have hgb : GoB W.heap.size (W.heap.size + 1) (.slice A cs.length cp) cs uk w W4 := ⟨HC.out, hf4.step, by rw [hW4]; exact ((Blk.new W _ _).alloc _).kept (only_drew (only_refl _ _)), by rw [hW4]; exact (blk_atB (by simp) _ _).kept (only_drew (only_refl _ _))⟩
    clear hg4 hW4 z1 z2 g0
    gi_wp2_with fail
    generalize hBc : W.heap.size = Bc at *
    generalize hBn : Bc + 1 = Bn at *
    have hDs := hf4.lt
    have hcl := hgb.bc.lt
    have hbl2 := hgb.bi.lt
    have hwl := hf4.bw.lt
    have hlen := HWY.out.len
    refine wpIn_rangeFunc_toldP rfl (by omega) (gf := 32) (lb := #[.pointer (some ⟨Bc, 0, none⟩), .pointer (some ⟨Bn, 0, none⟩)]) rfl trivial (enters_of Try.func32 (by kernel_rfl) rfl)
      (goes_told (fun k => k < W4.heap.size) [] (by simp) Bc Bn cs (.slice A cs.length cp) uk w hul HL.out (by have := HN.out; omega)) KS.trans (fun W l o o' hl ho hc => KS.putObj W l o o' (by omega) ho hc) (fun _ => rfl) ?t0
      (fun pre W7 => SS w (.slice A cs.length cp) i cs.length false (T' ++ [(uk : Int)]) seen (some ⟨g, 0, none⟩) cw Ds W7 ∧ ∀ t ∈ pre, t ≠ (i : Int) ∧ (seen[t.toNat]? = some true ∨ quietN cs t.toNat = false))
      (fun c _ W7 => (c = .ret ∧ roundB cs i = true ∧ SS w (.slice A cs.length cp) i cs.length true (T' ++ [(uk : Int)]) seen (some ⟨g, 0, none⟩) cw Ds W7) ∨
        (c = .exit 1 ∧ ∃ t : Nat, t < cs.length ∧ seen[t]? = some false ∧ Wy cs i (T' ++ [(uk : Int), (t : Int)]) (seen.set t true) ∧ ∃ (A7 : Option Addr) (c7 : Nat), SS w (.slice A cs.length cp) i cs.length false (T' ++ [(uk : Int), (t : Int)]) (seen.set t true) A7 c7 Ds W7))
      (fun s X Y row h hg hr => ⟨h.1.own hwl hDs hg hr, h.2⟩) (fun c s X Y row h hg hr => h.imp (fun h => ⟨h.1, h.2.1, h.2.2.own hwl hDs hg hr⟩) (fun ⟨h1, t, h2, h3, h4, A7, c7, h5⟩ => ⟨h1, t, h2, h3, h4, A7, c7, h5.own hwl hDs hg hr⟩)) ⟨hf4, fun t ht => by cases ht⟩
      (fun t => { tmps := #[.slice A cs.length cp, .int .i64 (i : Int), .pointer (some ⟨w.heap.size, 0, none⟩), .pointer (some ⟨w.heap.size + 1, 0, none⟩), .pointer (some ⟨w.heap.size + 2, 0, none⟩), .pointer (some ⟨w.heap.size + 4, 0, none⟩), .pointer (some ⟨w.heap.size + 6, 0, none⟩), .int .i64 t, .slice A cs.length cp, .int .i64 (cs.length : Int), .slice (some ⟨w.heap.size + 3, 0, none⟩) cs.length cs.length, .int .i64 (i : Int), .slice (some ⟨w.heap.size + 5, 0, none⟩) 1 1, .slice (some ⟨g, 0, none⟩) (T'.length + 1) cw, .int .i64 ((T'.length : Int) + 1), .bool true, .slice A cs.length cp, .slice (some ⟨g, 0, none⟩) (T'.length + 1) cw, .slice (some ⟨g, 0, none⟩) (T'.length + 1) cw, .int .i64 ((T'.length : Int) + 1), .int .i64 (T'.length : Int), .pointer (some ⟨g, T'.length, none⟩), .int .i64 (uk : Int), .func (.func 32) #[] #[.pointer (some ⟨Bc, 0, none⟩), .pointer (some ⟨Bn, 0, none⟩)], .int .i64 t, u25, u26, u27, u28, u29, u30, u31, u32, u33, u34, u35, u36, u37, u38, u39, u40, u41, u42, u43, u44, u45, u46, u47, u48, u49, u50, u51, u52, u53], defers := [] }) ?assign ?body ?done ?stop
    case t0 =>
      intro W5 hW
      have hg := below_only hW (only_refl W4 none) (Nat.le_refl _)
      exact ⟨fun k hk => Nat.lt_of_lt_of_le hk hgb.gr.size, hcl, hbl2, hgb.cd, only_trans hgb.gr hg, hgb.bc.kept hg, hgb.bi.kept hg⟩
    case assign =>
      intro l q W3 K hK
      gi_wp2
      exact hK
    case body =>
      rintro l9 pre t W5 hpre hsz ⟨h1, h2⟩
      have htg : t ∈ goesN cs uk := hpre.subset (by simp)
      obtain ⟨t0, t1⟩ := goes_lt HJ.out htg
      obtain ⟨tn, rfl⟩ : ∃ tn : Nat, t = (tn : Int) := ⟨t.toNat, by omega⟩
      have htl : tn < cs.length := by omega
      have d1 : W5.cell? ⟨w.heap.size, 0, none⟩ = some (.slice A cs.length cp) := h1.bc.cell 0
      have d2 : W5.cell? ⟨w.heap.size + 1, 0, none⟩ = some (.int .i64 (i : Int)) := h1.bi.cell 0
      have d3 : W5.cell? ⟨w.heap.size + 2, 0, none⟩ = some (.bool false) := h1.br.cell 0
      have f3 : W5.frozen? ⟨w.heap.size + 2, 0, none⟩ = false := h1.br.frozen 0
      have d5 : W5.cell? ⟨w.heap.size + 4, 0, none⟩ = some (.slice (some ⟨w.heap.size + 3, 0, none⟩) cs.length cs.length) := h1.bp.cell 0
      have d6 : W5.cell? ⟨w.heap.size + 6, 0, none⟩ = some (.slice (some ⟨g, 0, none⟩) (T' ++ [(uk : Int)]).length cw) := h1.bw.cell 0
      obtain ⟨sb, hsb⟩ : ∃ sb, seen[tn]? = some sb := ⟨_, List.getElem?_eq_getElem (by rw [hlen]; exact htl)⟩
      have s0 : W5.cell? ⟨w.heap.size + 3, tn, none⟩ = some (.bool sb) := by rw [h1.bg.cell tn, bsV_at hsb]
      have hl6 := cell_ltB d6
      have HI1 := Lib.hid h1
      have HI2 := Lib.hid h2
      have HTG := Lib.hid htg
      have HSB := Lib.hid hsb
      have HT0 := Lib.hid t0
      clear h1 h2 hpre htg hsb
      by_cases hti : tn = i
      · subst hti
        have HO : Hid (roundB cs tn = true) := Lib.hid (Wy.found HJ.out HUQ.out HUP.out HTG.out)
        clear d1 d5 d6 s0
        gi_wp2_with fail
        exact ⟨(KeepsOthers.setCell _ _ _).from _, .inl ⟨rfl, HO.out, HI1.out.answer true⟩⟩
      have hne : ((tn : Int) == (i : Int)) = false := by simp; omega
      have HNE : Hid (tn ≠ i) := hti
      clear hti d3 f3
      obtain ⟨x, hx⟩ : ∃ x, cs[tn]? = some x := ⟨_, List.getElem?_eq_getElem htl⟩
      obtain ⟨b, off, a2', b2', c2', d2', A3', cp3', rfl, _, _, m0, _⟩ := code_at (HC.out.kept HI1.out.step) hx
      have HX := Lib.hid hx
      clear hx
      obtain ⟨opx, lx⟩ := x
      dsimp only at m0
      obtain ⟨tb, htb⟩ : ∃ tb, talkB opx = tb := ⟨_, rfl⟩
      have hta := fun w => blTalks_any opx w
      rw [htb] at hta
      have HQT : Hid (quietN cs tn = !tb) := Lib.hid (by unfold quietN; rw [HX.out, ← htb])
      clear htb
      cases sb with
      | true =>
        have HA2 : Hid (∀ t ∈ pre ++ [(tn : Int)], t ≠ (i : Int) ∧ (seen[t.toNat]? = some true ∨ quietN cs t.toNat = false)) := Lib.hid fun t ht => by
          rcases List.mem_append.1 ht with h | h
          · exact HI2.out t h
          · obtain rfl := List.mem_singleton.1 h
            exact ⟨by have := HNE.out; omega, .inl (by rw [Int.toNat_natCast]; exact HSB.out)⟩
        clear hta m0 d6
        gi_wp2_with fail
        refine ⟨trivial, ?_⟩
        gi_wp2_with fail
        exact ⟨KeepsFrom.refl _ _, .refl _, HI1.out, HA2.out⟩
      | false =>
        cases tb with
        | true =>
          have HA2 : Hid (∀ t ∈ pre ++ [(tn : Int)], t ≠ (i : Int) ∧ (seen[t.toNat]? = some true ∨ quietN cs t.toNat = false)) := Lib.hid fun t ht => by
            rcases List.mem_append.1 ht with h | h
            · exact HI2.out t h
            · obtain rfl := List.mem_singleton.1 h
              exact ⟨by have := HNE.out; omega, .inr (by rw [Int.toNat_natCast]; exact HQT.out)⟩
          clear d6
          gi_wp2_with (refine ⟨trivial, ?_⟩; gi_at_call 17; go_must (refine (callsIn_wide.2 (hta _)).mono ?_; rintro e W6 ⟨rfl, hg6⟩; have HF6 := Lib.hid (HI1.out.kept hg6); have HG6 := Lib.hid hg6; clear hg6))
          exact ⟨only_keepsFrom HG6.out _, KS.grown HG6.out, HF6.out, HA2.out⟩
        | false =>
          have hap : T' ++ [(uk : Int)] ++ [(tn : Int)] = T' ++ [(uk : Int), (tn : Int)] := by simp
          have hal : (T' ++ [(uk : Int), (tn : Int)]).length = T'.length + 2 := by simp
          have hwn := HWY.out.push HJ.out HUQ.out HUP.out HTG.out HNE.out HQT.out
          rw [hap] at hwn
          have HWN := Lib.hid hwn
          have HAP := Lib.hid hap
          have HAL := Lib.hid hal
          clear hwn hap hal
          have hTl : (T' ++ [(uk : Int)]).length = T'.length + 1 := by simp
          gi_wp2_with (first | (refine ⟨trivial, ?_⟩; gi_at_call 17; go_must (refine (callsIn_wide.2 (hta _)).mono ?_; rintro e W6 ⟨rfl, hg6⟩; have hF6 := HI1.out.kept hg6; have HF6 := Lib.hid hF6; have HG6 := Lib.hid hg6; have k5 : W6.cell? ⟨w.heap.size + 4, 0, none⟩ = some (.slice (some ⟨w.heap.size + 3, 0, none⟩) cs.length cs.length) := hF6.bp.cell 0; have k6 : W6.cell? ⟨w.heap.size + 6, 0, none⟩ = some (.slice (some ⟨g, 0, none⟩) (T'.length + 1) cw) := (by rw [← hTl]; exact hF6.bw.cell 0); have s6 : W6.cell? ⟨w.heap.size + 3, tn, none⟩ = some (.bool false) := (by rw [hF6.bg.cell tn, bsV_at HSB.out]); have f6 := hF6.bg.frozen tn; have HX1 := Lib.hid ((hF6.pass tn).kept (only_alloc (only_refl _ _) (.cells #[.int .i64 (tn : Int)] 3))); have HOW : Hid (BOwn (w.heap.size + 5) ((W6.setCell ⟨w.heap.size + 3, tn, none⟩ (.bool true)).alloc (.cells #[.int .i64 (tn : Int)] 3)) (.slice (some ⟨g, 0, none⟩) (T'.length + 1) cw) (T' ++ [(uk : Int)])) := Lib.hid (by rw [← hTl]; exact HX1.out.ow); have hz6 := cell_ltB k6; clear hg6 hF6)) | (gi_at_builtin; go_loud (refine wpListIn_append_z (z := (tn : Int)) (zs := T' ++ [(uk : Int)]) (base := w.heap.size + 5) rfl _ _ rfl rfl rfl HOW.out (blk_atB (by simp) _ _) (by rw [hTl]; omega) (by simp; omega) ?_); intro v5 W7 ho7 hg7; rw [HAP.out] at ho7; obtain ⟨A7, c7, rfl, _⟩ := ho7.reads; have HS7 := Lib.hid (HX1.out.way (T' := T' ++ [(uk : Int), (tn : Int)]) hg7 ho7); have HK7 := Lib.hid (HX1.out.others hg7); have b7 := HX1.out.bw.grown hg7 (HX1.out.ne_own HX1.out.bw (.inr (by decide))); have d7 := b7.cell 0; have f7 := b7.frozen 0; clear ho7 hg7 b7))
          have hS8 := HS7.out
          rw [HAL.out] at hS8
          exact ⟨((((((KeepsOthers.of_grownBy HG6.out (fun _ _ e => by cases e)).trans (KeepsOthers.setCell _ _ _)).trans (KeepsOthers.alloc _ _)).trans HK7.out).trans (KeepsOthers.setCell _ _ _)).from _), .inr ⟨rfl, tn, htl, HSB.out, HWN.out, A7, c7, hS8⟩⟩
    case done =>
      rintro D W5 hD ⟨h1, h2⟩ hK
      have HN5 := Lib.hid (h1.mark (fun D' hm => by have := hDs D' hm; omega) (by omega) hK)
      have HWP := Lib.hid (HWY.out.pop h2)
      have d6 : W5.cell? ⟨w.heap.size + 6, 0, none⟩ = some (.slice (some ⟨g, 0, none⟩) (T' ++ [(uk : Int)]).length cw) := h1.bw.cell 0
      have f6 := h1.bw.frozen 0
      rw [show (T' ++ [(uk : Int)]).length = T'.length + 1 by simp] at d6
      have hpop : SS w (.slice A cs.length cp) i cs.length false T' seen (some ⟨g, 0, none⟩) cw (D :: Ds) (W5.setCell ⟨w.heap.size + 6, 0, none⟩ (.slice (some ⟨g, 0, none⟩) T'.length cw)) := HN5.out.way (T' := T') (only_weak (only_refl _ _) _) (by have := BOwn.pop HN5.out.ow; simpa using this)
      have HPO := Lib.hid hpop
      clear h1 h2 hK hpop
      gi_wp2_with fail
      have hmm := HM.out
      rw [show (T' ++ [(uk : Int)]).length = T'.length + 1 by simp] at hmm
      have hll := hLS.out
      rw [show (T' ++ [(uk : Int)]).length = T'.length + 1 by simp] at hll
      exact ⟨⟨T', seen, _, _, D :: Ds, _, _, _, _, _, _, _, _, _, _, _, _, _, _, _, _, _, _, _, _, _, _, _, _, _, _, _, _, _, _, _, _, _, _, _, _, _, _, _, _, _, _, by omega, by omega, HWP.out, HPO.out, rfl⟩, by rw [HPO.out.left hlen, hll]; omega⟩
    case stop =>
      rintro D c pre W5 hD hpre hne (⟨rfl, hro, h1⟩ | ⟨rfl, tn, h2, h3, h4, A7, c7, h5⟩) hK
      · have HN5 := Lib.hid (h1.mark (fun D' hm => by have := hDs D' hm; omega) (by omega) hK)
        have HO := Lib.hid hro
        clear h1 hro hK hpre
        gi_wp2_with fail
        exact ss_out (Ds := D :: Ds) rfl HN5.out fun W' hW' => ⟨by rw [HO.out], hW'⟩
      · have HN5 := Lib.hid (h5.mark (fun D' hm => by have := hDs D' hm; omega) (by omega) hK)
        clear h5 hK hpre
        gi_wp2_with fail
        have hmm := HM.out
        rw [show (T' ++ [(uk : Int)]).length = T'.length + 1 by simp] at hmm
        have hll := hLS.out
        rw [show (T' ++ [(uk : Int)]).length = T'.length + 1 by simp] at hll
        have hct := count_setB h3
        have hal : (T' ++ [(uk : Int), (tn : Int)]).length = T'.length + 2 := by simp
        have hcn : seen.count false ≤ cs.length := by rw [← hlen]; exact List.count_le_length
        have hn8 := HN.out
        exact ⟨⟨_, seen.set tn true, _, _, D :: Ds, _, _, _, _, _, _, _, _, _, _, _, _, _, _, _, _, _, _, _, _, _, _, _, _, _, _, _, _, _, _, _, _, _, _, _, _, _, _, _, _, _, _, by rw [hal]; omega, by rw [hal]; omega, h4, HN5.out, rfl⟩, by rw [HN5.out.left (by rw [List.length_set]; exact hlen), hll, hal]; omega⟩
end Go.Proofs.Ytgdoklbcmgkllaa

/- blocks: hasCount, firstAstray. -/
import Derived.Test.YtgdoklbcmgkllaaBCol
namespace Go.Proofs.Ytgdoklbcmgkllaa
open Go.RowKit Go.Shelf
attribute [local go_sem] Oper.semAt_some

def cntB (x : Bi) : Bool := if hasT x.1 then (if x.1 == 19 then decide (0 < x.2.length) else decide (x.2.length = 1)) else true
def inB (n : Nat) (t : Int) : Bool := decide (0 ≤ t ∧ t < (n : Int))
theorem jump_cnt {n i : Nat} {x : Bi} : jumpX n i x = (cntB x && (goesX i x).all (inB n)) := by
  obtain ⟨op, l⟩ := x
  have e1 : ∀ l : List Int, l.all (inB n) = l.all (fun t => decide (0 ≤ t) && decide (t < n)) := fun l => by
    congr 1
    funext t
    unfold inB
    simp
  have e2 : inB n ((i : Int) + 1) = decide (i + 1 < n) := by
    unfold inB
    exact decide_eq_decide.2 (by omega)
  unfold jumpX goesX
  rw [List.all_append, e1]
  by_cases h11 : op = 11
  · subst h11
    simp [cntB, hasT, tgtL, closeB]
  by_cases h12 : op = 12
  · subst h12
    simp [cntB, hasT, tgtL, closeB, e2, Bool.and_assoc]
  by_cases h19 : op = 19
  · subst h19
    cases l <;> simp [cntB, hasT, tgtL, closeB]
  have e3 : hasT op = false := by unfold hasT; simp [h11, h12, h19]
  by_cases h24 : op = 24
  · subst h24
    simp [cntB, hasT, tgtL, closeB]
  have e4 : closeB op = false := by unfold closeB; simp [h11, h19, h24]
  have b4 : (op == 11) = false := by simpa using h11
  have b5 : (op == 12) = false := by simpa using h12
  have b6 : (op == 19) = false := by simpa using h19
  simp [cntB, e3, e4, tgtL, e2, b4, b5, b6]
set_option maxRecDepth 100000 in
set_option maxHeartbeats 4000000 in
theorem hasCount_any (op a b c d : Int) (A : Option Addr) (l : List Int) (cp : Nat) (w : World) (hl : l.length ≤ 1048576) : Calls Try.prog 18 #[.agg #[.int .i64 op, .int .i64 a, .int .i64 b, .int .i64 c, .int .i64 d, .slice A l.length cp]] w fun e w' => e = .returned (.bool (cntB (op, l))) ∧ w.grownBy w' none := by
  have hg1 : w.grownBy (w.alloc (.cells #[.int .i64 op, .int .i64 a, .int .i64 b, .int .i64 c, .int .i64 d, .slice A l.length cp] 43)) none := only_alloc (only_refl _ _) _
  have HG1 := Lib.hid hg1
  have hbx : Blk (w.alloc (.cells #[.int .i64 op, .int .i64 a, .int .i64 b, .int .i64 c, .int .i64 d, .slice A l.length cp] 43)) w.heap.size 43 #[.int .i64 op, .int .i64 a, .int .i64 b, .int .i64 c, .int .i64 d, .slice A l.length cp] := Blk.new _ _ _
  have HB := Lib.hid hbx
  have hlI : (l.length : Int) ≤ 1048576 := by omega
  have hit := fun w => is_any op 4 w
  rw [is_aims] at hit
  have hif := fun w => is_any op 8 w
  rw [is_forks] at hif
  clear hg1 hbx hl
  obtain ⟨r, hr⟩ : ∃ r, cntB (op, l) = r := ⟨_, rfl⟩
  rw [hr]
  unfold cntB at hr
  dsimp only at hr
  go_enter Try.func18, Try.ntmps18
  go_wp2_with fail
  cases hta : hasT op with
  | false =>
    rw [hta] at hit hr
    refine (hit _).mono ?_
    rintro e w2 ⟨rfl, hg2⟩
    have HG3 := Lib.hid (only_trans HG1.out hg2)
    have HR : Hid (r = true) := Lib.hid (by rw [← hr]; rfl)
    clear hit hif hg2 hr
    go_wp2_with fail
    go_ret
    exact ⟨by rw [HR.out]; rfl, HG3.out⟩
  | true =>
    rw [hta] at hit hr
    refine (hit _).mono ?_
    rintro e w2 ⟨rfl, hg2⟩
    have HG3 := Lib.hid (only_trans HG1.out hg2)
    have HB3 := Lib.hid (HB.out.kept hg2)
    have y0 : w2.cell? ⟨w.heap.size, 0, none⟩ = some (.int .i64 op) := HB3.out.cell 0
    clear hit hg2
    go_wp2_with fail
    cases hb : (op == 19) with
    | true =>
      rw [hb] at hif hr
      refine (hif _).mono ?_
      rintro e w3 ⟨rfl, hg3⟩
      have HG4 := Lib.hid (only_trans HG3.out hg3)
      have y5 : w3.cell? ⟨w.heap.size, 5, none⟩ = some (.slice A l.length cp) := (HB3.out.kept hg3).cell 5
      have hr2 : decide (0 < l.length) = r := by rw [← hr]; simp
      clear hif hg3 hr y0
      go_wp2_with fail
      go_ret
      exact ⟨by rw [← hr2]; rfl, HG4.out⟩
    | false =>
      rw [hb] at hif hr
      refine (hif _).mono ?_
      rintro e w3 ⟨rfl, hg3⟩
      have HG4 := Lib.hid (only_trans HG3.out hg3)
      have y5 : w3.cell? ⟨w.heap.size, 5, none⟩ = some (.slice A l.length cp) := (HB3.out.kept hg3).cell 5
      have hr2 : ((l.length : Int) == 1) = r := by rw [← hr]; simp only [if_true, Bool.false_eq_true, if_false]; rw [Bool.eq_iff_iff, beq_iff_eq, decide_eq_true_iff]; omega
      clear hif hg3 hr y0
      go_wp2_with fail
      go_ret
      exact ⟨by rw [← hr2]; rfl, HG4.out⟩
/-- What stands: the code's box, the answer's cell, marks of the rounds that are over. -/
structure FS (w : World) (v : Value) (r : Int) (Ds : List Nat) (W : World) : Prop where
  step : w.grownBy W none
  bc : Blk W w.heap.size 22 #[v]
  br : Blk W (w.heap.size + 1) 3 #[.int .i64 r]
  apart : Ds.Nodup
  marks : ∀ D ∈ Ds, w.heap.size + 2 ≤ D ∧ W.heap[D]? = some (.deferred (some []))
section
variable {w X Y W : World} {v : Value} {r : Int} {Ds : List Nat}
theorem FS.lt (h : FS w v r Ds W) : ∀ D ∈ Ds, D < W.heap.size := fun D hm => (Array.getElem?_eq_some_iff.1 (h.marks D hm).2).1
theorem FS.own {B : Nat} {row : Option Nat} (h : FS w v r Ds X) (hw : w.heap.size + 1 < B) (hD : ∀ D ∈ Ds, D < B) (hg : X.grownBy Y row) (hr : ∀ r, row = some r → B ≤ r ∧ ∃ o : Obj, X.heap[r]? = some o ∧ o.isCells = false) : FS w v r Ds Y :=
  ⟨grown_ownFB h.step (by omega) hg hr, blk_ownFB h.bc hg hr, blk_ownFB h.br hg hr, h.apart, fun D hm => ⟨(h.marks D hm).1, (hg.block D (h.lt D hm) (fun e => by have := (hr D e.symm).1; have := hD D hm; omega)).trans (h.marks D hm).2⟩⟩
theorem FS.kept (h : FS w v r Ds X) (hg : X.grownBy Y none) : FS w v r Ds Y := h.own (B := X.heap.size) h.br.lt h.lt hg (fun _ e => by cases e)
theorem FS.mark {D : Nat} (h : FS w v r Ds W) (hD : ∀ D' ∈ Ds, D' < D) (hw : w.heap.size + 1 < D) (hK : W.heap[D]? = some (.deferred (some []))) : FS w v r (D :: Ds) W :=
  ⟨h.step, h.bc, h.br, List.nodup_cons.2 ⟨fun hm => by have := hD D hm; omega, h.apart⟩, fun D' hm => by
    rcases List.mem_cons.1 hm with rfl | hm
    · exact ⟨by omega, hK⟩
    · exact h.marks D' hm⟩
theorem FS.put (h : FS w v r Ds W) (r' : Int) : FS w v r' Ds (W.setCell ⟨w.heap.size + 1, 0, none⟩ (.int .i64 r')) :=
  ⟨only_setNew h.step (by show w.heap.size ≤ w.heap.size + 1; omega) _, h.bc.far (p := ⟨w.heap.size + 1, 0, none⟩) (by show w.heap.size ≠ w.heap.size + 1; omega) _, h.br.set_ 0 _, h.apart,
    fun D hm => ⟨(h.marks D hm).1, (KeepsOthers.setCell W ⟨w.heap.size + 1, 0, none⟩ (.int .i64 r')).same D _ (h.marks D hm).2 rfl⟩⟩
theorem fs_results {tmps : Array Value} (h2 : tmps.getD 2 undef = .pointer (some ⟨w.heap.size + 1, 0, none⟩)) (hb : Blk W (w.heap.size + 1) 3 #[.int .i64 r]) :
    (results Try.f9 tmps).run Try.prog W = .ok (.int .i64 r) W := by
  have h2' : tmps[2]?.getD undef = .pointer (some ⟨w.heap.size + 1, 0, none⟩) := by simpa using h2
  have c1 := hb.cell 0
  simp [results, Try.results9, h2', go_sem, c1]
theorem fs_out {F : Fence} {n : Nat} {tmps : Array Value} {R : Ending → World → Prop} (h2 : tmps.getD 2 undef = .pointer (some ⟨w.heap.size + 1, 0, none⟩)) (h : FS w v r Ds W)
    (hR : ∀ W', w.grownBy W' none → R (.returned (.int .i64 r)) W') : bodyPostM F n Try.prog Try.f9 R .ret { tmps := tmps, defers := Ds.map mark } W :=
  marks_ret (B := w.heap.size + 2) Ds W h.apart h.marks fun W' hW' => ⟨_, fs_results h2 (h.br.keeps hW'.2), hR W' (hW'.grown h.step (by omega))⟩
end
def astrayZ (cs : List Bi) : Int := match (List.range cs.length).find? (fun i => !jumpN cs i) with
  | some i => (i : Int)
  | none => -1
theorem jumpN_at {cs : List Bi} {k : Nat} {x : Bi} (hx : cs[k]? = some x) : jumpN cs k = (cntB x && (goesN cs k).all (inB cs.length)) := by
  unfold jumpN goesN
  rw [hx]
  exact jump_cnt
theorem find_here {p : Nat → Bool} {n k : Nat} (hk : k < n) (h0 : ∀ j, j < k → p j = false) (h1 : p k = true) : (List.range n).find? p = some k := by
  rw [List.find?_range_eq_some]
  exact ⟨h1, List.mem_range.2 hk, fun j hj => by rw [h0 j hj]; rfl⟩
theorem find_never {p : Nat → Bool} {n : Nat} (h0 : ∀ j, j < n → p j = false) : (List.range n).find? p = none := by
  rw [List.find?_eq_none]
  exact fun j hj => by rw [h0 j (List.mem_range.1 hj)]; simp
theorem all_here {α : Type} {p : α → Bool} {pre L : List α} {x : α} (hpre : pre ++ [x] <+: L) (h : p x = false) : L.all p = false := by
  obtain ⟨r, rfl⟩ := hpre
  simp [h]
set_option maxRecDepth 100000 in
set_option maxHeartbeats 4000000 in
theorem firstAstray_any (cs : List Bi) (v : Value) (w : World) (hC : CodeA w v cs) (hl : ∀ x ∈ cs, x.2.length ≤ 1048576) (hn : cs.length ≤ 1048576) : Calls Try.prog 9 #[v] w fun e w' => e = .returned (.int .i64 (astrayZ cs)) ∧ w.grownBy w' none := by
  refine (callsIn_wide (n := 3)).1 ?_
  refine callsIn_of_wp_marks Try.func9 rfl trivial ?_ rfl
  simp only [Try.ntmps9, List.size_toArray, List.length_cons, List.length_nil, Nat.reduceAdd, Nat.reduceSub, Array.replicate_succ, Array.replicate_zero, List.push_toArray, List.append_toArray, List.nil_append, List.cons_append]
  obtain ⟨A, cp, rfl, _⟩ := id hC
  have HC := Lib.hid hC
  have HL := Lib.hid hl
  have HN := Lib.hid hn
  have hnI : (cs.length : Int) ≤ 1048576 := by omega
  clear hC hl hn
  have H00 : Hid (FS w (.slice A cs.length cp) 0 [] ((w.alloc (.cells #[.slice A cs.length cp] 22)).alloc (.cells #[.int .i64 0] 3))) :=
    ⟨only_alloc (only_alloc (only_refl _ _) _) _, (Blk.new w _ _).alloc _, blk_atB (by simp) _ _, List.nodup_nil, fun D h => by cases h⟩
  gi_wp2_with fail
  have hF0 := H00.out
  clear H00
  refine wpIn_loop (fun a' W => ∃ (k : Nat) (Ds : List Nat) (u3 u4 u5 u9 u10 u11 u12 u13 u14 u15 u16 u17 u18 u19 u20 u21 u22 u23 u24 u25 u26 : Value), k ≤ cs.length ∧ (∀ j, j < k → jumpN cs j = true) ∧ FS w (.slice A cs.length cp) 0 Ds W ∧ a' = { tmps := #[.slice A cs.length cp, .pointer (some ⟨w.heap.size, 0, none⟩), .pointer (some ⟨w.heap.size + 1, 0, none⟩), u3, u4, u5, .slice A cs.length cp, .int .i64 (cs.length : Int), .int .i64 (k : Int), u9, u10, u11, u12, u13, u14, u15, u16, u17, u18, u19, u20, u21, u22, u23, u24, u25, u26], defers := Ds.map mark }) (fun a' _ => cs.length - (intOf (a'.tmps.getD 8 undef)).toNat)
    ⟨0, [], undef, undef, undef, undef, undef, undef, undef, undef, undef, undef, undef, undef, undef, undef, undef, undef, undef, undef, undef, undef, undef, Nat.zero_le _, (fun j h => by omega), hF0, rfl⟩ ?_
  clear hF0
  rintro a' W ⟨k, Ds, u3, u4, u5, u9, u10, u11, u12, u13, u14, u15, u16, u17, u18, u19, u20, u21, u22, u23, u24, u25, u26, hk, hlow, hI, rfl⟩
  have hbl : w.heap.size + 1 < W.heap.size := hI.br.lt
  by_cases hlt : k < cs.length
  · have hk0 : (0 : Int) ≤ (k : Int) := by omega
    have hk1 : (k : Int) < (cs.length : Int) := by omega
    obtain ⟨x, hx⟩ : ∃ x, cs[k]? = some x := ⟨_, List.getElem?_eq_getElem hlt⟩
    have hxl := HL.out x (List.mem_of_getElem? hx)
    obtain ⟨b, off, a2, b2, c2, d2, A3, cp3, rfl, hb, hIA, m0, m1, m2, m3, m4, m5⟩ := code_at (HC.out.kept hI.step) hx
    have HJN := Lib.hid (jumpN_at hx)
    obtain ⟨op, l⟩ := x
    dsimp only at hxl hIA m0 m5
    have HLow := Lib.hid hlow
    have HI := Lib.hid hI
    have hcc : ∀ (cs2 : Array Value) , (W.alloc (.cells #[.int .i64 (k : Int)] 3)).heap.size = W.heap.size + 1 := fun _ => by simp
    have hg1 : W.grownBy ((W.alloc (.cells #[.int .i64 (k : Int)] 3)).alloc (.cells #[.int .i64 op, .int .i64 a2, .int .i64 b2, .int .i64 c2, .int .i64 d2, .slice A3 l.length cp3] 43)) none := only_alloc (only_alloc (only_refl _ _) _) _
    have HB1 : Hid (Blk ((W.alloc (.cells #[.int .i64 (k : Int)] 3)).alloc (.cells #[.int .i64 op, .int .i64 a2, .int .i64 b2, .int .i64 c2, .int .i64 d2, .slice A3 l.length cp3] 43)) W.heap.size 3 #[.int .i64 (k : Int)]) := (Blk.new W _ _).alloc _
    have HG1 := Lib.hid hg1
    clear hx hlow hI hIA hg1 hcc
    cases hcb : cntB (op, l) with
    | false =>
      gi_wp2_with (refine ⟨trivial, ?_⟩; gi_at_call 18; go_must (refine (callsIn_wide.2 (hasCount_any op a2 b2 c2 d2 A3 l cp3 _ hxl)).mono ?_; rw [hcb]; rintro e W2 ⟨rfl, hg2⟩; have HF := Lib.hid (HI.out.kept (only_trans HG1.out hg2)); have q0 : W2.cell? ⟨W.heap.size, 0, none⟩ = some (.int .i64 (k : Int)) := (HB1.out.kept hg2).cell 0; have f1 : W2.frozen? ⟨w.heap.size + 1, 0, none⟩ = false := HF.out.br.frozen 0; have d1 : W2.cell? ⟨w.heap.size + 1, 0, none⟩ = some (.int .i64 0) := HF.out.br.cell 0; clear hg2))
      have HO : Hid (astrayZ cs = (k : Int)) := Lib.hid (by unfold astrayZ; rw [find_here hlt (fun j hj => by rw [HLow.out j hj]; rfl) (by rw [HJN.out, hcb]; rfl)])
      exact fs_out rfl (HF.out.put _) fun W' hW' => ⟨by rw [HO.out], hW'⟩
    | true =>
      gi_wp2_with (refine ⟨trivial, ?_⟩; gi_at_call 18; go_must (refine (callsIn_wide.2 (hasCount_any op a2 b2 c2 d2 A3 l cp3 _ hxl)).mono ?_; rw [hcb]; rintro e W2 ⟨rfl, hg2⟩; have HF := Lib.hid (HI.out.kept (only_trans HG1.out hg2)); have HB2 := Lib.hid (HB1.out.kept hg2); have q0 : W2.cell? ⟨W.heap.size, 0, none⟩ = some (.int .i64 (k : Int)) := (HB1.out.kept hg2).cell 0; have q1 : W2.cell? ⟨w.heap.size, 0, none⟩ = some (.slice (some ⟨b, off, none⟩) cs.length cp) := HF.out.bc.cell 0; clear hg2))
      refine ⟨trivial, ?_⟩
      refine (callsIn_wide.2 (blGoes_fn _ _ _ _ _)).mono ?_
      rintro e W3 ⟨rfl, rfl⟩
      have hz1 : W.heap.size + 1 < W2.heap.size + 1 := by have := cell_ltB q0; simpa using this
      have hgb := GoB.mk (cs := cs) (i := k) (v := .slice (some ⟨b, off, none⟩) cs.length cp) (Bc := W2.heap.size) (Bn := W2.heap.size + 1) (w0 := w) (W := (W2.alloc (.cells #[.slice (some ⟨b, off, none⟩) cs.length cp] 22)).alloc (.cells #[.int .i64 (k : Int)] 3)) HC.out (only_alloc (only_alloc HF.out.step _) _) ((Blk.new _ _ _).alloc _) (blk_atB (by simp) _ _)
      have hf4 := HF.out.kept (only_alloc (only_alloc (only_refl W2 none) (.cells #[.slice (some ⟨b, off, none⟩) cs.length cp] 22)) (.cells #[.int .i64 (k : Int)] 3))
      have hb4 := (HB2.out.alloc (.cells #[.slice (some ⟨b, off, none⟩) cs.length cp] 22)).alloc (.cells #[.int .i64 (k : Int)] 3)
      clear HB1 HG1 HB2 HF HI q0 q1 m0 m1 m2 m3 m4 m5
      gi_wp2_with fail
      generalize W2.heap.size = B2 at *
      generalize World.alloc _ _ = W4 at *
      generalize W.heap.size = Bk at *
      have hDs := hf4.lt
      have hcl := hgb.bc.lt
      have hbl2 := hgb.bi.lt
      have hkl := hb4.lt
      have hwl := hf4.br.lt
      refine wpIn_rangeFunc_toldP rfl (by omega) (gf := 32) (lb := #[.pointer (some ⟨B2, 0, none⟩), .pointer (some ⟨B2 + 1, 0, none⟩)]) rfl trivial (enters_of Try.func32 (by kernel_rfl) rfl)
        (goes_told (fun k => k < W4.heap.size) [] (by simp) B2 (B2 + 1) cs (.slice (some ⟨b, off, none⟩) cs.length cp) k w hlt HL.out HN.out) KS.trans (fun W l o o' hl ho hc => KS.putObj W l o o' (by omega) ho hc) (fun _ => rfl) ?t0
        (fun pre W7 => FS w (.slice (some ⟨b, off, none⟩) cs.length cp) 0 Ds W7 ∧ Blk W7 Bk 3 #[.int .i64 (k : Int)] ∧ pre.all (inB cs.length) = true) (fun c pre W7 => c = .ret ∧ FS w (.slice (some ⟨b, off, none⟩) cs.length cp) (k : Int) Ds W7 ∧ (goesN cs k).all (inB cs.length) = false)
        (fun s X Y row h hg hr => ⟨h.1.own hwl hDs hg hr, blk_ownFB h.2.1 hg hr, h.2.2⟩) (fun c s X Y row h hg hr => ⟨h.1, h.2.1.own hwl hDs hg hr, h.2.2⟩) ⟨hf4, hb4, rfl⟩
        (fun t => { tmps := #[.slice (some ⟨b, off, none⟩) cs.length cp, .pointer (some ⟨w.heap.size, 0, none⟩), .pointer (some ⟨w.heap.size + 1, 0, none⟩), .pointer (some ⟨Bk, 0, none⟩), .pointer (some ⟨Bk + 1, 0, none⟩), .int .i64 t, .slice (some ⟨b, off, none⟩) cs.length cp, .int .i64 (cs.length : Int), .int .i64 (k : Int), .bool true, .int .i64 (k : Int), .pointer (some ⟨b, off + k * 6, none⟩), .agg #[.int .i64 op, .int .i64 a2, .int .i64 b2, .int .i64 c2, .int .i64 d2, .slice A3 l.length cp3], .agg #[.int .i64 op, .int .i64 a2, .int .i64 b2, .int .i64 c2, .int .i64 d2, .slice A3 l.length cp3], .bool true, .bool false, u16, .slice (some ⟨b, off, none⟩) cs.length cp, .int .i64 (k : Int), .func (.func 32) #[] #[.pointer (some ⟨B2, 0, none⟩), .pointer (some ⟨B2 + 1, 0, none⟩)], .int .i64 t, u21, u22, u23, u24, u25, u26], defers := [] }) ?assign ?body ?done ?stop
      case t0 =>
        intro W5 hW
        have hg := below_only hW (only_refl W4 none) (Nat.le_refl _)
        exact ⟨fun k hk => Nat.lt_of_lt_of_le hk hgb.gr.size, hcl, hbl2, hgb.cd, only_trans hgb.gr hg, hgb.bc.kept hg, hgb.bi.kept hg⟩
      case assign =>
        intro l q W3 K hK
        gi_wp2
        exact hK
      case body =>
        rintro l9 pre t W5 hpre hsz ⟨h1, h2, h3⟩
        have d1 : W5.cell? ⟨w.heap.size, 0, none⟩ = some (.slice (some ⟨b, off, none⟩) cs.length cp) := h1.bc.cell 0
        have hpl := fun w => blPlace_any (some ⟨b, off, none⟩) cs.length cp t w (by omega)
        have HI1 := Lib.hid h1
        have HI2 := Lib.hid h2
        have HI3 := Lib.hid h3
        have HPR := Lib.hid hpre
        clear h1 h2 h3 hpre
        cases hin : decide (0 ≤ t ∧ t < (cs.length : Int)) with
        | true =>
          rw [hin] at hpl
          gi_wp2_with (refine ⟨trivial, ?_⟩; gi_at_call 20; go_must (refine (callsIn_wide.2 (hpl _)).mono ?_; rintro e W6 ⟨rfl, hg6⟩; have HF6 := Lib.hid (HI1.out.kept hg6); have HB6 := Lib.hid (HI2.out.kept hg6); have HG6 := Lib.hid hg6; clear hg6))
          exact ⟨only_keepsFrom HG6.out _, KS.grown HG6.out, HF6.out, HB6.out, by rw [List.all_append, HI3.out]; simp only [List.all_cons, List.all_nil, Bool.and_true, Bool.true_and]; exact hin⟩
        | false =>
          rw [hin] at hpl
          gi_wp2_with (refine ⟨trivial, ?_⟩; gi_at_call 20; go_must (refine (callsIn_wide.2 (hpl _)).mono ?_; rintro e W6 ⟨rfl, hg6⟩; have HF6 := Lib.hid (HI1.out.kept hg6); have HB6 := Lib.hid (HI2.out.kept hg6); have HG6 := Lib.hid hg6; have q6 : W6.cell? ⟨Bk, 0, none⟩ = some (.int .i64 (k : Int)) := HB6.out.cell 0; have f6 : W6.frozen? ⟨w.heap.size + 1, 0, none⟩ = false := HF6.out.br.frozen 0; have d6 : W6.cell? ⟨w.heap.size + 1, 0, none⟩ = some (.int .i64 0) := HF6.out.br.cell 0; clear hg6))
          exact ⟨(only_keepsFrom HG6.out _).trans ((KeepsOthers.setCell _ _ _).from _), rfl, HF6.out.put _, all_here HPR.out hin⟩
      case done =>
        rintro D W5 hD ⟨h1, h2, h3⟩ hK
        have HN5 := Lib.hid (h1.mark (fun D' hm => by have := hDs D' hm; omega) (by omega) hK)
        have HLN : Hid (∀ j, j < k + 1 → jumpN cs j = true) := Lib.hid fun j hj => by
          rcases Nat.lt_or_eq_of_le (Nat.le_of_lt_succ hj) with h | h
          · exact HLow.out j h
          · rw [h, HJN.out, hcb, h3]; rfl
        clear h1 h2 h3 hK
        gi_wp2_with fail
        exact ⟨⟨k + 1, D :: Ds, _, _, _, _, _, _, _, _, _, _, _, _, _, _, _, _, _, _, _, _, _, by omega, HLN.out, HN5.out, rfl⟩, by simp [intOf]; omega⟩
      case stop =>
        rintro D c pre W5 hD hpre hne ⟨rfl, h1, h2⟩ hK
        have HN5 := Lib.hid (h1.mark (fun D' hm => by have := hDs D' hm; omega) (by omega) hK)
        have HO : Hid (astrayZ cs = (k : Int)) := Lib.hid (by unfold astrayZ; rw [find_here hlt (fun j hj => by rw [HLow.out j hj]; rfl) (by rw [HJN.out, h2]; simp)])
        clear h1 h2 hK hpre
        gi_wp2_with fail
        exact fs_out (Ds := D :: Ds) rfl HN5.out fun W' hW' => ⟨by rw [HO.out], hW'⟩
  · have hge : (cs.length : Int) ≤ (k : Int) := by omega
    have HO : Hid (astrayZ cs = -1) := Lib.hid (by unfold astrayZ; rw [find_never fun j hj => by rw [hlow j (by omega)]; rfl])
    have HI := Lib.hid hI
    have d1 : W.cell? ⟨w.heap.size + 1, 0, none⟩ = some (.int .i64 0) := hI.br.cell 0
    have f1 : W.frozen? ⟨w.heap.size + 1, 0, none⟩ = false := hI.br.frozen 0
    clear hI hlow hk
    gi_wp2_with fail
    exact fs_out rfl (HI.out.put _) fun W' hW' => ⟨by rw [HO.out], hW'⟩
end Go.Proofs.Ytgdoklbcmgkllaa

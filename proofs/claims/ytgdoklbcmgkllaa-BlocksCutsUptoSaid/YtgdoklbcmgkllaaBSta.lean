/- blocks: starts. -/
import Derived.Test.YtgdoklbcmgkllaaBBin
import Derived.Test.YtgdoklbcmgkllaaBNum
namespace Go.Proofs.Ytgdoklbcmgkllaa
open Go.RowKit Go.Shelf
attribute [local go_sem] Oper.semAt_some

/-- A row of 129 Booleans. -/
def bsF (f : Nat → Bool) : Array Value := ((List.range 129).map fun j => Value.bool (f j)).toArray
theorem bsF_at {f : Nat → Bool} {j : Nat} (h : j < 129) : (bsF f)[j]? = some (.bool (f j)) := by
  unfold bsF
  rw [List.getElem?_toArray, List.getElem?_map, List.getElem?_range h]
  rfl
theorem bsF_set (f : Nat → Bool) (t : Nat) : (bsF f).setIfInBounds t (.bool true) = bsF (fun j => f j || j == t) := by
  apply Array.ext_getElem?
  intro j
  by_cases hj : j < 129
  · rw [bsF_at hj]
    by_cases e : t = j
    · subst e
      rw [Array.getElem?_setIfInBounds_self_of_lt (by unfold bsF; simpa using hj)]
      simp
    · rw [Array.getElem?_setIfInBounds_ne e, bsF_at hj]
      have : (j == t) = false := by simp; omega
      simp [this]
  · have h1 : (bsF (fun j => f j || j == t)).size ≤ j := by unfold bsF; simp; omega
    have h2 : ((bsF f).setIfInBounds t (.bool true)).size ≤ j := by unfold bsF; simp; omega
    rw [Array.getElem?_eq_none h1, Array.getElem?_eq_none h2]
def begA : Array Value := bsF (fun j => j == 0)
theorem build_beg (w : World) : (Instr.build 60 #[(0, .bool true)]).run Try.prog w = .ok (.agg begA) w := run_build w 60 _ _ (by kernel_rfl)
theorem beg_size : begA.size = 129 := by unfold begA bsF; simp
theorem beg_ne : ¬ begA = #[] := fun h => by have := congrArg Array.size h; rw [beg_size] at this; cases this
theorem wpListIn_build_beg {F : Fence} {m : Nat} {ops : Array Oper} {rest : List Oper} {o : Oper} {a : Act} {W : World} {Q : Exit → Act → World → Prop} (hgd : o.guard = none)
    (ho : o.op = .build 60 #[(0, .const (.bool true))])
    (h : wpListIn F m Try.prog ops Q rest (a.put o.dst (.agg begA)) W) : wpListIn F m Try.prog ops Q (o :: rest) a W := by
  refine wpListIn_plain hgd fun K hK => ?_
  unfold Oper.wpIn
  refine ⟨by simp [Oper.about, ho], ?_⟩
  rw [Oper.semAt_plain F _ _ (by rw [ho]; intro c hc'; cases hc')]
  simp only [execOp, ho, List.map_toArray, List.map_cons, List.map_nil, Act.eval, build_beg, Sem.run_bind, Result.andThen_ok]
  exact hK _ _ h
theorem zero_beg : ∃ Z : Array Value, Z.size = 129 ∧ ∀ W : World, (zeroValue 60).run Try.prog W = .ok (.agg Z) W := ⟨Array.replicate 129 (.bool false), by simp, fun W => by kernel_rfl⟩
/-- Which places begin a block, as the first k instructions tell. -/
def begK (cs : List Bi) (k j : Nat) : Bool := j == 0 || (List.range k).any fun a => match cs[a]? with
  | some x => cutX x && (j == a + 1 || (goesN cs a).contains (j : Int))
  | none => false
theorem begK_not {cs : List Bi} {k : Nat} {x : Bi} (hx : cs[k]? = some x) (h : cutX x = false) (j : Nat) : begK cs (k + 1) j = begK cs k j := by
  unfold begK
  rw [List.range_succ, List.any_append]
  simp [hx, h]
theorem begK_cut {cs : List Bi} {k : Nat} {x : Bi} (hx : cs[k]? = some x) (h : cutX x = true) (j : Nat) : begK cs (k + 1) j = ((begK cs k j || j == k + 1) || (goesN cs k).contains (j : Int)) := by
  unfold begK
  rw [List.range_succ, List.any_append]
  simp only [List.any_cons, List.any_nil, Bool.or_false, hx, h, Bool.true_and, Bool.or_assoc]
theorem hasT_cut {x : Bi} (h : hasT x.1 = true) : cutX x = true := by
  unfold hasT at h
  unfold cutX closeB
  simp only [Bool.or_eq_true, beq_iff_eq] at h ⊢
  omega
theorem begK_all {cs : List Bi} {j : Nat} (hj : j < cs.length) : begK cs cs.length j = beginB cs j := by
  rw [Bool.eq_iff_iff]
  unfold begK beginB
  simp only [Bool.or_eq_true, List.any_eq_true, List.mem_range, beq_iff_eq, List.contains_iff_mem]
  constructor
  · rintro (h | ⟨a, ha, h⟩)
    · exact .inl (.inl h)
    · rw [List.getElem?_eq_getElem ha] at h
      simp only [Bool.and_eq_true, Bool.or_eq_true, beq_iff_eq, List.contains_iff_mem] at h
      obtain ⟨hc, h | h⟩ := h
      · subst h
        rw [Nat.add_sub_cancel, List.getElem?_eq_getElem ha]
        exact .inr hc
      · unfold goesN at h
        rw [List.getElem?_eq_getElem ha] at h
        have h2 : (j : Int) ∈ goesX a cs[a] := h
        unfold goesX at h2
        rcases List.mem_append.1 h2 with h3 | h3
        · exact .inl (.inr ⟨_, List.getElem_mem ha, h3⟩)
        · split at h3
          · cases h3
          · simp only [List.mem_singleton] at h3
            have e : j = a + 1 := by omega
            subst e
            rw [Nat.add_sub_cancel, List.getElem?_eq_getElem ha]
            exact .inr hc
  · rintro ((h | ⟨x, hx, h⟩) | h)
    · exact .inl h
    · obtain ⟨a, ha, rfl⟩ := List.getElem_of_mem hx
      refine .inr ⟨a, ha, ?_⟩
      rw [List.getElem?_eq_getElem ha]
      have ht : hasT cs[a].1 = true := by
        unfold tgtL at h
        split at h
        · assumption
        · cases h
      simp only [Bool.and_eq_true, Bool.or_eq_true, beq_iff_eq, List.contains_iff_mem]
      refine ⟨hasT_cut ht, .inr ?_⟩
      unfold goesN
      rw [List.getElem?_eq_getElem ha]
      exact List.mem_append.2 (.inl h)
    · by_cases h0 : j = 0
      · exact .inl h0
      · have ha : j - 1 < cs.length := by omega
        rw [List.getElem?_eq_getElem ha] at h
        refine .inr ⟨j - 1, ha, ?_⟩
        rw [List.getElem?_eq_getElem ha]
        simp only [Bool.and_eq_true, Bool.or_eq_true, beq_iff_eq]
        exact ⟨h, .inl (by omega)⟩
def intsN (l : List Nat) : List Int := l.map fun (k : Nat) => (k : Int)
/-- What stands: the row of those that begin, marks of the rounds that are over. -/
structure ST (w : World) (f : Nat → Bool) (Ds : List Nat) (W : World) : Prop where
  step : w.grownBy W none
  bg : Blk W w.heap.size 60 (bsF f)
  apart : Ds.Nodup
  marks : ∀ D ∈ Ds, w.heap.size + 1 ≤ D ∧ W.heap[D]? = some (.deferred (some []))
section
variable {w X Y W : World} {f : Nat → Bool} {Ds : List Nat}
theorem ST.lt (h : ST w f Ds W) : ∀ D ∈ Ds, D < W.heap.size := fun D hm => (Array.getElem?_eq_some_iff.1 (h.marks D hm).2).1
theorem ST.own {B : Nat} {row : Option Nat} (h : ST w f Ds X) (hw : w.heap.size < B) (hD : ∀ D ∈ Ds, D < B) (hg : X.grownBy Y row) (hr : ∀ r, row = some r → B ≤ r ∧ ∃ o : Obj, X.heap[r]? = some o ∧ o.isCells = false) : ST w f Ds Y :=
  ⟨grown_ownFB h.step (by omega) hg hr, blk_ownFB h.bg hg hr, h.apart, fun D hm => ⟨(h.marks D hm).1, (hg.block D (h.lt D hm) (fun e => by have := (hr D e.symm).1; have := hD D hm; omega)).trans (h.marks D hm).2⟩⟩
theorem ST.kept (h : ST w f Ds X) (hg : X.grownBy Y none) : ST w f Ds Y := h.own (B := X.heap.size) h.bg.lt h.lt hg (fun _ e => by cases e)
theorem ST.mark {D : Nat} (h : ST w f Ds W) (hD : ∀ D' ∈ Ds, D' < D) (hw : w.heap.size < D) (hK : W.heap[D]? = some (.deferred (some []))) : ST w f (D :: Ds) W :=
  ⟨h.step, h.bg, List.nodup_cons.2 ⟨fun hm => by have := hD D hm; omega, h.apart⟩, fun D' hm => by
    rcases List.mem_cons.1 hm with rfl | hm
    · exact ⟨by omega, hK⟩
    · exact h.marks D' hm⟩
theorem ST.put (h : ST w f Ds W) (t : Nat) : ST w (fun j => f j || j == t) Ds (W.setCell ⟨w.heap.size, t, none⟩ (.bool true)) :=
  ⟨only_setNew h.step (Nat.le_refl _) _, by rw [← bsF_set]; exact h.bg.set_ t _, h.apart, fun D hm => ⟨(h.marks D hm).1, (KeepsOthers.setCell W ⟨w.heap.size, t, none⟩ (.bool true)).same D _ (h.marks D hm).2 rfl⟩⟩
theorem ST.row {v : Value} {zs : List Int} (h : ST w f Ds X) (ho : BOwn (w.heap.size + 1) X v zs) (hg : X.grownBy Y v.ownBlock) : ST w f Ds Y :=
  ⟨grown_ownB h.step (fun g e => by have := (World.ownsRow.lt ho g e).1; omega) hg, h.bg.grown hg (fun e => by have := (World.ownsRow.lt ho _ e.symm).1; omega), h.apart, fun D hm => ⟨(h.marks D hm).1, (hg.block D (h.lt D hm) (fun e => by
    obtain ⟨_, cs', hb'⟩ := own_rowB ho D e.symm
    have := (h.marks D hm).2
    unfold Blk at hb'
    rw [hb'] at this
    cases this)).trans (h.marks D hm).2⟩⟩
theorem ST.fn {f' : Nat → Bool} (h : ST w f Ds W) (e : ∀ j, f j = f' j) : ST w f' Ds W := by
  have : f = f' := funext e
  subst this
  exact h
end
set_option maxRecDepth 100000 in
set_option maxHeartbeats 4000000 in
theorem starts_any (cs : List Bi) (v : Value) (w : World) (hC : CodeA w v cs) (hl : ∀ x ∈ cs, x.2.length ≤ 1048576) (hn : cs.length ≤ 128) (hj : ∀ i x, cs[i]? = some x → jumpX cs.length i x = true) : Calls Try.prog 21 #[v] w fun e w' => ∃ v', e = .returned v' ∧ BOwn w.heap.size w' v' (intsN (startsL cs)) ∧ w.grownBy w' none := by
  refine (callsIn_wide (n := 3)).1 ?_
  refine callsIn_of_wp_marks Try.func21 rfl trivial ?_ rfl
  simp only [Try.ntmps21, List.size_toArray, List.length_cons, List.length_nil, Nat.reduceAdd, Nat.reduceSub, Array.replicate_succ, Array.replicate_zero, List.push_toArray, List.append_toArray, List.nil_append, List.cons_append]
  obtain ⟨A, cp, rfl, _⟩ := id hC
  have HC := Lib.hid hC
  have HL := Lib.hid hl
  have HN := Lib.hid hn
  have HJ := Lib.hid hj
  have hnI : (cs.length : Int) ≤ 128 := by omega
  clear hC hl hn hj
  have hsz := beg_size
  have hne := beg_ne
  have hst : ∀ c : Array Value, c.size = 129 → (storeCells ⟨w.heap.size, 0, none⟩ begA.toList 0).run Try.prog (w.alloc (.cells c 60)) = .ok () (w.alloc (.cells begA 60)) := fun c hc => run_storeCells_new w _ c begA (by rw [beg_size]; kernel_rfl) (by rw [hc, beg_size]) (by unfold begA bsF; simp [Value.oneCell'])
  obtain ⟨Z, hzs, hzr⟩ := zero_beg
  have hst2 := hst Z hzs
  clear hst
  gi_upto_region 2 with (refine wpListIn_build_beg rfl rfl ?_)
  have hF0 : ST w (fun j => begK cs 0 j) [] (w.alloc (.cells begA 60)) := ⟨only_alloc (only_refl _ _) _, by
    have : bsF (fun j => begK cs 0 j) = begA := by
      unfold begA
      congr 1
      funext j
      simp [begK]
    rw [this]
    exact Blk.new _ _ _, List.nodup_nil, fun D h => by cases h⟩
  clear hst2 hzs hzr hsz hne
  gi_wp2_with fail
  refine wpIn_loop (fun a' W => ∃ (k : Nat) (Ds : List Nat) (u4 u5 u6 u8 u13 u14 u15 u16 u17 u18 u19 u20 u21 u22 u23 u24 u25 u26 u27 u28 u29 u30 : Value), k ≤ cs.length ∧ ST w (fun j => begK cs k j) Ds W ∧ a' = { tmps := #[.slice A cs.length cp, undef, .slice none 0 0, .pointer (some ⟨w.heap.size, 0, none⟩), u4, u5, u6, undef, u8, .agg begA, .slice A cs.length cp, .int .i64 (cs.length : Int), .int .i64 (k : Int), u13, u14, u15, u16, u17, u18, u19, u20, u21, u22, u23, u24, u25, u26, u27, u28, u29, u30, undef, undef, undef, undef, undef, undef, undef, undef, undef, undef, undef, undef, undef, undef], defers := Ds.map mark }) (fun a' _ => cs.length - (intOf (a'.tmps.getD 12 undef)).toNat)
    ⟨0, [], undef, undef, undef, undef, undef, undef, undef, undef, undef, undef, undef, undef, undef, undef, undef, undef, undef, undef, undef, undef, undef, undef, Nat.zero_le _, hF0, rfl⟩ ?_
  clear hF0
  rintro a' W ⟨k, Ds, u4, u5, u6, u8, u13, u14, u15, u16, u17, u18, u19, u20, u21, u22, u23, u24, u25, u26, u27, u28, u29, u30, hk, hI, rfl⟩
  have hbl := hI.bg.lt
  by_cases hlt : k < cs.length
  · have hk0 : (0 : Int) ≤ (k : Int) := by omega
    have hk1 : (k : Int) < (cs.length : Int) := by omega
    obtain ⟨x, hx⟩ : ∃ x, cs[k]? = some x := ⟨_, List.getElem?_eq_getElem hlt⟩
    obtain ⟨b, off, a2, b2, c2, d2, A3, cp3, rfl, hb, hIA, m0, m1, m2, m3, m4, m5⟩ := code_at (HC.out.kept hI.step) hx
    obtain ⟨op, l⟩ := x
    dsimp only at m0 m5
    have hit := fun w => is_any op 5 w
    rw [is_cuts] at hit
    have HX := Lib.hid hx
    have HI := Lib.hid hI
    have hg1 : W.grownBy (W.alloc (.cells #[.int .i64 op, .int .i64 a2, .int .i64 b2, .int .i64 c2, .int .i64 d2, .slice A3 l.length cp3] 43)) none := only_alloc (only_refl _ _) _
    have HG1 := Lib.hid hg1
    clear hx hI hIA hg1
    cases hct : (closeB op || op == 12) with
    | false =>
      rw [hct] at hit
      have HCT : Hid (cutX (op, l) = false) := Lib.hid hct
      gi_wp2_with (refine ⟨trivial, ?_⟩; gi_at_call 31; go_must (refine (callsIn_wide.2 (hit _)).mono ?_; rintro e W2 ⟨rfl, hg2⟩; have HF := Lib.hid (((HI.out.kept (only_trans HG1.out hg2)).fn (fun j => (begK_not HX.out HCT.out j).symm))); clear hg2))
      exact ⟨⟨k + 1, Ds, _, _, _, _, _, _, _, _, _, _, _, _, _, _, _, _, _, _, _, _, _, _, by omega, HF.out, rfl⟩, by simp [intOf]; omega⟩
    | true =>
      rw [hct] at hit
      have HCT : Hid (cutX (op, l) = true) := Lib.hid hct
      have hk2 : (k : Int) + 1 < 129 := by omega
      gi_upto_region 6 with (refine ⟨trivial, ?_⟩; gi_at_call 31; go_must (refine (callsIn_wide.2 (hit _)).mono ?_; rintro e W2 ⟨rfl, hg2⟩; have hF := HI.out.kept (only_trans HG1.out hg2); have HF := Lib.hid hF; have q0 : W2.cell? ⟨w.heap.size, k + 1, none⟩ = some (.bool (begK cs k (k + 1))) := ((hF.bg.cell (k + 1)).trans (bsF_at (by omega))); have f0 := hF.bg.frozen (k + 1); clear hg2 hF))
      gi_upto_region 7 with fail
      have hput := HF.out.put (k + 1)
      clear HF q0 f0 HG1 HI
      generalize W2.setCell ⟨w.heap.size, k + 1, none⟩ (.bool true) = W3 at *
      have hlw3 := hput.bg.lt
      gi_wp2_with (refine ⟨trivial, ?_⟩; gi_at_call 19; go_must (refine (callsIn_wide.2 (blGoes_fn _ _ _ _ _)).mono ?_; rintro e W4 ⟨rfl, rfl⟩))
      have hg4 : W3.grownBy ((W3.alloc (.cells #[.slice (some ⟨b, off, none⟩) cs.length cp] 22)).alloc (.cells #[.int .i64 (k : Int)] 3)) none := only_alloc (only_alloc (only_refl _ _) _) _
      have hf4 := hput.kept hg4
      have hgb : GoB W3.heap.size (W3.heap.size + 1) (.slice (some ⟨b, off, none⟩) cs.length cp) cs k w ((W3.alloc (.cells #[.slice (some ⟨b, off, none⟩) cs.length cp] 22)).alloc (.cells #[.int .i64 (k : Int)] 3)) := ⟨HC.out, hf4.step, (Blk.new W3 _ _).alloc _, blk_atB (by simp) _ _⟩
      clear hput hg4
      generalize W3.heap.size = Bc at *
      generalize World.alloc _ _ = W4 at *
      generalize W.heap.size = Bx at *
      have hDs := hf4.lt
      have hcl := hgb.bc.lt
      have hbl2 := hgb.bi.lt
      have hwl := hf4.bg.lt
      have hsz0 := hgb.gr.size
      refine wpIn_rangeFunc_toldP rfl (by omega) (gf := 32) (lb := #[.pointer (some ⟨Bc, 0, none⟩), .pointer (some ⟨Bc + 1, 0, none⟩)]) rfl trivial (enters_of Try.func32 (by kernel_rfl) rfl)
        (goes_told (fun m => m < w.heap.size ∨ m = Bc ∨ m = Bc + 1) [60] (by decide) Bc (Bc + 1) cs (.slice (some ⟨b, off, none⟩) cs.length cp) k w hlt HL.out (by have := HN.out; omega)) KS.trans (fun W l o o' hl ho hc => KS.putObj W l o o' (by omega) ho hc) (fun _ => rfl) ?t0
        (fun pre W7 => ST w (fun j => (begK cs k j || j == k + 1) || pre.contains (j : Int)) Ds W7) (fun _ _ _ => False)
        (fun s X Y row h hg hr => h.own hwl hDs hg hr) (fun _ _ _ _ _ h => h.elim) (hf4.fn (fun j => by simp))
        (fun t => { tmps := #[.slice (some ⟨b, off, none⟩) cs.length cp, undef, .slice none 0 0, .pointer (some ⟨w.heap.size, 0, none⟩), .int .i64 (k : Int), .pointer (some ⟨Bx, 0, none⟩), .int .i64 t, undef, u8, .agg begA, .slice (some ⟨b, off, none⟩) cs.length cp, .int .i64 (cs.length : Int), .int .i64 (k : Int), .bool true, .int .i64 (k : Int), .pointer (some ⟨b, off + k * 6, none⟩), .agg #[.int .i64 op, .int .i64 a2, .int .i64 b2, .int .i64 c2, .int .i64 d2, .slice A3 l.length cp3], .pointer (some ⟨Bx, 0, none⟩), .int .i64 op, .bool true, .bool false, .int .i64 (k : Int), .int .i64 ((k : Int) + 1), .pointer (some ⟨w.heap.size, k + 1, none⟩), .slice (some ⟨b, off, none⟩) cs.length cp, .int .i64 (k : Int), .func (.func 32) #[] #[.pointer (some ⟨Bc, 0, none⟩), .pointer (some ⟨Bc + 1, 0, none⟩)], .int .i64 t, u28, u29, u30, undef, undef, undef, undef, undef, undef, undef, undef, undef, undef, undef, undef, undef, undef], defers := [] }) ?assign ?body ?done ?stop
      case t0 =>
        intro W5 hW
        have hg := below_only hW (only_refl W4 none) (Nat.le_refl _)
        exact ⟨fun m hm => .inl hm, .inr (.inl rfl), .inr (.inr rfl), hgb.cd, only_trans hgb.gr hg, hgb.bc.kept hg, hgb.bi.kept hg⟩
      case assign =>
        intro l q W3 K hK
        gi_wp2
        exact hK
      case stop =>
        rintro D c pre W5 hD hpre hne h hK
        exact h.elim
      case body =>
        rintro l9 pre t W5 hpre hsz h1
        have htg : t ∈ goesN cs k := hpre.subset (by simp)
        obtain ⟨t0, t1⟩ := goes_lt HJ.out htg
        obtain ⟨tn, rfl⟩ : ∃ tn : Nat, t = (tn : Int) := ⟨t.toNat, by omega⟩
        have htl : (tn : Int) < 129 := by omega
        have q0 : W5.cell? ⟨w.heap.size, tn, none⟩ = some (.bool ((begK cs k tn || tn == k + 1) || pre.contains (tn : Int))) := (h1.bg.cell tn).trans (bsF_at (by omega))
        have f0 := h1.bg.frozen tn
        have HP : Hid (ST w (fun j => (begK cs k j || j == k + 1) || (pre ++ [(tn : Int)]).contains (j : Int)) Ds (W5.setCell ⟨w.heap.size, tn, none⟩ (.bool true))) := Lib.hid ((h1.put tn).fn (fun j => by
          rw [Bool.eq_iff_iff]
          simp only [Bool.or_eq_true, List.contains_iff_mem, List.mem_append, List.mem_singleton, beq_iff_eq, Int.natCast_inj]
          constructor
          · rintro (h | h)
            · rcases h with h | h
              · exact .inl h
              · exact .inr (.inl h)
            · exact .inr (.inr h)
          · rintro (h | h | h)
            · exact .inl (.inl h)
            · exact .inl (.inr h)
            · exact .inr h))
        have HKS : Hid (KS (fun m => m < w.heap.size ∨ m = Bc ∨ m = Bc + 1) [60] W5 (W5.setCell ⟨w.heap.size, tn, none⟩ (.bool true))) := Lib.hid (KS.row (only_setCell (g := w.heap.size) (p := ⟨w.heap.size, tn, none⟩) (only_refl _ _) rfl _) (fun g e => by
          injection e with e
          subst e
          exact ⟨by omega, _, _, h1.bg, by simp⟩))
        clear h1 hpre htg
        gi_wp2_with fail
        exact ⟨(KeepsOthers.setCell _ _ _).from _, HKS.out, HP.out⟩
      case done =>
        rintro D W5 hD h1 hK
        have HN5 : Hid (ST w (fun j => begK cs (k + 1) j) (D :: Ds) W5) := Lib.hid ((h1.mark (fun D' hm => by have := hDs D' hm; omega) (by omega) hK).fn (fun j => (begK_cut HX.out HCT.out j).symm))
        clear h1 hK
        gi_wp2_with fail
        exact ⟨⟨k + 1, D :: Ds, _, _, _, _, _, _, _, _, _, _, _, _, _, _, _, _, _, _, _, _, _, _, by omega, HN5.out, rfl⟩, by simp [intOf]; omega⟩
  · have hge : (cs.length : Int) ≤ (k : Int) := by omega
    obtain rfl : k = cs.length := by omega
    have HI := Lib.hid hI
    clear hI hk hlt
    gi_wp2_with fail
    gi_loopw [33, 7] (fun z vl wr => ∃ k2 : Nat, k2 ≤ cs.length ∧ z = .int .i64 (k2 : Int) ∧ BOwn (w.heap.size + 1) wr vl (intsN ((List.range k2).filter (beginB cs))) ∧ ST w (fun j => begK cs cs.length j) Ds wr) (fun z _ _ => cs.length - (intOf z).toNat)
    case atStart => exact ⟨0, Nat.zero_le _, rfl, BOwn.nil_ _ _, HI.out⟩
    case round =>
      obtain ⟨k2, hk2, rfl, ho, hst⟩ := hrel
      have hgw := hst.bg.lt
      by_cases hlt2 : k2 < cs.length
      · have hk20 : (0 : Int) ≤ (k2 : Int) := by omega
        have hk21 : (k2 : Int) < (cs.length : Int) := by omega
        have hk22 : (k2 : Int) < 129 := by omega
        have hbb : begK cs cs.length k2 = beginB cs k2 := begK_all hlt2
        have c0 : wr.cell? ⟨w.heap.size, k2, none⟩ = some (.bool (beginB cs k2)) := ((hst.bg.cell k2).trans (bsF_at (by omega))).trans (by rw [hbb])
        have HO := Lib.hid ho
        have HST := Lib.hid hst
        have hfs := starts_step cs k2
        clear ho hst hbb
        obtain ⟨bb, hbb⟩ : ∃ bb, beginB cs k2 = bb := ⟨_, rfl⟩
        rw [hbb] at c0 hfs
        obtain ⟨A7, c7, rfl, _⟩ := id HO.out.reads
        have hll : (intsN ((List.range k2).filter (beginB cs))).length ≤ 128 := by
          unfold intsN
          rw [List.length_map]
          have := List.length_filter_le (beginB cs) (List.range k2)
          rw [List.length_range] at this
          have := HN.out
          omega
        cases bb with
        | false =>
          have HFS : Hid ((List.range (k2 + 1)).filter (beginB cs) = (List.range k2).filter (beginB cs)) := Lib.hid (by rw [hfs]; simp)
          clear hfs hbb
          gi_wp2_with fail
          go_roundw
          case rel => exact ⟨k2 + 1, by omega, by go_num, by rw [HFS.out]; exact HO.out, HST.out⟩
          case measure => simp [intOf]; omega
        | true =>
          have HFS : Hid (intsN ((List.range (k2 + 1)).filter (beginB cs)) = intsN ((List.range k2).filter (beginB cs)) ++ [(k2 : Int)]) := Lib.hid (by rw [hfs]; simp [intsN])
          clear hfs hbb
          have HO2 := Lib.hid (HO.out.none_ (only_alloc (only_refl wr none) (.cells #[.int .i64 (k2 : Int)] 3)))
          gi_wp2_with (gi_at_builtin; go_loud (refine wpListIn_append_z (z := (k2 : Int)) (base := w.heap.size + 1) rfl _ _ rfl rfl rfl HO2.out (Blk.new _ _ _) (by omega) (by simp; omega) ?_); intro v5 W5 ho5 hg5; rw [← HFS.out] at ho5; have HO5 := Lib.hid ho5; have HS5 := Lib.hid ((HST.out.kept (only_alloc (only_refl wr none) (.cells #[.int .i64 (k2 : Int)] 3))).row HO2.out hg5); clear ho5 hg5)
          go_roundw
          case rel => exact ⟨k2 + 1, by omega, by go_num, HO5.out, HS5.out⟩
          case measure => simp [intOf]; omega
      · have hge2 : (cs.length : Int) ≤ (k2 : Int) := by omega
        obtain rfl : k2 = cs.length := by omega
        have HO := Lib.hid ho
        have HST := Lib.hid hst
        clear ho hst hk2 hlt2
        gi_wp2_with fail
        refine marks_ret (B := w.heap.size + 1) Ds wr HST.out.apart HST.out.marks fun W' hW' => ⟨u7, by simp [results, Try.results21, go_sem], u7, rfl, (HO.out.keepc hW'.2).down (Nat.le_succ _) (hW'.grown HST.out.step (by omega)).size, hW'.grown HST.out.step (by omega)⟩
end Go.Proofs.Ytgdoklbcmgkllaa

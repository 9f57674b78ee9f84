/- blocks: flow. -/
import Derived.Test.YtgdoklbcmgkllaaBFlA
namespace Go.Proofs.Ytgdoklbcmgkllaa
open Go.RowKit Go.Shelf
attribute [local go_sem] Oper.semAt_some

/-- Where each block ends: where the next one begins, or the code's length. -/
def behL (cs : List Bi) : List Int := intsN ((startsL cs).drop 1) ++ [(cs.length : Int)]
theorem starts_ne {cs : List Bi} (h : 1 ≤ cs.length) : ∃ l, startsL cs = 0 :: l := by
  have h0 : (0 : Nat) ∈ startsL cs := mem_starts.2 ⟨by omega, by unfold beginB; simp⟩
  obtain ⟨k, hk⟩ := List.mem_iff_getElem?.1 h0
  cases hs : startsL cs with
  | nil => rw [hs] at h0; cases h0
  | cons a l =>
    cases k with
    | zero => rw [hs] at hk; simp at hk; exact ⟨l, by rw [hk]⟩
    | succ k =>
      have h1 : (startsL cs)[0]? = some a := by rw [hs]; rfl
      have := starts_lt h1 hk (by omega)
      omega
theorem beh_len {cs : List Bi} (h : 1 ≤ cs.length) : (behL cs).length = (startsL cs).length := by
  obtain ⟨l, hl⟩ := starts_ne h
  unfold behL intsN
  rw [hl]
  simp
theorem beh_at {cs : List Bi} {b : Nat} (hb : b < (startsL cs).length) : ∃ e : Nat, (behL cs)[b]? = some (e : Int) ∧ e - 1 = lastB cs b ∧ 1 ≤ e := by
  cases hs : (startsL cs)[b + 1]? with
  | some s =>
    have h0 := starts_lt (List.getElem?_eq_getElem hb) hs (by omega)
    refine ⟨s, ?_, by unfold lastB; rw [hs], by omega⟩
    have h1 : b + 1 < (startsL cs).length := (List.getElem?_eq_some_iff.1 hs).1
    unfold behL intsN
    rw [List.getElem?_append_left (by simp; omega), List.getElem?_map, List.getElem?_drop, Nat.add_comm 1 b, hs]
    rfl
  | none =>
    have h1 : (startsL cs).length ≤ b + 1 := List.getElem?_eq_none_iff.1 hs
    have h2 := (last_in (List.getElem?_eq_getElem hb)).2
    refine ⟨cs.length, ?_, by unfold lastB; rw [hs], by omega⟩
    unfold behL intsN
    rw [List.getElem?_append_right (by simp; omega)]
    have : b - (((startsL cs).drop 1).map fun k => ((k : Nat) : Int)).length = 0 := by simp; omega
    rw [this]
    rfl
theorem starts_le (cs : List Bi) : (startsL cs).length ≤ cs.length := by
  unfold startsL
  have := List.length_filter_le (beginB cs) (List.range cs.length)
  rwa [List.length_range] at this
theorem starts_up {cs : List Bi} : ∀ (i j : Nat) (x y : Int), (intsN (startsL cs))[i]? = some x → (intsN (startsL cs))[j]? = some y → i < j → x < y := fun i j x y hx hy hij => by
  unfold intsN at hx hy
  rw [List.getElem?_map] at hx hy
  obtain ⟨a, ha, rfl⟩ := Option.map_eq_some_iff.1 hx
  obtain ⟨b, hb, rfl⟩ := Option.map_eq_some_iff.1 hy
  have := starts_lt ha hb hij
  omega
/-- A slice of all but the first. -/
theorem wpListIn_slice1 {F : Fence} {m : Nat} {ops : Array Oper} {rest : List Oper} {o : Oper} {a : Act} {W : World} {Q : Exit → Act → World → Prop} (hgd : o.guard = none) (s : Operand)
    (ho : o.op = .slice 24 s (some (.const (.int .i64 1))) none none) {g n c : Nat} (hs : a.eval s = .slice (some ⟨g, 0, none⟩) (n + 1) c) (hc : n + 1 ≤ c) (hcm : (c : Int) ≤ 9223372036854775807)
    (h : ∀ X : Option Addr, (c ≠ 1 → X = some ⟨g, 1, none⟩) → wpListIn F m Try.prog ops Q rest (a.put o.dst (.slice X n (c - 1))) W) : wpListIn F m Try.prog ops Q (o :: rest) a W := by
  refine wpListIn_plain hgd fun K hK => ?_
  unfold Oper.wpIn
  refine ⟨by simp [Oper.about, ho], ?_⟩
  rw [Oper.semAt_plain F _ _ (by rw [ho]; intro c hc'; cases hc')]
  have hcI : (n : Int) + 1 ≤ (c : Int) := by omega
  have hn0 : (0 : Int) ≤ (n : Int) := by omega
  have hn1 : (1 : Int) ≤ (n : Int) + 1 := by omega
  simp only [execOp, ho, hs]
  go_simp
  by_cases h1 : c = 1
  · subst h1
    simp only [if_true]
    exact hK _ _ (h _ (fun e => absurd rfl e))
  · simp only [if_neg h1]
    exact hK _ _ (h _ (fun _ => rfl))
/-- What stands as the blocks' lists are made. -/
structure FL (w : World) (cs : List Bi) (zs : List Int) (Bf m : Nat) (AS : Option Addr) (cS : Nat) (Ab : Option Addr) (cb k : Nat) (Ds : List Nat) (W : World) : Prop where
  step : w.grownBy W none
  hbf : w.heap.size < Bf
  br : Blk W w.heap.size 27 #[.slice none 0 0, .slice none 0 0]
  st : IB W (.slice AS (m + 1) cS) zs
  bh : IB W (.slice Ab (m + 1) cb) (behL cs)
  nx : ∃ (An : Option Addr) (cn : Nat) (lvs : List Value), Blk W Bf 27 #[.slice AS (m + 1) cS, .slice An k cn] ∧ NO (Bf + 1) W (.slice An k cn) (((List.range k).map (nextB cs)).map intsN) lvs
  apart : Ds.Nodup
  marks : ∀ D ∈ Ds, Bf + 1 ≤ D ∧ W.heap[D]? = some (.deferred (some []))
section
variable {w X Y W : World} {cs : List Bi} {zs : List Int} {Bf m cS cb k : Nat} {AS Ab : Option Addr} {Ds : List Nat}
theorem FL.lt (h : FL w cs zs Bf m AS cS Ab cb k Ds W) : ∀ D ∈ Ds, D < W.heap.size := fun D hm => (Array.getElem?_eq_some_iff.1 (h.marks D hm).2).1
theorem FL.bf (h : FL w cs zs Bf m AS cS Ab cb k Ds W) : Bf < W.heap.size := by
  obtain ⟨_, _, _, hb, _⟩ := h.nx
  exact hb.lt
theorem FL.kept (h : FL w cs zs Bf m AS cS Ab cb k Ds X) (hg : X.grownBy Y none) : FL w cs zs Bf m AS cS Ab cb k Ds Y := by
  obtain ⟨An, cn, lvs, h1, h2⟩ := h.nx
  exact ⟨only_trans h.step hg, h.hbf, h.br.kept hg, h.st.kept hg, h.bh.kept hg, ⟨An, cn, lvs, h1.kept hg, h2.none_ hg⟩, h.apart, fun D hm => ⟨(h.marks D hm).1, (hg.block D (h.lt D hm) (fun e => by cases e)).trans (h.marks D hm).2⟩⟩
theorem FL.mark {D : Nat} (h : FL w cs zs Bf m AS cS Ab cb k Ds W) (hD : ∀ D' ∈ Ds, D' < D) (hw : Bf < D) (hK : W.heap[D]? = some (.deferred (some []))) : FL w cs zs Bf m AS cS Ab cb k (D :: Ds) W :=
  ⟨h.step, h.hbf, h.br, h.st, h.bh, h.nx, List.nodup_cons.2 ⟨fun hm => by have := hD D hm; omega, h.apart⟩, fun D' hm => by
    rcases List.mem_cons.1 hm with rfl | hm
    · exact ⟨by omega, hK⟩
    · exact h.marks D' hm⟩
theorem FL.next (h : FL w cs zs Bf m AS cS Ab cb k Ds X) {An An' : Option Addr} {cn cn' : Nat} {lvs lvs' : List Value} (hb : Blk X Bf 27 #[.slice AS (m + 1) cS, .slice An k cn]) (hno : NO (Bf + 1) X (.slice An k cn) (((List.range k).map (nextB cs)).map intsN) lvs)
    (hg : X.grownBy Y (Value.slice An k cn).ownBlock) (ho : NO (Bf + 1) Y (.slice An' (k + 1) cn') (((List.range (k + 1)).map (nextB cs)).map intsN) lvs') :
    FL w cs zs Bf m AS cS Ab cb (k + 1) Ds (Y.setCell ⟨Bf, 1, none⟩ (.slice An' (k + 1) cn')) := by
  have hrow : ∀ g, (Value.slice An k cn).ownBlock = some g → Bf + 1 ≤ g ∧ ∃ cs', Blk X g 24 cs' := fun g e => own_rowB hno.row g e
  have hne : ∀ {b : Nat} {t : TypeId} {c : Array Value}, Blk X b t c → t ≠ 24 → some b ≠ (Value.slice An k cn).ownBlock := fun {b t c} hb ht e => by
    obtain ⟨_, cs', hb'⟩ := hrow b e.symm
    exact Blk.ne_ hb hb' ht rfl
  have g1 : w.grownBy Y none := grown_ownB h.step (fun g e => by have := (hrow g e).1; have := h.hbf; omega) hg
  have b1 := hb.grown hg (hne hb (by decide))
  have hs : Y.grownBy (Y.setCell ⟨Bf, 1, none⟩ (.slice An' (k + 1) cn')) (some Bf) := only_setCell (p := ⟨Bf, 1, none⟩) (only_refl _ _) rfl _
  have i1 : ∀ {v : Value} {l : List Int}, IB X v l → IB (Y.setCell ⟨Bf, 1, none⟩ (.slice An' (k + 1) cn')) v l := fun {v l} hi =>
    (hi.row hg (fun g e => by obtain ⟨_, cs', hb'⟩ := hrow g e; exact ⟨_, cs', hb', by decide⟩)).row hs (fun g e => by injection e with e; subst e; exact ⟨_, _, b1, by decide⟩)
  have hfw := h.hbf
  refine ⟨only_setNew g1 (by show w.heap.size ≤ Bf; omega) _, h.hbf, (h.br.grown hg (hne h.br (by decide))).far (p := ⟨Bf, 1, none⟩) (by show w.heap.size ≠ Bf; omega) _, i1 h.st, i1 h.bh, ⟨An', cn', lvs', ?_, ?_⟩, h.apart, fun D hm => ⟨(h.marks D hm).1, ?_⟩⟩
  · exact b1.set_ 1 _
  · refine ⟨ho.row.kept hs (.inr fun e => ?_), fun i lv l e1 e2 => (ho.inn i lv l e1 e2).row hs (fun g e => by injection e with e; subst e; exact ⟨_, _, b1, by decide⟩), ho.len, ho.one⟩
    have := (World.ownsRow.lt ho.row Bf e).1
    omega
  · have h0 := (h.marks D hm).2
    have h2 : Y.heap[D]? = some (.deferred (some [])) := (hg.block D (h.lt D hm) (fun e => by
      obtain ⟨_, cs', hb'⟩ := hrow D e.symm
      unfold Blk at hb'
      rw [hb'] at h0
      cases h0)).trans h0
    exact (KeepsOthers.setCell Y ⟨Bf, 1, none⟩ _).same D _ h2 rfl
end
theorem NO.far {base g : Nat} {W W' : World} {v : Value} {nx : List (List Int)} {lvs : List Value} (h : NO base W v nx lvs) (hg : W.grownBy W' (some g)) (hb : g < base) (hT : ∃ t cs, Blk W g t cs ∧ t ≠ 3) : NO base W' v nx lvs :=
  ⟨h.row.kept hg (.inr fun e => by have := (World.ownsRow.lt h.row g e).1; omega), fun i lv l e1 e2 => (h.inn i lv l e1 e2).row hg (fun g' e => by injection e with e; subst e; exact hT), h.len, h.one⟩
/-- A block's list as it grows, in a round that began at W. -/
structure NB (W : World) (v : Value) (zs : List Int) (X : World) : Prop where
  gr : W.grownBy X none
  bx : Blk X W.heap.size 24 #[v]
  ow : BOwn (W.heap.size + 3) X v zs
section
variable {W X Y : World} {v v' : Value} {zs zs' : List Int}
theorem bown_ownG {row : Option Nat} {B b : Nat} {v : Value} {zs : List Int} (h : BOwn b X v zs) (hg : X.grownBy Y row) (hr : ∀ r, row = some r → B ≤ r ∧ ∃ o : Obj, X.heap[r]? = some o ∧ o.isCells = false) : BOwn b Y v zs := bown_ownF h hg hr
theorem NB.own {B : Nat} {row : Option Nat} (h : NB W v zs X) (hw : W.heap.size < B) (hg : X.grownBy Y row) (hr : ∀ r, row = some r → B ≤ r ∧ ∃ o : Obj, X.heap[r]? = some o ∧ o.isCells = false) : NB W v zs Y :=
  ⟨grown_ownFB h.gr (by omega) hg hr, blk_ownFB h.bx hg hr, bown_ownF h.ow hg hr⟩
theorem NB.kept (h : NB W v zs X) (hg : X.grownBy Y none) : NB W v zs Y := h.own (B := X.heap.size) h.bx.lt hg (fun _ e => by cases e)
theorem NB.at_ (h : NB W v zs X) (hg : X.grownBy Y v.ownBlock) : Blk Y W.heap.size 24 #[v] := h.bx.grown hg fun e => by
  have := (World.ownsRow.lt h.ow _ e.symm).1
  omega
theorem NB.put (h : NB W v zs X) (hg : X.grownBy Y v.ownBlock) (ho : BOwn (W.heap.size + 3) Y v' zs') : NB W v' zs' (Y.setCell ⟨W.heap.size, 0, none⟩ v') :=
  ⟨only_setNew (grown_ownB h.gr (fun g e => by have := (World.ownsRow.lt h.ow g e).1; omega) hg) (Nat.le_refl _) _, (h.at_ hg).set_ 0 v', ho.kept (only_setCell (p := ⟨W.heap.size, 0, none⟩) (only_refl _ _) rfl _) (.inr fun e => by have := (World.ownsRow.lt ho W.heap.size e).1; omega)⟩
theorem NB.others (h : NB W v zs X) (hg : X.grownBy Y v.ownBlock) : KeepsOthers X Y := KeepsOthers.of_grownBy hg fun j o e ho => by
  obtain ⟨_, cs', hb'⟩ := own_rowB h.ow j e
  unfold Blk at hb'
  rw [hb'] at ho
  cases ho
  rfl
theorem NB.ks (h : NB W v zs X) (hg : X.grownBy Y v.ownBlock) (u : Value) : KS (fun k => k < W.heap.size ∨ k = W.heap.size + 1 ∨ k = W.heap.size + 2) [3, 24] X (Y.setCell ⟨W.heap.size, 0, none⟩ u) := by
  refine (KS.row hg (fun g e => ?_)).trans (KS.row (only_setCell (g := W.heap.size) (p := ⟨W.heap.size, 0, none⟩) (only_refl _ _) rfl u) (fun g e => ?_))
  · obtain ⟨hb, cs, hblk⟩ := own_rowB h.ow g e
    exact ⟨by omega, _, cs, hblk, by simp⟩
  · injection e with e
    subst e
    exact ⟨by omega, _, _, h.at_ hg, by simp⟩
end
theorem next_ints {cs : List Bi} {b : Nat} : (goesN cs (lastB cs b)).map (fun t => ((numB cs t.toNat : Nat) : Int)) = intsN (nextB cs b) := by
  unfold nextB intsN
  rw [List.map_map]
  rfl
set_option maxRecDepth 100000 in
set_option maxHeartbeats 4000000 in
theorem flow_any (cs : List Bi) (v : Value) (w : World) (h1 : 1 ≤ cs.length) (hC : CodeA w v cs) (hl : ∀ x ∈ cs, x.2.length ≤ 1048576) (hn : cs.length ≤ 128) (hj : ∀ i x, cs[i]? = some x → jumpX cs.length i x = true) : Calls Try.prog 10 #[v] w fun e w' => ∃ v', e = .returned v' ∧ FlowA w' v' (flowB cs) ∧ w.grownBy w' none := by
  refine (callsIn_wide (n := 3)).1 ?_
  refine callsIn_of_wp_marks Try.func10 rfl trivial ?_ rfl
  simp only [Try.ntmps10, List.size_toArray, List.length_cons, List.length_nil, Nat.reduceAdd, Nat.reduceSub, Array.replicate_succ, Array.replicate_zero, List.push_toArray, List.append_toArray, List.nil_append, List.cons_append]
  obtain ⟨A, cp, rfl, _⟩ := id hC
  have HC := Lib.hid hC
  have HL := Lib.hid hl
  have HN := Lib.hid hn
  have HJ := Lib.hid hj
  have hnI : (cs.length : Int) ≤ 128 := by omega
  obtain ⟨sl, hsl⟩ := starts_ne h1
  have hsn := starts_le cs
  clear hC hl hn hj
  have HA0 : Hid (w.grownBy (w.alloc (.cells #[.slice none 0 0, .slice none 0 0] 27)) none ∧ Blk (w.alloc (.cells #[.slice none 0 0, .slice none 0 0] 27)) w.heap.size 27 #[.slice none 0 0, .slice none 0 0]) := ⟨only_alloc (only_refl _ _) _, Blk.new _ _ _⟩
  obtain ⟨zs, hzs⟩ : ∃ zs, intsN (startsL cs) = zs := ⟨_, rfl⟩
  obtain ⟨m, hm⟩ : ∃ m, sl.length = m := ⟨_, rfl⟩
  have hzm : zs.length = m + 1 := by rw [← hzs, hsl, ← hm]; simp [intsN]
  have hzd : (zs.drop 1).length = m := by simp [hzm]
  have HBE : Hid (behL cs = zs.drop 1 ++ [(cs.length : Int)]) := Lib.hid (by unfold behL; rw [← hzs]; unfold intsN; rw [List.map_drop])
  have HSM : Hid ((startsL cs).length = m + 1) := Lib.hid (by rw [hsl, ← hm]; rfl)
  have hmI : (m : Int) + 1 ≤ 128 := by rw [hsl] at hsn; simp at hsn; omega
  have hm0 : (0 : Int) ≤ (m : Int) := by omega
  have HZS := Lib.hid hzs
  have hstt := fun W hW => starts_any cs (.slice A cs.length cp) W hW HL.out HN.out HJ.out
  rw [hzs] at hstt
  clear hsl hsn hzs hm
  gi_upto_region 2 with (refine ⟨trivial, ?_⟩; gi_at_call 21; go_must (refine (callsIn_wide.2 (hstt _ (HC.out.kept HA0.out.1))).mono ?_; rintro e W1 ⟨sv, rfl, ho, hg⟩; obtain ⟨As, cS, rfl, hAs⟩ := id ho.reads; obtain ⟨gS, rfl, hgb, hgc, hgx⟩ := ho.some_ (by intro e; rw [e] at hzm; cases hzm); rw [hzm] at hgc ho; have HO := Lib.hid ho; have HG := Lib.hid hg; have hgl := hg.size; clear ho hg hAs))
  have hW2 : W1.grownBy (W1.alloc (.cells #[.slice (some ⟨gS, 0, none⟩) (m + 1) cS, .slice none 0 0] 27)) none := only_alloc (only_refl _ _) _
  have hb2 : Blk (W1.alloc (.cells #[.slice (some ⟨gS, 0, none⟩) (m + 1) cS, .slice none 0 0] 27)) W1.heap.size 27 #[.slice (some ⟨gS, 0, none⟩) (m + 1) cS, .slice none 0 0] := Blk.new _ _ _
  have HB2 := Lib.hid hb2
  have HO2 := Lib.hid (HO.out.none_ hW2)
  have HG2 := Lib.hid (only_trans (only_trans HA0.out.1 HG.out) hW2)
  have HR2 := Lib.hid ((HA0.out.2.kept HG.out).kept hW2)
  clear hW2 hb2 HO HG HA0 hstt
  generalize W1.heap.size = Bf at *
  generalize W1.alloc (.cells #[.slice (some ⟨gS, 0, none⟩) (m + 1) cS, .slice none 0 0] 27) = W2 at *
  have c0 : W2.cell? ⟨Bf, 0, none⟩ = some (.slice (some ⟨gS, 0, none⟩) (m + 1) cS) := HB2.out.cell 0
  have hbf := cell_ltB c0
  have HI1 : Hid (∀ X, (cS ≠ 1 → X = some ⟨gS, 1, none⟩) → IntsA (fun k => k < W2.heap.size) W2 (.slice X (zs.drop 1).length (cS - 1)) (zs.drop 1)) := Lib.hid fun X hX => by
    obtain ⟨A', c', e, hA'⟩ := HO2.out.reads
    injection e with e1 e2 e3
    subst e1
    obtain ⟨b', o', e4, hb', hc'⟩ := hA' (by intro e; rw [e] at hzm; cases hzm)
    injection e4 with e4
    injection e4 with e5 e6 _
    subst e5
    subst e6
    refine ⟨_, _, rfl, fun hne => ⟨gS, 1, by
      have h0 : (zs.drop 1).length ≠ 0 := fun e => hne (List.length_eq_zero_iff.1 e)
      exact hX (by omega), hb'.2, fun i z hz => ?_⟩⟩
    rw [List.getElem?_drop] at hz
    have := hc' _ _ hz
    rwa [Nat.zero_add] at this
  have hgcI : (m : Int) + 1 ≤ (cS : Int) := by omega
  have hgx2 : (cS : Int) ≤ 9223372036854775807 := by omega
  gi_wp2_with (first | (refine wpListIn_slice1 rfl (.tmp 15) rfl rfl hgc hgx2 ?_; intro X16 hX16; have hcl := clone_any _ _ W2 (HI1.out X16 hX16) (by omega); rw [hzd] at hcl; clear hX16) | (refine ⟨trivial, ?_⟩; gi_at_call 22; go_must (refine (callsIn_wide.2 hcl).mono ?_; rintro e W3 ⟨bv, rfl, ho, hg⟩; obtain ⟨Ab, cB, rfl, _⟩ := id ho.reads; rw [hzd] at ho; have HO3 := Lib.hid ho; have HG3 := Lib.hid hg; clear ho hg)) | (gi_at_builtin; go_loud (refine wpListIn_append_z (z := (cs.length : Int)) (base := W2.heap.size) rfl _ _ rfl rfl rfl (HO3.out.none_ (only_alloc (only_refl _ _) (.cells #[.int .i64 (cs.length : Int)] 3))) (blk_atB rfl _ _) (by omega) (Nat.le_trans HG3.out.size (by simp)) ?_); intro v5 W5 ho5 hg5; rw [← HBE.out] at ho5; have HO5 := Lib.hid ho5; have HG5 := Lib.hid hg5; obtain ⟨A5, c5, rfl, _⟩ := id ho5.reads; clear ho5 hg5))
  have hbl5 : (behL cs).length = m + 1 := by rw [beh_len h1, HSM.out]
  have ho5 := HO5.out
  rw [hbl5] at ho5
  have hg3 : W2.grownBy (W3.alloc (.cells #[.int .i64 (cs.length : Int)] 3)) none := only_alloc HG3.out _
  have ho3 : BOwn W2.heap.size (W3.alloc (.cells #[.int .i64 (cs.length : Int)] 3)) (.slice Ab m cB) (zs.drop 1) := HO3.out.none_ (only_alloc (only_refl _ _) _)
  have hg5 : W2.grownBy W5 none := grown_ownB hg3 (fun g e => (World.ownsRow.lt ho3 g e).1) HG5.out
  have hwz : w.heap.size < Bf := by have := hgl; simp at this; omega
  have hf0 : FL w cs zs Bf m (some ⟨gS, 0, none⟩) cS A5 c5 0 [] W5 := ⟨only_trans HG2.out hg5, hwz, HR2.out.kept hg5, HO2.out.ib.kept hg5, ho5.ib, ⟨none, 0, [], HB2.out.kept hg5, NO.nil_ _ _⟩, List.nodup_nil, fun D h => by cases h⟩
  clear ho5 hg3 ho3 hg5 hwz hbl5
  clear HO5 HG5 HO3 HG3 hcl hgcI hgx2 HI1 hbf c0 HB2 HO2 HG2 HR2 hgc hgx hgb hgl
  refine wpIn_loop (fun a' W => ∃ (k : Nat) (Ds : List Nat) (u4 u5 u6 u7 u8 u9 u10 u11 u12 u13 u14 u15 u16 u17 u18 u19 u20 u21 u25 u26 u27 u28 u29 u30 u31 u32 u33 u34 u35 u36 u37 u38 u39 u40 u41 u42 u43 u44 u45 u46 u47 u48 u49 u50 : Value), k ≤ m + 1 ∧ FL w cs zs Bf m (some ⟨gS, 0, none⟩) cS A5 c5 k Ds W ∧ a' = { tmps := #[.slice A cs.length cp, undef, .pointer (some ⟨w.heap.size, 0, none⟩), .pointer (some ⟨Bf, 0, none⟩), u4, u5, u6, u7, u8, u9, u10, u11, u12, u13, u14, u15, u16, u17, u18, u19, u20, u21, .slice A5 (m + 1) c5, .int .i64 ((m : Int) + 1), .int .i64 (k : Int), u25, u26, u27, u28, u29, u30, u31, u32, u33, u34, u35, u36, u37, u38, u39, u40, u41, u42, u43, u44, u45, u46, u47, u48, u49, u50, undef], defers := Ds.map mark }) (fun a' _ => m + 1 - (intOf (a'.tmps.getD 24 undef)).toNat)
    ⟨0, [], _, _, _, _, _, _, _, _, _, _, _, _, _, _, _, _, _, _, _, _, _, _, _, _, _, _, _, _, _, _, _, _, _, _, _, _, _, _, _, _, _, _, _, _, Nat.zero_le _, hf0, by simp only [beh_len h1, HSM.out]; rfl⟩ ?_
  clear hf0
  rintro a' W ⟨k, Ds, u4, u5, u6, u7, u8, u9, u10, u11, u12, u13, u14, u15, u16, u17, u18, u19, u20, u21, u25, u26, u27, u28, u29, u30, u31, u32, u33, u34, u35, u36, u37, u38, u39, u40, u41, u42, u43, u44, u45, u46, u47, u48, u49, u50, hk, hI, rfl⟩
  by_cases hlt : k < m + 1
  · have hk0 : (0 : Int) ≤ (k : Int) := by omega
    have hk1 : (k : Int) < (m : Int) + 1 := by omega
    have hks : k < (startsL cs).length := by rw [HSM.out]; exact hlt
    obtain ⟨e, he, hel, he1⟩ := beh_at hks
    have hls := (last_in (List.getElem?_eq_getElem hks)).2
    obtain ⟨An, cn, lvs, hbF, hno⟩ := hI.nx
    obtain ⟨A', c', e0, hA'⟩ := hI.bh
    injection e0 with e1 e2 e3
    subst e1
    subst e3
    obtain ⟨b5, o5, rfl, _, hc5⟩ := hA' (by intro e; rw [e] at he; simp at he)
    have c5k : W.cell? ⟨b5, o5 + k, none⟩ = some (.int .i64 (e : Int)) := hc5 _ _ he
    have hb5 := cell_ltB c5k
    have hbfl := hbF.lt
    have HI := Lib.hid hI
    have HBF := Lib.hid hbF
    have HNO := Lib.hid hno
    have hlsI : (e : Int) - 1 = ((lastB cs k : Nat) : Int) := by omega
    have heI : (e : Int) ≤ 128 := by omega
    have he0 : (1 : Int) ≤ (e : Int) := by omega
    clear hI hbF hno hA' hc5 he e2
    gi_wp2_with (refine ⟨trivial, ?_⟩; gi_at_call 19; go_must (refine (callsIn_wide.2 (blGoes_fn _ _ _ _ _)).mono ?_; rintro e W4 ⟨rfl, rfl⟩))
    have hg4 : W.grownBy (((W.alloc (.cells #[.slice none 0 0] 24)).alloc (.cells #[.slice A cs.length cp] 22)).alloc (.cells #[.int .i64 ((lastB cs k : Nat) : Int)] 3)) none := only_alloc (only_alloc (only_alloc (only_refl _ _) _) _) _
    have hgb : GoB (W.heap.size + 1) (W.heap.size + 2) (.slice A cs.length cp) cs (lastB cs k) w (((W.alloc (.cells #[.slice none 0 0] 24)).alloc (.cells #[.slice A cs.length cp] 22)).alloc (.cells #[.int .i64 ((lastB cs k : Nat) : Int)] 3)) := ⟨HC.out, only_trans HI.out.step hg4, (blk_atB (by simp) _ _).alloc _, blk_atB (by simp) _ _⟩
    have hnb : NB W (.slice none 0 0) ([].map (fun t : Int => ((numB cs t.toNat : Nat) : Int))) (((W.alloc (.cells #[.slice none 0 0] 24)).alloc (.cells #[.slice A cs.length cp] 22)).alloc (.cells #[.int .i64 ((lastB cs k : Nat) : Int)] 3)) := ⟨hg4, ((Blk.new W _ _).alloc _).alloc _, BOwn.nil_ _ _⟩
    have hsz4 : (((W.alloc (.cells #[.slice none 0 0] 24)).alloc (.cells #[.slice A cs.length cp] 22)).alloc (.cells #[.int .i64 ((lastB cs k : Nat) : Int)] 3)).heap.size = W.heap.size + 3 := by simp
    clear c5k hg4
    generalize (((W.alloc (.cells #[.slice none 0 0] 24)).alloc (.cells #[.slice A cs.length cp] 22)).alloc (.cells #[.int .i64 ((lastB cs k : Nat) : Int)] 3)) = W4 at *
    have hcl := hgb.bc.lt
    have hbl2 := hgb.bi.lt
    have hDs := HI.out.lt
    have hwl := hnb.bx.lt
    have hsz0 := HI.out.step.size
    have hgl9 : (goesN cs (lastB cs k)).length ≤ 1048577 := goesN_length HL.out
    have HGL := Lib.hid hgl9
    clear hgl9
    refine wpIn_rangeFunc_toldP rfl (by omega) (gf := 32) (lb := #[.pointer (some ⟨W.heap.size + 1, 0, none⟩), .pointer (some ⟨W.heap.size + 2, 0, none⟩)]) rfl trivial (enters_of Try.func32 (by kernel_rfl) rfl)
      (goes_told (fun n => n < W.heap.size ∨ n = W.heap.size + 1 ∨ n = W.heap.size + 2) [3, 24] (by decide) (W.heap.size + 1) (W.heap.size + 2) cs (.slice A cs.length cp) (lastB cs k) w hls HL.out (by have := HN.out; omega)) KS.trans (fun W l o o' hl ho hc => KS.putObj W l o o' (by omega) ho hc) (fun _ => rfl) ?t0
      (fun pre W7 => ∃ v', NB W v' (pre.map (fun t : Int => ((numB cs t.toNat : Nat) : Int))) W7) (fun _ _ _ => False)
      (fun s X Y row h hg hr => by obtain ⟨v', h⟩ := h; exact ⟨v', h.own hwl hg hr⟩) (fun _ _ _ _ _ h => h.elim) ⟨_, hnb⟩
      (fun t => { tmps := #[.slice A cs.length cp, undef, .pointer (some ⟨w.heap.size, 0, none⟩), .pointer (some ⟨Bf, 0, none⟩), u4, u5, .int .i64 (e : Int), .pointer (some ⟨W.heap.size, 0, none⟩), .int .i64 t, u9, u10, u11, u12, u13, u14, u15, u16, u17, u18, u19, u20, u21, .slice (some ⟨b5, o5, none⟩) (m + 1) c5, .int .i64 ((m : Int) + 1), .int .i64 (k : Int), .bool true, .pointer (some ⟨b5, o5 + k, none⟩), .int .i64 (e : Int), .slice A cs.length cp, .int .i64 (e : Int), .int .i64 ((lastB cs k : Nat) : Int), .func (.func 32) #[] #[.pointer (some ⟨W.heap.size + 1, 0, none⟩), .pointer (some ⟨W.heap.size + 2, 0, none⟩)], .int .i64 t, u33, u34, u35, u36, u37, u38, u39, u40, u41, u42, u43, u44, u45, u46, u47, u48, u49, u50, undef], defers := [] }) ?assign ?body ?done ?stop
    case t0 =>
      intro W5 hW
      have hg := below_only hW (only_refl W4 none) (Nat.le_refl _)
      exact ⟨fun m hm => .inl (Nat.lt_of_lt_of_le hm hsz0), .inr (.inl rfl), .inr (.inr rfl), hgb.cd, only_trans hgb.gr hg, hgb.bc.kept hg, hgb.bi.kept hg⟩
    case assign =>
      intro l q W3 K hK
      gi_wp2
      exact hK
    case stop =>
      rintro D c pre W5 hD hpre hne h hK
      exact h.elim
    case body =>
      rintro l9 pre t W6 hpre hsz ⟨v', h1⟩
      have htg : t ∈ goesN cs (lastB cs k) := hpre.subset (by simp)
      have hpl : pre.length ≤ 1048577 := by
        have h5 := List.IsPrefix.length_le hpre
        rw [List.length_append, List.length_singleton] at h5
        have := HGL.out
        omega
      obtain ⟨hat, ht0⟩ := next_at HJ.out (List.getElem?_eq_getElem hks) htg
      have hz : zs[numB cs t.toNat]? = some t := by
        rw [← HZS.out]
        unfold intsN
        rw [List.getElem?_map, hat]
        simp
        omega
      have hI6 := HI.out.kept h1.gr
      have hbn := fun W hW => binary_any (fun k => k < W.heap.size) (.slice (some ⟨gS, 0, none⟩) (m + 1) cS) zs t (numB cs t.toNat) W hW (fun _ h => h) (by omega) hz (by rw [← HZS.out]; exact starts_up)
      have d1 : W6.cell? ⟨Bf, 0, none⟩ = some (.slice (some ⟨gS, 0, none⟩) (m + 1) cS) := (HBF.out.kept h1.gr).cell 0
      have hst6 := Lib.hid hI6.st
      have H1 := Lib.hid h1
      have hl7 := h1.bx.lt
      obtain ⟨A1, c1, e9, _⟩ := id h1.ow.reads
      subst e9
      rw [List.length_map] at H1
      have hsz3 : W.heap.size + 3 ≤ W6.heap.size := by omega
      have hlm : (pre.map (fun t : Int => ((numB cs t.toNat : Nat) : Int)) ++ [((numB cs t.toNat : Nat) : Int)]).length = pre.length + 1 := by simp
      have HMP : Hid ((pre ++ [t]).map (fun t : Int => ((numB cs t.toNat : Nat) : Int)) = pre.map (fun t : Int => ((numB cs t.toNat : Nat) : Int)) ++ [((numB cs t.toNat : Nat) : Int)]) := Lib.hid (by simp)
      clear h1 hpre htg hat ht0 hz hI6
      gi_wp2_with (first | (refine ⟨trivial, ?_⟩; gi_at_call 23; go_must (refine (callsIn_wide.2 (hbn _ hst6.out.ints)).mono ?_; rintro e W7 ⟨rfl, hg7⟩; have H7 := Lib.hid (H1.out.kept hg7); have d7 : W7.cell? ⟨W.heap.size, 0, none⟩ = some (.slice A1 pre.length c1) := H7.out.bx.cell 0; have hl8 := cell_ltB d7; have HG7 := Lib.hid hg7; clear hg7)) | (gi_at_builtin; go_loud (refine wpListIn_append_z (z := ((numB cs t.toNat : Nat) : Int)) (base := W.heap.size + 3) rfl _ _ rfl rfl rfl (H7.out.ow.none_ (only_alloc (only_refl _ _) (.cells #[.int .i64 ((numB cs t.toNat : Nat) : Int)] 3))) (blk_atB rfl _ _) (by rw [List.length_map]; omega) (by have := HG7.out.size; simp; omega) ?_); intro v5 W8 ho5 hg5; have hg5 : (W7.alloc (.cells #[.int .i64 ((numB cs t.toNat : Nat) : Int)] 3)).grownBy W8 (Value.slice A1 pre.length c1).ownBlock := hg5; obtain ⟨A8, c8, rfl, _⟩ := id ho5.reads; rw [hlm] at ho5; have HX := Lib.hid (H7.out.kept (only_alloc (only_refl W7 none) (.cells #[.int .i64 ((numB cs t.toNat : Nat) : Int)] 3))); have b8 := HX.out.at_ hg5; have d8 := b8.cell 0; have f8 := b8.frozen 0; have HO8 := Lib.hid ho5; have HG8 := Lib.hid hg5; clear ho5 hg5 b8))
      have hput := HX.out.put HG8.out HO8.out
      refine ⟨((((KeepsOthers.of_grownBy HG7.out (fun _ _ e => by cases e)).trans (KeepsOthers.alloc _ _)).trans (HX.out.others HG8.out)).trans (KeepsOthers.setCell _ _ _)).from _, ((KS.grown HG7.out).trans (KS.alloc _ _)).trans (HX.out.ks HG8.out _), _, by rw [HMP.out]; exact hput⟩
    case done =>
      rintro D W5 hD ⟨v', h1⟩ hK
      have hI5 := (HI.out.kept h1.gr).mark (fun D' hm => by have := hDs D' hm; omega) (by omega) hK
      have hbF5 := HBF.out.kept h1.gr
      have hno5 := HNO.out.none_ h1.gr
      have hib := h1.ow.ib
      rw [next_ints] at hib
      have d7 : W5.cell? ⟨W.heap.size, 0, none⟩ = some v' := h1.bx.cell 0
      have d1 : W5.cell? ⟨Bf, 1, none⟩ = some (.slice An k cn) := hbF5.cell 1
      have hl7 := cell_ltB d7
      have hl8 : Bf < W5.heap.size := cell_ltB d1
      obtain ⟨A7, c7, e7, _⟩ := id hib
      subst e7
      have hg9 : W5.grownBy (W5.alloc (.cells #[.slice A7 (intsN (nextB cs k)).length c7] 24)) none := only_alloc (only_refl _ _) _
      have HI9 := Lib.hid (hI5.kept hg9)
      have HBF9 := Lib.hid (hbF5.kept hg9)
      have HNO9 := Lib.hid (hno5.none_ hg9)
      have HIB9 := Lib.hid (hib.kept hg9)
      have HNL : Hid ((((List.range k).map (nextB cs)).map intsN).length ≤ 1000000) := Lib.hid (by simp; omega)
      have HNE : Hid (((List.range (k + 1)).map (nextB cs)).map intsN = ((List.range k).map (nextB cs)).map intsN ++ [intsN (nextB cs k)]) := Lib.hid (by rw [List.range_succ]; simp)
      have HNK : Hid ((((List.range (k + 1)).map (nextB cs)).map intsN).length = k + 1) := Lib.hid (by simp)
      generalize (intsN (nextB cs k)).length = n7 at *
      clear h1 hI5 hbF5 hno5 hib hK hg9
      gi_wp2_with (gi_at_builtin; go_loud (refine wpListIn_append_row (base := Bf + 1) rfl _ _ rfl rfl rfl HNO9.out (blk_atB rfl _ _) HIB9.out HNL.out (by simp; omega) ?_); intro v5 W8 ho5 hg5; have hg5 : (W5.alloc (.cells #[.slice A7 n7 c7] 24)).grownBy W8 (Value.slice An k cn).ownBlock := hg5; rw [← HNE.out] at ho5; obtain ⟨A8, c8, rfl, _⟩ := id ho5.nx; rw [HNK.out] at ho5; have HF8 := Lib.hid (HI9.out.next HBF9.out HNO9.out hg5 ho5); have b8 := HBF9.out.grown hg5 (fun e => by obtain ⟨_, cs', hb'⟩ := own_rowB HNO9.out.row _ e.symm; exact Blk.ne_ HBF9.out hb' (by decide) rfl); have d8 := b8.cell 1; have f8 := b8.frozen 1; clear ho5 hg5 b8)
      exact ⟨⟨k + 1, by omega, D :: Ds, HF8.out, by omega, rfl⟩, by simp [intOf]; omega⟩
  · have hge : (m : Int) + 1 ≤ (k : Int) := by omega
    obtain rfl : k = m + 1 := by omega
    obtain ⟨An, cn, lvs, hbF, hno⟩ := hI.nx
    have d0 : W.cell? ⟨Bf, 0, none⟩ = some (.slice (some ⟨gS, 0, none⟩) (m + 1) cS) := hbF.cell 0
    have d1 : W.cell? ⟨Bf, 1, none⟩ = some (.slice An (m + 1) cn) := hbF.cell 1
    have r0 : W.cell? ⟨w.heap.size, 0, none⟩ = some (.slice none 0 0) := hI.br.cell 0
    have r1 : W.cell? ⟨w.heap.size, 1, none⟩ = some (.slice none 0 0) := hI.br.cell 1
    have f0 := hI.br.frozen 0
    have f1 := hI.br.frozen 1
    have HI := Lib.hid hI
    have HNO := Lib.hid hno
    clear hI hbF hno hk hlt
    gi_wp2_with fail
    have hI := HI.out
    have hg1 : W.grownBy ((W.setCell ⟨w.heap.size, 0, none⟩ (.slice (some ⟨gS, 0, none⟩) (m + 1) cS)).setCell ⟨w.heap.size, 1, none⟩ (.slice An (m + 1) cn)) (some w.heap.size) := only_setCell (p := ⟨w.heap.size, 1, none⟩) (only_setCell (p := ⟨w.heap.size, 0, none⟩) (only_refl _ _) rfl _) rfl _
    have hb1 : Blk ((W.setCell ⟨w.heap.size, 0, none⟩ (.slice (some ⟨gS, 0, none⟩) (m + 1) cS)).setCell ⟨w.heap.size, 1, none⟩ (.slice An (m + 1) cn)) w.heap.size 27 #[.slice (some ⟨gS, 0, none⟩) (m + 1) cS, .slice An (m + 1) cn] := (hI.br.set_ 0 _).set_ 1 _
    have hk1 : KeepsOthers W ((W.setCell ⟨w.heap.size, 0, none⟩ (.slice (some ⟨gS, 0, none⟩) (m + 1) cS)).setCell ⟨w.heap.size, 1, none⟩ (.slice An (m + 1) cn)) := (KeepsOthers.setCell _ _ _).trans (KeepsOthers.setCell _ _ _)
    have hst1 := hI.st.row hg1 (fun g e => by injection e with e; subst e; exact ⟨_, _, hI.br, by decide⟩)
    have hno1 := HNO.out.far hg1 (by have := hI.hbf; omega) ⟨_, _, hI.br, by decide⟩
    have hgw : w.grownBy ((W.setCell ⟨w.heap.size, 0, none⟩ (.slice (some ⟨gS, 0, none⟩) (m + 1) cS)).setCell ⟨w.heap.size, 1, none⟩ (.slice An (m + 1) cn)) none := only_new hI.step hg1 (Nat.le_refl _)
    have hbf9 := hI.hbf
    clear HI HNO d0 d1 r0 r1 f0 f1 hg1
    generalize (W.setCell ⟨w.heap.size, 0, none⟩ (.slice (some ⟨gS, 0, none⟩) (m + 1) cS)).setCell ⟨w.heap.size, 1, none⟩ (.slice An (m + 1) cn) = WF at *
    refine marks_ret (B := Bf + 1) Ds WF hI.apart (fun D hm => ⟨(hI.marks D hm).1, hk1.same D _ (hI.marks D hm).2 rfl⟩) fun W' hW' => ⟨.agg #[.slice (some ⟨gS, 0, none⟩) (m + 1) cS, .slice An (m + 1) cn], ?_, _, rfl, ⟨_, _, rfl, ?_, ?_⟩, hW'.grown hgw (by omega)⟩
    · have hb2 := hb1.keeps hW'.2
      have c0 := hb2.cell 0
      have c1 := hb2.cell 1
      simp [results, Try.results10, go_sem, c0, c1]
    · show IB W' _ (intsN (startsL cs))
      rw [HZS.out]
      exact hst1.keepc hW'.2
    · have := hno1.nx.keepc hW'.2
      show NX W' _ (((List.range (startsL cs).length).map (nextB cs)).map intsN)
      rw [HSM.out]
      exact this
end Go.Proofs.Ytgdoklbcmgkllaa

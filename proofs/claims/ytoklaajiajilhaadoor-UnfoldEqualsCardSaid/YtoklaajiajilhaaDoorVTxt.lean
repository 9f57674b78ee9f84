/- unfold: a type's text, by the closure that calls itself. -/
import Derived.Test.YtoklaajiajilhaaDoorVPar
import Derived.Test.YtoklaajiajilhaaDoorVFtx
import Derived.Test.YtoklaajiajilhaaDoorULaw
import Derived.Laws.EntriesVeiled
namespace Go.Proofs.YtoklaajiajilhaaDoor
open Go.RowKit Go.Shelf
attribute [local go_sem] Oper.semAt_some

/-! ### Plainly -/
section
variable {xs : List Nd}
theorem face_none {p : Ed} (h : nodeAt xs p.1 = none) : faceL xs p = ⟨false, 0, 0, false, 0⟩ := by unfold faceL; rw [h]
theorem face_not {p : Ed} {x : Nd} (h : nodeAt xs p.1 = some x) (ha : actsK x.kind = false) : faceL xs p = ⟨true, x.kind, 0, false, 0⟩ := by unfold faceL; rw [h]; dsimp only; rw [if_neg (by rw [ha]; simp)]
theorem face_acts {p : Ed} {x : Nd} (h : nodeAt xs p.1 = some x) (ha : actsK x.kind = true) : faceL xs p = ⟨true, x.kind, wrap64 (x.prio + p.2), x.chan, (x.next.length : Int)⟩ := by unfold faceL; rw [h]; dsimp only; rw [if_pos ha]
theorem parts_acts {p : Ed} {x : Nd} (h : nodeAt xs p.1 = some x) (ha : actsK x.kind = true) : partsL xs p = (payL x ++ x.next).map (stepT p) := by unfold partsL; rw [h]; dsimp only; rw [if_pos ha]
theorem textF_node {dt : Ed → List UInt8} {p : Ed} {x : Nd} (ha : actsK x.kind = true) : textF ⟨true, x.kind, wrap64 (x.prio + p.2), x.chan, (x.next.length : Int)⟩ (((payL x ++ x.next).map (stepT p)).map dt) = nodeX Lib.itoa dt x p := by
  have hk : x.kind = 1 ∨ x.kind = 2 ∨ x.kind = 3 ∨ x.kind = 4 := by
    unfold actsK at ha
    rw [Bool.and_eq_true, decide_eq_true_eq, decide_eq_true_eq] at ha
    omega
  have e1 : payF ⟨true, x.kind, wrap64 (x.prio + p.2), x.chan, (x.next.length : Int)⟩ (((payL x ++ x.next).map (stepT p)).map dt) = if x.kind = 1 ∨ x.kind = 2 then (if x.chan then dt (stepT p x.pay) else [119]) else [] := by
    unfold payF payL
    dsimp only
    rcases hk with h | h | h | h <;> rw [h] <;> cases x.chan <;> simp
  have e2 : nextF ⟨true, x.kind, wrap64 (x.prio + p.2), x.chan, (x.next.length : Int)⟩ (((payL x ++ x.next).map (stepT p)).map dt) = x.next.map fun e => dt (stepT p e) := by
    unfold nextF payL
    dsimp only
    cases x.chan <;> simp
  unfold textF nodeX
  rw [e1, e2, sign_acts ha]
theorem commas_len : ∀ {l : List (List UInt8)} {n : Nat}, (∀ s ∈ l, s.length ≤ n) → (commas l).length ≤ l.length * (n + 1)
  | [], _, _ => by simp [commas]
  | [a], n, h => by
    have := h a (by simp)
    show a.length ≤ 1 * (n + 1)
    omega
  | a :: b :: l, n, h => by
    have h1 := h a (by simp)
    have h2 := commas_len (l := b :: l) (n := n) (fun s hs => h s (List.mem_cons_of_mem _ hs))
    show (a ++ 44 :: commas (b :: l)).length ≤ _
    rw [List.length_append, List.length_cons, List.length_cons, Nat.succ_mul]
    omega
theorem next_le (hl : largeB xs = false) {i : Int} {x : Nd} (hx : nodeAt xs i = some x) : x.next.length ≤ 8 := by
  unfold largeB at hl
  rw [Bool.or_eq_false_iff, List.any_eq_false] at hl
  have := hl.2 x (List.mem_of_getElem? (nodeAt_some hx).2.2)
  simp only [decide_eq_true_eq] at this
  omega
def capT : Nat → Nat
  | 0 => 40
  | d + 1 => 10 * capT d
theorem text_len (hl : largeB xs = false) : ∀ (d : Nat) (t : Ed), (textD Lib.itoa xs d t).length ≤ capT d
  | 0, t => by
    unfold textD
    split
    · simp [capT]
    · split <;> simp [capT]
  | d + 1, t => by
    have ih := text_len hl d
    have hc : 40 ≤ capT d := by
      clear ih
      induction d with
      | zero => exact Nat.le_refl _
      | succ d ih => show 40 ≤ 10 * capT d; omega
    show _ ≤ 10 * capT d
    unfold textD
    split
    · simp; omega
    · rename_i x hx
      split
      · unfold nodeX
        have h8 : x.next.length ≤ 8 := by
          unfold largeB at hl
          rw [Bool.or_eq_false_iff, List.any_eq_false] at hl
          have := hl.2 x (List.mem_of_getElem? (nodeAt_some hx).2.2)
          simp only [decide_eq_true_eq] at this
          omega
        have hi := Lib.itoa_length_le (wrap64 (x.prio + (resolveL xs t).2)) (by unfold wrap64; omega) (by unfold wrap64; omega)
        have hs : (signK x.kind).length = 1 := by
          unfold signK
          split
          · rfl
          · split
            · rfl
            · split <;> rfl
        have hm := commas_len (l := x.next.map fun e => textD Lib.itoa xs d (stepT (resolveL xs t) e)) (n := capT d) (fun s hs => by obtain ⟨e, _, rfl⟩ := List.mem_map.1 hs; exact ih _)
        rw [List.length_map] at hm
        have hm2 : x.next.length * (capT d + 1) ≤ 8 * (capT d + 1) := Nat.mul_le_mul_right _ h8
        have hp : (if x.kind = 1 ∨ x.kind = 2 then (if x.chan then textD Lib.itoa xs d (stepT (resolveL xs t) x.pay) else [119]) else []).length ≤ capT d := by
          split
          · split
            · exact ih _
            · simp; omega
          · simp
        simp only [List.length_append, List.length_cons, List.length_nil] at hm ⊢
        omega
      · simp; omega
end

theorem cap_le : ∀ {k : Nat}, k ≤ 5 → capT k ≤ 4000000 := fun {k} h => by
  have : k = 0 ∨ k = 1 ∨ k = 2 ∨ k = 3 ∨ k = 4 ∨ k = 5 := by omega
  rcases this with rfl | rfl | rfl | rfl | rfl | rfl <;> decide
theorem strs_own {w W : World} {T : TypeId} {Bk : Nat} {v : Value} {ss : List (List UInt8)} (h : GB w T 9 1 Bk v ss.length (ss.map strV) W) : StrS W v ss := by
  rcases h.ow.2 with ⟨rfl, he⟩ | ⟨g, cap, cur, rfl, _, hg, hnc, _⟩
  · obtain rfl : ss = [] := List.length_eq_zero_iff.1 he
    exact ⟨none, 0, rfl, Nat.le_refl _, fun h => absurd rfl h⟩
  · refine ⟨_, _, rfl, hnc, fun _ => ⟨g, 0, rfl, (Array.getElem?_eq_some_iff.1 hg).1, fun j s hs => ?_⟩⟩
    have := h.ow.cells (g := g) rfl j (strV s) (by rw [List.getElem?_map, hs]; rfl)
    rwa [addr_plain] at this
abbrev txV (Bn Bt : Nat) : Value := .func (.func 20) #[] #[.pointer (some ⟨Bn, 0, none⟩), .pointer (some ⟨Bt, 0, none⟩)]
/-- What must stand as a text is asked for. -/
structure TW (xs : List Nd) (v : Value) (Bn Bt : Nat) (w : World) : Prop where
  tl : TabL w
  tb : Tbl w v xs
  bn : Blk w Bn 22 #[v]
  bt : Blk w Bt 55 #[txV Bn Bt]
theorem TW.kept {xs : List Nd} {v : Value} {Bn Bt : Nat} {w w' : World} (h : TW xs v Bn Bt w) (hg : w.grownBy w' none) : TW xs v Bn Bt w' := ⟨tabL_kept h.tl hg, h.tb.keep (.grown hg), h.bn.kept hg, h.bt.kept hg⟩
def TextC (xs : List Nd) (d : Nat) : Prop := ∀ (v : Value) (t : Ed) (Bn Bt : Nat) (w : World), TW xs v Bn Bt w → Calls Tryd.prog 20 #[edV t, .int .i64 (d : Int), .pointer (some ⟨Bn, 0, none⟩), .pointer (some ⟨Bt, 0, none⟩)] w fun e w' => e = .returned (strV (textD Lib.itoa xs d t)) ∧ w.grownBy w' none
/-- What stands behind the first two steps. -/
structure TS (w : World) (left : Int) (Ba Bf : Nat) (p : Ed) (f : Fc) (W : World) : Prop where
  gr : w.grownBy W none
  bl : Blk W (w.heap.size + 1) 3 #[.int .i64 left]
  ba : Blk W Ba 24 (edCells p)
  bf : Blk W Bf 47 (fcA f)
  ha : w.heap.size ≤ Ba
  hf : w.heap.size ≤ Bf
theorem TS.kept {w : World} {left : Int} {Ba Bf : Nat} {p : Ed} {f : Fc} {W W' : World} (h : TS w left Ba Bf p f W) (hg : W.grownBy W' none) : TS w left Ba Bf p f W' := ⟨only_trans h.gr hg, h.bl.kept hg, h.ba.kept hg, h.bf.kept hg, h.ha, h.hf⟩

/-- Between two parts: what has been told, the box of what is left, the face's. -/
def TI (w : World) (z : Int) (Bk Bf : Nat) (f : Fc) (dt : Ed → List UInt8) (pre : List Ed) (W : World) : Prop := ∃ tv, GB w 57 9 1 Bk tv (pre.map dt).length ((pre.map dt).map strV) W ∧ Blk W (w.heap.size + 1) 3 #[.int .i64 z] ∧ Blk W Bf 47 (fcA f)
theorem ti_own_ {w : World} {z : Int} {Bk Bf B : Nat} {f : Fc} {dt : Ed → List UInt8} (hB : w.heap.size ≤ B) : OwnFrom B (TI w z Bk Bf f dt) := fun _ _ _ _ ⟨tv, h1, h2, h3⟩ hg hr => ⟨tv, h1.own hB hg hr, blk_ownF h2 hg hr, blk_ownF h3 hg hr⟩
/-- The stages of a round: the part's text, the row that holds it, the append, the store. -/
def Tsg (base Bk : Nat) (v : Value) (ss : List (List UInt8)) (s : List UInt8) (X : World) : Nat → (Tmp → Value) → World → Prop
  | 0, _, W => X.grownBy W none
  | 1, f, W => f 38 = strV s ∧ X.grownBy W none
  | 2, f, W => ∃ g, f 39 = .slice (some ⟨g, 0, none⟩) 1 1 ∧ Blk W g 9 #[strV s] ∧ X.grownBy W none
  | 3, f, W => ∃ v' W3, f 40 = v' ∧ X.grownBy W3 none ∧ W3.grownBy W v.ownBlock ∧ W.ownsRow base 9 1 v' (ss ++ [s]).length ((ss ++ [s]).map strV)
  | 4, _, W => ∃ v' W3 W4, W = W4.setCell ⟨Bk, 0, none⟩ v' ∧ X.grownBy W3 none ∧ W3.grownBy W4 v.ownBlock ∧ W4.ownsRow base 9 1 v' (ss ++ [s]).length ((ss ++ [s]).map strV)
  | _, _, _ => False
/-- The call of the closure. -/
theorem wp_text {o : Oper} {b : Act} {W : World} {K : Act → World → Prop} {Q : Exit → Act → World → Prop} {t34 t35 t37 : Tmp} {Bn Bt : Nat} {p q : Value} {ts : Array TypeId} {R : Ending → World → Prop} (ho : o.op = .call { callee := .value (.tmp t34), args := #[.tmp t35, .tmp t37], argTypes := ts })
    (h34 : b.eval (.tmp t34) = txV Bn Bt) (h35 : b.eval (.tmp t35) = p) (h37 : b.eval (.tmp t37) = q)
    (hc : Calls Tryd.prog 20 #[p, q, .pointer (some ⟨Bn, 0, none⟩), .pointer (some ⟨Bt, 0, none⟩)] W R)
    (hR : ∀ e W', R e W' → ∃ x, e = .returned x ∧ K (b.put o.dst x) W') : o.wp Tryd.prog b W K Q := by
  have h27' : b.tmps[t34]?.getD undef = txV Bn Bt := by simpa [Act.eval] using h34
  have h28' : b.tmps[t35]?.getD undef = p := by simpa [Act.eval] using h35
  have h30' : b.tmps[t37]?.getD undef = q := by simpa [Act.eval] using h37
  obtain ⟨dst, op, type, pos, after, guard⟩ := o
  dsimp only at ho
  subst ho
  have hrun : ∀ args W, (callFunc 20 args).run Tryd.prog W = .ok (.enter 20 args) W := enters_of Tryd.func20 (by kernel_rfl) rfl
  have hr : (execOp b.eval ⟨dst, .call { callee := .value (.tmp t34), args := #[.tmp t35, .tmp t37], argTypes := ts }, type, pos, after, guard⟩).run Tryd.prog W = .ok (.enter 20 #[p, q, .pointer (some ⟨Bn, 0, none⟩), .pointer (some ⟨Bt, 0, none⟩)]) W := by
    simp [execOp, resolve, Deferred.ofValue, invoke, Act.eval, h27', h28', h30', hrun, txV]
  unfold Oper.wp
  rw [hr, Oper.upon_enter]
  refine hc.mono fun e w'' hh => ?_
  obtain ⟨x, rfl, hk⟩ := hR e w'' hh
  exact hk

set_option maxRecDepth 100000 in
set_option maxHeartbeats 4000000 in
theorem text1_any (xs : List Nd) (hxs : xs.length ≤ 1000) (hlg : largeB xs = false) (d : Nat) (hd : d ≤ 5) (ih : ∀ k, d = k + 1 → TextC xs k) : TextC xs d := by
  intro v t Bn Bt w hTW
  have HW := Lib.hid hTW
  obtain ⟨A, cap, rfl, hcl⟩ := hTW.tb
  have n0 := hTW.bn.cell 0
  have hbn := hTW.bn.lt
  obtain ⟨p, hp⟩ : ∃ p, resolveL xs t = p := ⟨_, rfl⟩
  obtain ⟨f, hf⟩ : ∃ f, faceL xs p = f := ⟨_, rfl⟩
  have HP := Lib.hid hp
  have HF := Lib.hid hf
  have HC : Hid (nodeAt xs p.1 = none → p.1 < 0) := Lib.hid fun h => by
    rcases resolve_at xs t with h2 | ⟨x, h2, _⟩
    · rw [hp] at h2; rw [h2]; decide
    · rw [hp, h] at h2; cases h2
  obtain ⟨z, hz⟩ : ∃ z : Int, (d : Int) = z := ⟨_, rfl⟩
  have HZ := Lib.hid hz
  rw [hz]
  clear hz
  have HXS := Lib.hid hxs
  obtain ⟨r, hr⟩ : ∃ r, textD Lib.itoa xs d t = r := ⟨_, rfl⟩
  have HRR := Lib.hid hr
  rw [hr]
  clear hcl hTW hp hf hxs hr
  refine (callsIn_wide (n := 3)).1 ?_
  refine callsIn_of_wp_marks Tryd.func20 rfl trivial ?_ rfl
  simp only [Tryd.ntmps20, List.size_toArray, List.length_cons, List.length_nil, Nat.reduceAdd, Nat.reduceSub, Array.replicate_succ, Array.replicate_zero, List.push_toArray, List.append_toArray, List.nil_append, List.cons_append]
  gi_upto_region 1 with fail
  have hg0 : w.grownBy ((w.alloc (.cells (edCells t) 24)).alloc (.cells #[.int .i64 z] 3)) none := only_alloc (only_alloc (only_refl _ _) _) _
  have HBL : Hid (Blk ((w.alloc (.cells (edCells t) 24)).alloc (.cells #[.int .i64 z] 3)) (w.heap.size + 1) 3 #[.int .i64 z]) := Lib.hid (blk_at (by simp) _ _)
  have HT0 : Hid (Blk ((w.alloc (.cells (edCells t) 24)).alloc (.cells #[.int .i64 z] 3)) w.heap.size 24 (edCells t)) := Lib.hid ((Blk.new w _ _).alloc _)
  revert hg0 HBL HT0
  generalize World.alloc (World.alloc w _) _ = W0
  intro hg0 HBL HT0
  have HG0 := Lib.hid hg0
  have z0 : W0.cell? ⟨Bn, 0, none⟩ = some (.slice A xs.length cap) := (HW.out.kept hg0).bn.cell 0
  have z1 : W0.cell? ⟨w.heap.size, 0, none⟩ = some (.int .i64 t.1) := HT0.out.cell 0
  have z2 : W0.cell? ⟨w.heap.size, 1, none⟩ = some (.int .i64 t.2) := HT0.out.cell 1
  clear hg0 n0 HT0
  gi_upto_region 2 with (refine ⟨trivial, ?_⟩; gi_at_call 13; go_must (refine (callsIn_wide.2 (resolve_any xs _ t _ (HW.out.kept HG0.out).tb (by have := HXS.out; omega))).mono ?_; rw [HP.out]; rintro e W1 ⟨rfl, hg⟩; have HG1 := Lib.hid (only_trans HG0.out hg); have HB1 := Lib.hid (HBL.out.kept hg); clear hg))
  have hga : w.grownBy (W1.alloc (.cells (edCells p) 24)) none := only_alloc HG1.out _
  have HBA : Hid (Blk (W1.alloc (.cells (edCells p) 24)) W1.heap.size 24 (edCells p)) := Lib.hid (Blk.new _ _ _)
  have HBLa : Hid (Blk (W1.alloc (.cells (edCells p) 24)) (w.heap.size + 1) 3 #[.int .i64 z]) := Lib.hid (HB1.out.alloc _)
  have hBa : w.heap.size ≤ W1.heap.size := HG1.out.size
  revert hga HBA HBLa hBa
  generalize World.alloc W1 _ = Wa
  generalize W1.heap.size = Ba
  intro hga HBA HBLa hBa
  have HGA := Lib.hid hga
  have z3 : Wa.cell? ⟨Bn, 0, none⟩ = some (.slice A xs.length cap) := (HW.out.kept hga).bn.cell 0
  have z4 : Wa.cell? ⟨Ba, 0, none⟩ = some (.int .i64 p.1) := HBA.out.cell 0
  have z5 : Wa.cell? ⟨Ba, 1, none⟩ = some (.int .i64 p.2) := HBA.out.cell 1
  have hzb := cell_lt z4
  clear hga z0 z1 z2 HBL HB1 HG0 HG1
  gi_upto_region 3 with (refine ⟨trivial, ?_⟩; gi_at_call 14; go_must (refine (callsIn_wide.2 (face_any xs _ p _ (HW.out.kept HGA.out).tb HXS.out HC.out)).mono ?_; rw [HF.out]; rintro e W2 ⟨rfl, hg⟩; have HG2 := Lib.hid (only_trans HGA.out hg); have HA2 := Lib.hid (HBA.out.kept hg); have HL2 := Lib.hid (HBLa.out.kept hg); clear hg))
  have HS : Hid (TS w z Ba W2.heap.size p f (W2.alloc (.cells (fcA f) 47))) := Lib.hid ⟨only_alloc HG2.out _, HL2.out.alloc _, HA2.out.alloc _, Blk.new _ _ _, hBa, HG2.out.size⟩
  revert HS
  generalize World.alloc W2 _ = W3
  generalize W2.heap.size = Bf
  intro HS
  clear HBA HBLa HGA z3 z4 z5 hzb hBa HG2 HA2 HL2 HC
  have f0 : W3.cell? ⟨Bf, 0, none⟩ = some (.bool f.node) := HS.out.bf.cell 0
  have f1 : W3.cell? ⟨Bf, 1, none⟩ = some (.int .i64 f.kind) := HS.out.bf.cell 1
  have hbf := cell_lt f0
  cases hn : nodeAt xs p.1 with
  | none =>
    have hfe : f = ⟨false, 0, 0, false, 0⟩ := by rw [← HF.out]; exact face_none hn
    have HR2 : Hid (r = [63]) := Lib.hid (by rw [← HRR.out]; cases d <;> (unfold textD; rw [HP.out, hn]))
    rw [hfe] at f0
    clear hfe hn
    gi_wp2_with fail
    refine marks_ret (B := W3.heap.size) [] _ List.nodup_nil (fun D h => by cases h) fun W' hW' => ⟨_, results_tmp (t := 6) rfl _ _ _, by rw [HR2.out]; rfl, hW'.grown HS.out.gr HS.out.gr.size⟩
  | some x =>
    have HN := Lib.hid hn
    cases hka : actsK x.kind with
    | false =>
      have hfe : f = ⟨true, x.kind, 0, false, 0⟩ := by rw [← HF.out]; exact face_not hn hka
      have HR2 : Hid (r = [48]) := Lib.hid (by rw [← HRR.out]; cases d <;> (unfold textD; rw [HP.out, hn]; dsimp only; rw [if_neg (by rw [hka]; simp)]))
      have HKA := Lib.hid hka
      rw [hfe] at f0 f1
      clear hfe hn hka
      gi_wp2_with (refine ⟨trivial, ?_⟩; gi_at_call 21; go_must (refine (callsIn_wide.2 (uacts_any _ _)).mono ?_; rw [HKA.out]; rintro e W4 ⟨rfl, hg⟩; have HG4 := Lib.hid (only_trans HS.out.gr hg); clear hg))
      refine marks_ret (B := W4.heap.size) [] _ List.nodup_nil (fun D h => by cases h) fun W' hW' => ⟨_, results_tmp (t := 6) rfl _ _ _, by rw [HR2.out]; rfl, hW'.grown HG4.out HG4.out.size⟩
    | true =>
      have hfe : f = ⟨true, x.kind, wrap64 (x.prio + p.2), x.chan, (x.next.length : Int)⟩ := by rw [← HF.out]; exact face_acts hn hka
      have HKA := Lib.hid hka
      have HFE := Lib.hid hfe
      rw [hfe] at f0 f1
      clear hfe hka
      gi_upto_region 7 with (refine ⟨trivial, ?_⟩; gi_at_call 21; go_must (refine (callsIn_wide.2 (uacts_any _ _)).mono ?_; rw [HKA.out]; rintro e W4 ⟨rfl, hg⟩; have HS4 := Lib.hid (HS.out.kept hg); clear hg))
      have l0 : W4.cell? ⟨w.heap.size + 1, 0, none⟩ = some (.int .i64 z) := HS4.out.bl.cell 0
      clear f0 f1 hbf HS
      cases d with
      | zero =>
        have HR2 : Hid (r = [46]) := Lib.hid (by rw [← HRR.out]; unfold textD; rw [HP.out, hn]; dsimp only; rw [if_pos HKA.out])
        have hz : z = 0 := HZ.out.symm
        subst hz
        clear hn
        gi_wp2_with fail
        refine marks_ret (B := W4.heap.size) [] _ List.nodup_nil (fun D h => by cases h) fun W' hW' => ⟨_, results_tmp (t := 6) rfl _ _ _, by rw [HR2.out]; rfl, hW'.grown HS4.out.gr HS4.out.gr.size⟩
      | succ k =>
        have HR2 : Hid (r = nodeX Lib.itoa (textD Lib.itoa xs k) x p) := Lib.hid (by rw [← HRR.out]; unfold textD; rw [HP.out, hn]; dsimp only; rw [if_pos HKA.out])
        clear hn
        have hz0 : (z == 0) = false := by have := HZ.out; simp; omega
        gi_upto_region 9 with fail
        have hw4 : w.heap.size + 1 < W4.heap.size := HS4.out.bl.lt
        have y3 : W4.cell? ⟨Bn, 0, none⟩ = some (.slice A xs.length cap) := (HW.out.kept HS4.out.gr).bn.cell 0
        have y4 : W4.cell? ⟨Ba, 0, none⟩ = some (.int .i64 p.1) := HS4.out.ba.cell 0
        have y5 : W4.cell? ⟨Ba, 1, none⟩ = some (.int .i64 p.2) := HS4.out.ba.cell 1
        have hy3 := cell_lt y3
        have hy4 := cell_lt y4
        clear l0
        gi_wp2_with (refine ⟨trivial, ?_⟩; gi_at_call 22; go_must (refine (callsIn_wide.2 (parts_any _ _ _ p _)).mono ?_; rintro e w5 ⟨rfl, rfl⟩))
        clear y3 y4 y5 hy3 hy4
        have hg6 : w.grownBy (((W4.alloc (.cells #[.slice none 0 0] 57)).alloc (.cells #[.slice A xs.length cap] 22)).alloc (.cells (edCells p) 24)) none := only_alloc (only_alloc (only_alloc HS4.out.gr _) _) _
        have hti : TI w z W4.heap.size Bf f (textD Lib.itoa xs k) [] (((W4.alloc (.cells #[.slice none 0 0] 57)).alloc (.cells #[.slice A xs.length cap] 22)).alloc (.cells (edCells p) 24)) :=
          ⟨.slice none 0 0, ⟨hg6, ((Blk.new W4 _ _).alloc _).alloc _, by omega, ⟨rfl, .inl ⟨rfl, rfl⟩⟩⟩, ((HS4.out.bl.alloc _).alloc _).alloc _, ((HS4.out.bf.alloc _).alloc _).alloc _⟩
        have hb1 : Blk (((W4.alloc (.cells #[.slice none 0 0] 57)).alloc (.cells #[.slice A xs.length cap] 22)).alloc (.cells (edCells p) 24)) (W4.heap.size + 1) 22 #[.slice A xs.length cap] := (blk_at (by simp) _ _).alloc _
        have hb2 : Blk (((W4.alloc (.cells #[.slice none 0 0] 57)).alloc (.cells #[.slice A xs.length cap] 22)).alloc (.cells (edCells p) 24)) (W4.heap.size + 1 + 1) 24 (edCells p) := blk_at (by simp) _ _
        have hz6 : (((W4.alloc (.cells #[.slice none 0 0] 57)).alloc (.cells #[.slice A xs.length cap] 22)).alloc (.cells (edCells p) 24)).heap.size = W4.heap.size + 3 := by simp
        revert hg6 hti hb1 hb2 hz6 hw4
        generalize World.alloc _ _ = W6
        generalize W4.heap.size = Bk
        intro hw4 hg6 hti hb1 hb2 hz6
        have HB1 := Lib.hid hb1
        have HB2 := Lib.hid hb2
        have HG6 := Lib.hid hg6
        clear hb1 hb2 HS4
        have HIH : Hid (TextC xs k) := Lib.hid (ih k rfl)
        clear ih
        refine wpIn_rangeFunc_told rfl (by omega) (gf := 29) (lb := #[.pointer (some ⟨Bk + 1 + 1, 0, none⟩), .pointer (some ⟨Bk + 1, 0, none⟩)]) rfl trivial (enters_of Tryd.func29 (by kernel_rfl) rfl)
          (parts_told w.heap.size (Bk + 1 + 1) (Bk + 1) [9, 57] (by decide) (by decide) w xs (.slice A xs.length cap) p HXS.out (fun h => by rw [HN.out] at h; cases h)) KB.trans (fun W l o o' hl ho hc => KB.putObj W l o o' (Nat.le_trans (by omega) hl) ho hc) KB.alloc (fun _ => rfl) ?t0
          (TI w z Bk Bf f (textD Lib.itoa xs k)) (fun _ _ _ => False) (ti_own_ (by omega)) (fun _ _ _ _ _ h => h.elim) hti 24 edCells
          (fun e Bx => { tmps := #[edV t, .int .i64 z, .pointer (some ⟨Bn, 0, none⟩), .pointer (some ⟨Bt, 0, none⟩), .pointer (some ⟨w.heap.size, 0, none⟩), .pointer (some ⟨w.heap.size + 1, 0, none⟩), .string ⟨#[]⟩, .pointer (some ⟨Ba, 0, none⟩), .pointer (some ⟨Bf, 0, none⟩), .pointer (some ⟨Bk, 0, none⟩), .pointer (some ⟨Bx, 0, none⟩), .slice A xs.length cap, edV t, edV p, .slice A xs.length cap, edV p, fcV f, .bool false, .pointer (some ⟨Bf, 0, none⟩), .bool true, .bool false, .bool false, .pointer (some ⟨Bf, 1, none⟩), .int .i64 x.kind, .bool true, .bool false, .bool false, .int .i64 z, .bool false, .slice A xs.length cap, edV p, .func (.func 29) #[] #[.pointer (some ⟨Bk + 1 + 1, 0, none⟩), .pointer (some ⟨Bk + 1, 0, none⟩)], edV e, undef, undef, undef, undef, undef, undef, undef, undef, undef, undef, undef], defers := [] }) ?assign ?body ?done ?stop
        case t0 =>
          intro W hW
          exact ⟨rfl, HW.out.tb, below_only hW HG6.out (by omega), HB2.out.below hW (by omega), HB1.out.below hW (by omega)⟩
        case assign =>
          intro l e W K hK
          gi_wp2
          exact hK
        case stop =>
          rintro D c pre W hD hpre hne h hK
          exact h.elim
        case done =>
          rintro D W hD ⟨tv, h1, h2, h3⟩ hK
          have b0 := h3.cell 0
          have b1 := h3.cell 1
          have b2 := h3.cell 2
          have b3 := h3.cell 3
          have b4 := h3.cell 4
          have b5 : W.cell? ⟨Bk, 0, none⟩ = some tv := h1.bx.cell 0
          obtain ⟨ss, hss⟩ : ∃ ss, (partsL xs p).map (textD Lib.itoa xs k) = ss := ⟨_, rfl⟩
          rw [hss] at h1
          have hsl : ss.length = (payL x ++ x.next).length := by rw [← hss, List.length_map, parts_acts HN.out HKA.out, List.length_map]
          have hp1 : (payL x).length ≤ 1 := by unfold payL; split <;> simp
          have h8 := next_le hlg HN.out
          rw [List.length_append] at hsl
          have hmem : ∀ s ∈ ss, s.length ≤ capT k := fun s hs => by
            rw [← hss] at hs
            obtain ⟨e, _, rfl⟩ := List.mem_map.1 hs
            exact text_len hlg k e
          have hck := cap_le (show k ≤ 5 by omega)
          have hmul : ∀ m, m ≤ 9 → m * (capT k + 1) ≤ 9 * 4000001 := fun m hm => Nat.mul_le_mul hm (by omega)
          have HTX : Hid (textF f ss = r) := Lib.hid (by rw [← hss, parts_acts HN.out HKA.out, HFE.out, HR2.out]; exact textF_node HKA.out)
          have HCT : Hid (Calls Tryd.prog 23 #[fcV f, tv] W fun e w' => e = .returned (strV r) ∧ W.grownBy w' none) := Lib.hid (by
            rw [← HTX.out]
            refine ftext_any f tv ss W (HW.out.kept h1.gr).tl (strs_own h1) (by rw [HFE.out]; dsimp only; unfold wrap64; omega) (fun hch e => ?_) (by omega) ?_ ?_
            · rw [HFE.out] at hch
              dsimp only at hch
              have : (payL x).length = 1 := by unfold payL; rw [if_pos hch]; rfl
              rw [e] at hsl
              simp at hsl
              omega
            · refine Nat.le_trans (commas_len (n := capT k) (fun s hs => hmem s ?_)) (Nat.le_trans (hmul _ ?_) (by decide))
              · unfold nextF at hs
                split at hs
                · exact List.mem_of_mem_tail hs
                · exact hs
              · unfold nextF
                split
                · rw [List.length_tail]; omega
                · omega
            · unfold payF
              split
              · simp
              · split
                · cases hs0 : ss with
                  | nil => simp
                  | cons s ss' => rw [List.headD_cons]; have := hmem s (by rw [hs0]; simp); omega
                · simp)
          have HGW := Lib.hid h1.gr
          clear hss hmem hmul hck h8 hp1 hsl h1 h2 h3
          gi_wp2_with (refine ⟨trivial, ?_⟩; gi_at_call 23; go_must (refine (callsIn_wide.2 HCT.out).mono ?_; rintro e W7 ⟨rfl, hg⟩; have HK7 : Hid (W7.heap[D]? = some (.deferred (some []))) := Lib.hid ((hg.block D (Array.getElem?_eq_some_iff.1 hK).1 (fun e => by cases e)).trans hK); have HG7 := Lib.hid (only_trans HGW.out hg); clear hg))
          refine marks_ret (B := W6.heap.size) [D] _ (by simp) (by simp only [List.mem_singleton, forall_eq]; exact ⟨hD, HK7.out⟩) fun W' hW' => ⟨_, results_tmp (t := 6) rfl _ _ _, rfl, hW'.grown HG7.out HG6.out.size⟩
        case body =>
          rintro l pre ⟨e0, e1⟩ W Bx hpre hBx ⟨tv, h1, h2, h3⟩ hbx
          dsimp only
          have hTE : 57 ≠ 9 := by decide
          have hW := HW.out.kept h1.gr
          have hzk : wrap64 (z - 1) = (k : Int) := by have := HZ.out; unfold wrap64; omega
          have hpl : pre.length ≤ 9 := by
            have h9 := List.IsPrefix.length_le hpre
            rw [parts_acts HN.out HKA.out, List.length_append, List.length_map, List.length_append] at h9
            have h8 := next_le hlg HN.out
            have hp1 : (payL x).length ≤ 1 := by unfold payL; split <;> simp
            simp only [List.length_cons, List.length_nil] at h9
            omega
          obtain ⟨ss, hss⟩ : ∃ ss, pre.map (textD Lib.itoa xs k) = ss := ⟨_, rfl⟩
          obtain ⟨s, hs⟩ : ∃ s, textD Lib.itoa xs k (e0, e1) = s := ⟨_, rfl⟩
          have hssl : ss.length ≤ 1000 := by rw [← hss, List.length_map]; omega
          rw [hss] at h1
          gi_upto_region 12 with fail
          refine region_chain (by kernel_rfl) (by kernel_rfl) (by kernel_rfl) [33, 34, 35, 36, 37, 38, 39, 40] (by kernel_rfl) (by kernel_rfl) (by decide)
            [(9, .pointer (some ⟨Bk, 0, none⟩)), (3, .pointer (some ⟨Bt, 0, none⟩)), (10, .pointer (some ⟨Bx, 0, none⟩)), (5, .pointer (some ⟨w.heap.size + 1, 0, none⟩)), (33, tv), (34, txV Bn Bt), (35, edV (e0, e1)), (36, .int .i64 z), (37, .int .i64 (wrap64 (z - 1)))]
            ?h0 [5, 6, 7, 8] (by kernel_rfl) (by kernel_rfl) (by decide) (by kernel_rfl) (Tsg w.heap.size Bk tv ss s W) ?hT ?reads ?steps (only_drew (only_refl _ _)) ?hQ
          case h0 =>
            intro p hp hn
            simp only [List.mem_cons, List.not_mem_nil, or_false] at hp
            rcases hp with rfl | rfl | rfl | rfl | rfl | rfl | rfl | rfl | rfl
            all_goals first | rfl | exact absurd (by dsimp only; decide) hn
          case hT =>
            intro j f g W' hj he
            match j, hj with
            | 0, hj => exact hj
            | 1, ⟨h1, h2⟩ => exact ⟨(he 0 5 _ 38 (by decide) rfl rfl rfl).symm.trans h1, h2⟩
            | 2, ⟨g', h1, h2⟩ => exact ⟨g', (he 1 6 _ 39 (by decide) rfl rfl rfl).symm.trans h1, h2⟩
            | 3, ⟨v', W3, h1, h2⟩ => exact ⟨v', W3, (he 2 7 _ 40 (by decide) rfl rfl rfl).symm.trans h1, h2⟩
            | 4, hj => exact hj
          case reads =>
            intro i o ho hn
            have hrd : ∀ j f W', j < 4 → Tsg w.heap.size Bk tv ss s W j f W' → Blk W' Bk 57 #[tv] ∧ Blk W' Bt 55 #[txV Bn Bt] ∧ Blk W' Bx 24 (edCells (e0, e1)) ∧ Blk W' (w.heap.size + 1) 3 #[.int .i64 z] := by
              intro j f W' hj hT'
              have plain : ∀ {W'}, W.grownBy W' none → Blk W' Bk 57 #[tv] ∧ Blk W' Bt 55 #[txV Bn Bt] ∧ Blk W' Bx 24 (edCells (e0, e1)) ∧ Blk W' (w.heap.size + 1) 3 #[.int .i64 z] := fun hg => ⟨(h1.kept hg).bx, (hW.kept hg).bt, hbx.kept hg, h2.kept hg⟩
              match j, hj, hT' with
              | 0, _, hT' => exact plain hT'
              | 1, _, ⟨_, hg⟩ => exact plain hg
              | 2, _, ⟨_, _, _, hg⟩ => exact plain hg
              | 3, _, ⟨_, W3, _, hg, hg5, _⟩ =>
                have hx := h1.kept hg
                have hne : ∀ {k2 : Nat} {t : TypeId} {cs : Array Value}, Blk W3 k2 t cs → t ≠ 9 → Blk W' k2 t cs := fun hb ht => hb.grown hg5 fun e => by
                  obtain ⟨_, cs', hb'⟩ := own_row hx.ow _ e.symm
                  exact Blk.ne_ hb hb' ht rfl
                exact ⟨hx.at_ hTE hg5, hne (plain hg).2.1 (by decide), hne (plain hg).2.2.1 (by decide), hne (plain hg).2.2.2 (by decide)⟩
            have h9 : i = 0 ∨ i = 1 ∨ i = 2 ∨ i = 3 ∨ i = 4 := by
              have h1 := (Array.getElem?_eq_some_iff.1 ho).1
              simp only [List.size_toArray, List.length_cons, List.length_nil] at h1
              simp only [List.mem_cons, List.not_mem_nil, or_false] at hn
              omega
            rcases h9 with rfl | rfl | rfl | rfl | rfl
            · cases ho
              exact ⟨33, tv, rfl, rfl, fun j f b W' hj hT' henv => rv_load_strs rfl (henv 9 _ (by simp [Op.operands]) rfl) ((hrd j f W' hj hT').1.cell 0)⟩
            · cases ho
              exact ⟨34, txV Bn Bt, rfl, rfl, fun j f b W' hj hT' henv => rv_load_fn rfl (henv 3 _ (by simp [Op.operands]) rfl) ((hrd j f W' hj hT').2.1.cell 0)⟩
            · cases ho
              exact ⟨35, edV (e0, e1), rfl, rfl, fun j f b W' hj hT' henv => rv_load_type rfl (henv 10 _ (by simp [Op.operands]) rfl) (hrd j f W' hj hT').2.2.1⟩
            · cases ho
              exact ⟨36, .int .i64 z, rfl, rfl, fun j f b W' hj hT' henv => rv_load_int rfl (henv 5 _ (by simp [Op.operands]) rfl) ((hrd j f W' hj hT').2.2.2.cell 0)⟩
            · cases ho
              exact ⟨37, .int .i64 (wrap64 (z - 1)), rfl, rfl, fun j f b W' hj hT' henv => rv_sub1 rfl (henv 36 _ (by simp [Op.operands]) rfl)⟩
          case steps =>
            intro j i o hj ho
            have h4 : j = 0 ∨ j = 1 ∨ j = 2 ∨ j = 3 := by
              have := (List.getElem?_eq_some_iff.1 hj).1
              simp only [List.length_cons, List.length_nil] at this
              omega
            rcases h4 with rfl | rfl | rfl | rfl
            · cases hj
              cases ho
              refine ⟨fun t e => by cases e; rfl, fun b W' hb hT1 henv => ?_⟩
              have hg : W.grownBy W' none := hT1
              refine wp_text rfl (henv 34 _ (by simp [Op.operands, Call.operands]) rfl) (henv 35 _ (by simp [Op.operands, Call.operands]) rfl) (henv 37 _ (by simp [Op.operands, Call.operands]) rfl)
                (by rw [hzk]; exact HIH.out _ (e0, e1) Bn Bt W' (hW.kept hg)) ?_
              rintro e W5 ⟨rfl, hg5⟩
              rw [hs]
              exact ⟨_, rfl, _, rfl, act_put_at' _ (by rw [hb]; show _ < 44; decide), only_trans hg hg5⟩
            · cases hj
              cases ho
              refine ⟨fun t e => by cases e; rfl, fun b W' hb hT1 henv => ?_⟩
              obtain ⟨h5, hg⟩ := hT1
              exact wp_build_str rfl h5 ⟨_, rfl, W'.heap.size, act_put_at' _ (by rw [hb]; show _ < 44; decide), Blk.new _ _ _, only_alloc hg _⟩
            · cases hj
              cases ho
              refine ⟨fun t e => by cases e; rfl, fun b W' hb hT1 henv => ?_⟩
              obtain ⟨g', h5, h6, hg⟩ := hT1
              have hx := h1.kept hg
              exact wp_append_str (.tmp 33) (.tmp 39) rfl (henv 33 _ (by simp [Op.operands, Call.operands]) rfl) h5 hx.ow h6 hssl hx.gr.size (fun v' W5 ho5 hg5 => ⟨_, rfl, v', W', act_put_at' _ (by rw [hb]; show _ < 44; decide), hg, hg5, ho5⟩)
            · cases hj
              cases ho
              refine ⟨fun t e => (by cases e), fun b W' hb hT1 henv => ?_⟩
              obtain ⟨v', W3, h5, hg, hg5, ho5⟩ := hT1
              obtain ⟨A5, c5, rfl⟩ := own_len ho5
              have hx := h1.kept hg
              exact wp_store_strs rfl (henv 9 _ (by simp [Op.operands]) rfl) h5 (hx.at_ hTE hg5) ⟨undef, rfl, _, W3, W', rfl, hg, hg5, ho5⟩
          case hQ =>
            intro vs W' hv hT4
            obtain ⟨v', W3, W4, rfl, hg, hg5, ho5⟩ := hT4
            have hx := h1.kept hg
            have hput := hx.put hTE hg5 ho5
            have hk1 : w.heap.size + 1 ≠ Bk := by omega
            have hk2 : Bf ≠ Bk := fun e => Blk.ne_ h3 h1.bx (by decide) e
            have hb2 := hx.other (h2.kept hg) (by decide) hk1 hg5 v'
            have hb3 := hx.other (h3.kept hg) (by decide) hk2 hg5 v'
            have hkb : KB w.heap.size [9, 57] W (W4.setCell ⟨Bk, 0, none⟩ v') := (KB.grown hg).trans (hx.kb hTE (Nat.le_refl _) (by simp) (by simp) hg5 v')
            have hfr : KeepsFrom W6.heap.size W (W4.setCell ⟨Bk, 0, none⟩ v') := (only_keepsFrom hg _).trans (hx.from_ hg5 v' _)
            exact ⟨hfr, hkb, v', by rw [List.map_append, hss, List.map_cons, List.map_nil, hs]; exact hput, hb2, hb3⟩
theorem text1_all (xs : List Nd) (hxs : xs.length ≤ 1000) (hlg : largeB xs = false) : ∀ d, d ≤ 5 → TextC xs d
  | 0, h => text1_any xs hxs hlg 0 h (fun k e => by cases e)
  | d + 1, h => text1_any xs hxs hlg (d + 1) h (fun k e => by cases e; exact text1_all xs hxs hlg d (by omega))

set_option maxRecDepth 100000 in
set_option maxHeartbeats 4000000 in
theorem utext_any (xs : List Nd) (v : Value) (t : Ed) (d : Int) (w : World) (hL : TabL w) (hT : Tbl w v xs) (hxs : xs.length ≤ 1000) :
    Calls Tryd.prog 11 #[v, edV t, .int .i64 d] w fun e w' => e = .returned (strV (textA Lib.itoa xs t d)) ∧ w.grownBy w' none := by
  have HT := Lib.hid hT
  have HL := Lib.hid hL
  have HXS := Lib.hid hxs
  obtain ⟨A, cap, rfl, _⟩ := hT
  clear hL hxs
  cases hlg : largeB xs with
  | true =>
    have HR : Hid (textA Lib.itoa xs t d = [63]) := Lib.hid (by unfold textA; rw [hlg]; rfl)
    have HLG := Lib.hid hlg
    clear hlg
    go_enter Tryd.func11, Tryd.ntmps11
    go_wp2_with (go_at_call 12; go_must (refine (large_any xs _ _ (HT.out.keep (.grown (only_alloc (only_alloc (only_refl _ _) _) _))) HXS.out).mono ?_; rw [HLG.out]; rintro e w1 ⟨rfl, hg⟩; have HG := Lib.hid (only_trans (only_alloc (only_alloc (only_refl _ _) _) _) hg); clear hg))
    go_ret
    exact ⟨by rw [HR.out]; rfl, HG.out⟩
  | false =>
    have HLG := Lib.hid hlg
    obtain ⟨k, hk⟩ : ∃ k, (min (max d 0) 5).toNat = k := ⟨_, rfl⟩
    have hk5 : k ≤ 5 := by omega
    have HR : Hid (textA Lib.itoa xs t d = textD Lib.itoa xs k t) := Lib.hid (by unfold textA; rw [hlg, hk]; rfl)
    have HC := Lib.hid (text1_all xs HXS.out hlg k hk5)
    have hk2 : min (max d 0) 5 = (k : Int) := by omega
    clear hlg hk5 hk
    go_enter Tryd.func11, Tryd.ntmps11
    go_wp2_with (go_at_call 12; go_must (refine (large_any xs _ _ (HT.out.keep (.grown (only_alloc (only_alloc (only_refl _ _) _) _))) HXS.out).mono ?_; rw [HLG.out]; rintro e w1 ⟨rfl, hg⟩; have hbt : Blk w1 (w.heap.size + 1) 24 (edCells t) := (blk_at (by simp) _ _ : Blk ((w.alloc (.cells #[.slice A xs.length cap] 22)).alloc (.cells (edCells t) 24)) (w.heap.size + 1) 24 (edCells t)).kept hg; have t0 : w1.cell? ⟨w.heap.size + 1, 0, none⟩ = some (.int .i64 t.1) := hbt.cell 0; have t1 : w1.cell? ⟨w.heap.size + 1, 1, none⟩ = some (.int .i64 t.2) := hbt.cell 1; have hzt := cell_lt t0; clear hbt; have HB := Lib.hid (((Blk.new w 22 #[.slice A xs.length cap]).alloc _).kept hg); have HG := Lib.hid (only_trans (only_alloc (only_alloc (only_refl _ _) _) _) hg); clear hg))
    refine (HC.out _ t w.heap.size w1.heap.size _ ⟨tabL_kept (tabL_kept HL.out HG.out) (only_alloc (only_refl _ _) _), HT.out.keep (.grown (only_alloc HG.out _)), HB.out.alloc _, Blk.new _ _ _⟩).mono ?_
    rintro e w2 ⟨rfl, hg⟩
    have HG2 := Lib.hid (only_trans (only_alloc HG.out _) hg)
    clear hg
    go_wp2_with fail
    go_ret
    exact ⟨by rw [HR.out]; rfl, HG2.out⟩
end Go.Proofs.YtoklaajiajilhaaDoor

/- Texts joined for the claim's sake: MRdT, MAtD. -/
import Derived.Test.YtohhojbeclbedaaGreatDoorZMKnwRow30
import Derived.Test.YtohhojbeclbedaaGreatDoorZMKnwRow43
import Derived.Test.YtohhojbeclbedaaGreatDoorZMKnwRow44
import Derived.Test.YtohhojbeclbedaaGreatDoorZMKnwRow45
namespace Go.Proofs.YtohhojbeclbedaaGreatDoor
open Go.RowKit

theorem turn_grown {g : Nat} {T : Nat → Prop} {w W W' : World} (h : w.grownBy W (some g)) (t : Turn T W W') (hT : ∀ k, T k → k = g ∨ w.heap.size ≤ k) : w.grownBy W' (some g) :=
  ⟨t.os.trans h.os, t.tape.trans h.tape, t.output.trans h.output, Nat.le_trans h.size t.size, fun k hk hn => by
    rw [t.block k (Nat.lt_of_lt_of_le hk h.size) (fun ht => by
      rcases hT k ht with e | e
      · exact hn (by rw [e])
      · omega), h.block k hk hn]⟩
set_option maxRecDepth 100000 in
set_option maxHeartbeats 2000000 in
theorem rtpl_any {g a bg : Nat} {bs : List UInt8} {w : World} (h : Rdr w g bs a bg) :
    Calls Tryz.prog 114 #[.pointer (some ⟨g, 0, none⟩)] w (RdsR (encV TplE) g bs bg (tplR bg bs a) w) := by
  obtain ⟨res, hres⟩ : ∃ res, tplR bg bs a = res := ⟨_, rfl⟩
  rw [hres]
  unfold tplR at hres
  have HE0 := Lib.hid hres
  clear hres
  have hg0 : w.grownBy (((w.alloc (.cells #[.pointer (some ⟨g, 0, none⟩)] 54)).alloc (.cells #[.slice none 0 0, .slice none 0 0, .slice none 0 0] 50)).alloc (.cells #[.slice none 0 0, .slice none 0 0, .slice none 0 0] 50)) none := only_alloc (only_alloc (only_alloc (only_refl _ _) _) _) _
  have HM0 := Lib.hid (MRS.start h hg0)
  have HC0 : Hid (Blk (((w.alloc (.cells #[.pointer (some ⟨g, 0, none⟩)] 54)).alloc (.cells #[.slice none 0 0, .slice none 0 0, .slice none 0 0] 50)).alloc (.cells #[.slice none 0 0, .slice none 0 0, .slice none 0 0] 50)) w.heap.size 54 #[.pointer (some ⟨g, 0, none⟩)]) := Lib.hid (((Blk.new _ _ _).alloc _).alloc _)
  have HB0 : Hid (Blk (((w.alloc (.cells #[.pointer (some ⟨g, 0, none⟩)] 54)).alloc (.cells #[.slice none 0 0, .slice none 0 0, .slice none 0 0] 50)).alloc (.cells #[.slice none 0 0, .slice none 0 0, .slice none 0 0] 50)) (w.heap.size + 1) 50 #[.slice none 0 0, .slice none 0 0, .slice none 0 0]) := Lib.hid ((blk_new_at (by simp) _ _).alloc _)
  have HN0 : Hid (Blk (((w.alloc (.cells #[.pointer (some ⟨g, 0, none⟩)] 54)).alloc (.cells #[.slice none 0 0, .slice none 0 0, .slice none 0 0] 50)).alloc (.cells #[.slice none 0 0, .slice none 0 0, .slice none 0 0] 50)) (w.heap.size + 1 + 1) 50 #[.slice none 0 0, .slice none 0 0, .slice none 0 0]) := Lib.hid (blk_new_at (by simp) _ _)
  have HGL : Hid (g < w.heap.size) := Lib.hid h.lt
  clear h hg0
  go_enter Tryz.func114, Tryz.ntmps114
  go_upto_region 2 with fail
  generalize (((w.alloc (.cells #[.pointer (some ⟨g, 0, none⟩)] 54)).alloc (.cells #[.slice none 0 0, .slice none 0 0, .slice none 0 0] 50)).alloc (.cells #[.slice none 0 0, .slice none 0 0, .slice none 0 0] 50)) = w0 at *
  generalize hbt : w.heap.size + 1 + 1 = bt at *
  generalize hbr : w.heap.size + 1 = br at *
  generalize hbx : w.heap.size = bx at *
  have HO : Hid (w.heap.size ≤ bx ∧ bx < br ∧ br < bt ∧ g < bx) := Lib.hid ⟨by omega, by omega, by omega, by have := HGL.out; omega⟩
  clear hbt hbr hbx
  have cb := HC0.out.cell 0
  have c0 := HN0.out.cell 0
  have f0 := HN0.out.frozen 0
  go_wp2_with fail
  clear cb c0 f0
  refine (rall_Par HM0.out.rd _ (MSI _ bx g _) (fun k => k = g) (si_start HC0.out (by have := HO.out; omega) HM0.out.rd.lt) si_ok 0 8 ⟨by omega, by omega⟩ (by omega) (fun pre T b W hi hr _ _ => (rclo_Par hr hi.2.1).mono fun _ _ h => si_clo par_ok hi h)).mono ?_
  rintro e w1 hL
  rcases si_list par_ok hL with ⟨x1, b1, v1, hq, rfl, hv, hr, hg⟩ | ⟨c, y, b, fb, hq, rfl, hf, h1, hg⟩
  rotate_left
  · have hz : res = .flt c y b := by rw [← HE0.out, hq]; rfl
    have hR := HM0.out.out (V := encV TplE) (b := b) hf h1 hg
    rw [← hz] at hR
    have HR := Lib.hid hR
    clear hL hf h1 hg hq hz hR
    go_wp2_with fail
    exact ⟨rfl, HR.out⟩
  obtain ⟨A1, q1, hvA, _⟩ := id hv
  rw [List.length_map] at hvA
  subst hvA
  have HE1 := Lib.hid (show ((lstR readI 1 128 bs b1).bind fun cs c => .ok ⟨x1.map Prod.fst, cs.map Prod.fst, ats bg cs⟩ c : Rs Tpl) = res from by rw [← HE0.out, hq]; rfl)
  have hO := HO.out
  have HM1 := Lib.hid (HM0.out.next hg hr)
  have HB1 := Lib.hid (HM0.out.blk HB0.out (by omega) hg)
  have HC1 := Lib.hid (HM0.out.blk HC0.out (by omega) hg)
  have HN1 := Lib.hid (HM0.out.blk HN0.out (by omega) hg)
  have HV1 := Lib.hid hv
  have HSZ : Hid (w0.heap.size ≤ w1.heap.size) := Lib.hid hg.size
  have HS1 : Hid (w.heap.size ≤ w0.heap.size ∧ br < w0.heap.size ∧ bt < w0.heap.size) := Lib.hid ⟨HM0.out.gr.size, HB0.out.lt, HN0.out.lt⟩
  clear hL hr hg hq hv HM0 HB0 HC0 HN0 HE0 hO
  have c0 := HN1.out.cell 0
  have f0 := HN1.out.frozen 0
  go_upto_region 3 with fail
  clear c0 f0
  have hst : w1.grownBy (w1.setCell ⟨bt, 0, none⟩ (.slice A1 x1.length q1)) (some bt) := only_setCell (g := bt) (p := ⟨bt, 0, none⟩) (only_refl _ _) rfl _
  have HM2 := Lib.hid (HM1.out.own HN1.out (by decide) (by have := HO.out; omega) hst)
  have HN2 : Hid (Blk (w1.setCell ⟨bt, 0, none⟩ (.slice A1 x1.length q1)) bt 50 #[.slice A1 x1.length q1, .slice none 0 0, .slice none 0 0]) := Lib.hid (HN1.out.set_ 0 _)
  have HB2 := Lib.hid (HB1.out.grown hst (fun e => by injection e with e; have := HO.out; omega))
  have HC2 := Lib.hid (HC1.out.grown hst (fun e => by injection e with e; have := HO.out; omega))
  have HV2 := Lib.hid (list_stored par_ok HV1.out HS1.out.2.2 (Nat.le_refl _) hst)
  have HS2 : Hid (w0.heap.size ≤ (w1.setCell ⟨bt, 0, none⟩ (.slice A1 x1.length q1)).heap.size) := Lib.hid (Nat.le_trans HSZ.out hst.size)
  clear hst HM1 HN1 HB1 HC1 HV1
  generalize (w1.setCell ⟨bt, 0, none⟩ (.slice A1 x1.length q1)) = w2 at *
  have cb := HC2.out.cell 0
  go_wp2_with fail
  clear cb
  refine (rall_Ins HM2.out.rd #[.pointer (some ⟨bt, 0, none⟩), .pointer (some ⟨bx, 0, none⟩)] (TmI bt bx g w2.heap.size bg (.slice A1 x1.length q1)) (fun k => k = g ∨ k = bt ∨ (Value.slice none 0 0).ownBlock = some k)
    ⟨.slice none 0 0, fun _ => Iff.rfl, HC2.out, HN2.out, AO.nil_ _ _, HC2.out.lt, HN2.out.lt, by have := HO.out; omega, by have := HO.out; omega, by have := HO.out; omega, HM2.out.rd.lt, Nat.le_refl _⟩ tmi_ok 1 128 ⟨by omega, by omega⟩ (by omega) (fun pre T b W hi hr _ hn => rclo_Ins hi hr hn)).mono ?_
  rintro e w3 hL
  obtain ⟨r, hr0⟩ : ∃ r, lstR readI 1 128 bs b1 = r := ⟨_, rfl⟩
  rw [hr0] at hL
  have HE2 := Lib.hid HE1.out
  rw [hr0] at HE2
  clear hr0 HE1
  cases r with
  | flt c y d =>
    obtain ⟨fb, rfl, hf, h1, ht, _⟩ := hL
    have HR : Hid (RdsR (encV TplE) g bs bg res w (gaveF fb) w3) := Lib.hid (by
      have hz : (.flt c y d : Rs Tpl) = res := HE2.out
      rw [← hz]
      exact RdsR.out hf (Nat.le_trans HM2.out.gr.size h1) (turn_grown HM2.out.gr ht (fun k hk => by
        have := HO.out
        rcases hk with e | e | e
        · exact .inl e
        · exact .inr (by omega)
        · cases e)))
    clear hf h1 ht
    go_wp2_with fail
    exact ⟨rfl, HR.out⟩
  | ok l c =>
    obtain ⟨v2, T', rfl, hr3, ⟨v3, k1, k2, k3, k4, _⟩, hli, ht, _⟩ := hL
    have HE3 : Hid ((.ok ⟨x1.map Prod.fst, l.map Prod.fst, ats bg l⟩ c : Rs Tpl) = res) := Lib.hid HE2.out
    obtain ⟨A2, q2, hvA, _⟩ := id hli
    rw [List.length_map] at hvA
    subst hvA
    have hTk : ∀ k, (k = g ∨ k = bt ∨ (Value.slice none 0 0).ownBlock = some k) → k = g ∨ k = bt := fun k hk => by
      rcases hk with e | e | e
      · exact .inl e
      · exact .inr e
      · cases e
    have HG3 := Lib.hid (turn_grown HM2.out.gr ht (fun k hk => by have := HO.out; rcases hTk k hk with e | e; exact .inl e; exact .inr (by omega)))
    have HD3 := Lib.hid hr3
    have HN3 := Lib.hid k3
    have HA3 := Lib.hid k4
    have HB3 : Hid (Blk w3 br 50 #[.slice none 0 0, .slice none 0 0, .slice none 0 0]) := Lib.hid (HB2.out.turn ht (fun hk => by have := HO.out; rcases hTk _ hk with e | e <;> omega))
    have HV3 := Lib.hid (HV2.out.kept par_ok (KeptS.of_turn ht (fun b hb hk => by have := HO.out; have := HS1.out; rcases hTk _ hk with e | e <;> omega)))
    have HL3 := Lib.hid hli
    have HS3 : Hid (w2.heap.size ≤ w3.heap.size) := Lib.hid ht.size
    have HW2 : Hid (w.heap.size ≤ w2.heap.size) := Lib.hid HM2.out.gr.size
    obtain ⟨A3, q3, rfl⟩ := own_shape k4
    rw [ats_len] at *
    clear hr3 k1 k2 k3 k4 hli ht
    have c1 := HN3.out.cell 1
    have f1 := HN3.out.frozen 1
    go_upto_region 4 with fail
    clear c1 f1
    have hst : w3.grownBy (w3.setCell ⟨bt, 1, none⟩ (.slice A2 l.length q2)) (some bt) := only_setCell (g := bt) (p := ⟨bt, 1, none⟩) (only_refl _ _) rfl _
    have HX : Hid (∀ k, w2.heap.size ≤ k → some k ≠ some bt) := Lib.hid fun k hk e => by injection e with e; have := HS1.out; have := HS2.out; omega
    have HM4 : Hid (MRS g bs bg w c (w3.setCell ⟨bt, 1, none⟩ (.slice A2 l.length q2))) := Lib.hid (MRS.own ⟨HG3.out, HD3.out, HM2.out.lt⟩ HN3.out (by decide) (by have := HO.out; omega) hst)
    have HN4 : Hid (Blk (w3.setCell ⟨bt, 1, none⟩ (.slice A2 l.length q2)) bt 50 #[.slice A1 x1.length q1, .slice A2 l.length q2, .slice A3 l.length q3]) := Lib.hid (HN3.out.set_ 1 _)
    have HB4 := Lib.hid (HB3.out.grown hst (fun e => by injection e with e; have := HO.out; omega))
    have HV4 := Lib.hid (list_stored par_ok HV3.out HS1.out.2.2 (Nat.le_refl _) hst)
    have HL4 := Lib.hid (HL3.out.kept ins_ok (KeptS.grown hst (fun k hk => HX.out k hk.1)))
    have HA4 := Lib.hid (HA3.out.kept hst (.inr fun e => by have := (World.ownsRow.lt HA3.out bt e).1; have := HS1.out; have := HS2.out; omega))
    clear hst HN3 HB3 HV3 HL3 HA3
    generalize (w3.setCell ⟨bt, 1, none⟩ (.slice A2 l.length q2)) = w4 at *
    have n0 := HN4.out.cell 0
    have n1 := HN4.out.cell 1
    have n2 := HN4.out.cell 2
    have c0 := HB4.out.cell 0
    have c1 := HB4.out.cell 1
    have c2 := HB4.out.cell 2
    have f0 := HB4.out.frozen 0
    have f1 := HB4.out.frozen 1
    have f2 := HB4.out.frozen 2
    go_wp2_with fail
    have hst := only_setCell (g := br) (p := ⟨br, 2, none⟩) (only_setCell (g := br) (p := ⟨br, 1, none⟩) (only_setCell (g := br) (p := ⟨br, 0, none⟩) (only_refl w4 _) rfl (.slice A1 x1.length q1)) rfl (.slice A2 l.length q2)) rfl (.slice A3 l.length q3)
    have HMF := Lib.hid (HM4.out.own HB4.out (by decide) (by have := HO.out; omega) hst)
    have hbf : Blk (((w4.setCell ⟨br, 0, none⟩ (.slice A1 x1.length q1)).setCell ⟨br, 1, none⟩ (.slice A2 l.length q2)).setCell ⟨br, 2, none⟩ (.slice A3 l.length q3)) br 50 #[.slice A1 x1.length q1, .slice A2 l.length q2, .slice A3 l.length q3] := ((HB4.out.set_ 0 _).set_ 1 _).set_ 2 _
    have HVF := Lib.hid (list_stored par_ok HV4.out HS1.out.2.1 HS1.out.1 hst)
    have HLF := Lib.hid ((HL4.out.kept ins_ok (KeptS.grown hst (fun k hk e => by injection e with e; have := hk.1; have := HS1.out; have := HS2.out; omega))).more ins_ok (by omega) (S' := fun k => w.heap.size ≤ k) (fun k hk _ => Nat.le_trans HW2.out hk.1))
    have HAF := Lib.hid ((HA4.out.kept hst (.inr fun e => by have := (World.ownsRow.lt HA4.out br e).1; have := HS1.out; have := HS2.out; omega)).list (S := fun k => w.heap.size ≤ k) (fun k hk => Nat.le_trans HW2.out (World.ownsRow.lt HA4.out k hk).1))
    clear hst n0 n1 n2 c0 c1 c2 f0 f1 f2
    generalize (((w4.setCell ⟨br, 0, none⟩ (.slice A1 x1.length q1)).setCell ⟨br, 1, none⟩ (.slice A2 l.length q2)).setCell ⟨br, 2, none⟩ (.slice A3 l.length q3)) = Wf at *
    have HBF := Lib.hid hbf
    clear hbf
    refine bodyPost_ret (results_cell_row rfl _ _ br 50 #[.slice A1 x1.length q1, .slice A2 l.length q2, .slice A3 l.length q3] _ _ rfl HBF.out Tryz.underlying50 rfl (by kernel_rfl)) rfl ?_
    rw [← HE3.out]
    exact RdsR.ret ⟨_, rfl, _, _, _, rfl, HVF.out, HLF.out, HAF.out⟩ HMF.out.rd HMF.out.gr
end Go.Proofs.YtohhojbeclbedaaGreatDoor

namespace Go.Proofs.YtohhojbeclbedaaGreatDoor
open Go.RowKit

theorem rv_fldM4 {b : Act} {o : Oper} {t : Tmp} {W : World} {g : Nat} (ho : o.op = .fieldAddr 28 (.tmp t) 4) (h1 : b.eval (.tmp t) = .pointer (some ⟨g, 0, none⟩)) : (execOp b.eval o).run Tryz.prog W = .ok (.value (.pointer (some ⟨g, 4, none⟩))) W := by
  obtain ⟨dst, op, type, pos, after, guard⟩ := o
  dsimp only at ho
  subst ho
  simp only [execOp, h1]
  go_simp
theorem rv_fldM5 {b : Act} {o : Oper} {t : Tmp} {W : World} {g : Nat} (ho : o.op = .fieldAddr 28 (.tmp t) 5) (h1 : b.eval (.tmp t) = .pointer (some ⟨g, 0, none⟩)) : (execOp b.eval o).run Tryz.prog W = .ok (.value (.pointer (some ⟨g, 5, none⟩))) W := by
  obtain ⟨dst, op, type, pos, after, guard⟩ := o
  dsimp only at ho
  subst ho
  simp only [execOp, h1]
  go_simp
theorem rv_fldM6 {b : Act} {o : Oper} {t : Tmp} {W : World} {g : Nat} (ho : o.op = .fieldAddr 28 (.tmp t) 6) (h1 : b.eval (.tmp t) = .pointer (some ⟨g, 0, none⟩)) : (execOp b.eval o).run Tryz.prog W = .ok (.value (.pointer (some ⟨g, 6, none⟩))) W := by
  obtain ⟨dst, op, type, pos, after, guard⟩ := o
  dsimp only at ho
  subst ho
  simp only [execOp, h1]
  go_simp
theorem rv_fldM7 {b : Act} {o : Oper} {t : Tmp} {W : World} {g : Nat} (ho : o.op = .fieldAddr 28 (.tmp t) 7) (h1 : b.eval (.tmp t) = .pointer (some ⟨g, 0, none⟩)) : (execOp b.eval o).run Tryz.prog W = .ok (.value (.pointer (some ⟨g, 7, none⟩))) W := by
  obtain ⟨dst, op, type, pos, after, guard⟩ := o
  dsimp only at ho
  subst ho
  simp only [execOp, h1]
  go_simp
/-- What stands, step by step, where the module's pointer is looked at again ahead of the store. -/
def TBM (X : World) (bb fi base : Nat) (v : Value) (zs : List Int) (p : Int) : Nat → (Tmp → Value) → World → Prop
  | 0, _, W => X.grownBy W none
  | 1, f, W => f 9 = .int .i64 p ∧ X.grownBy W none
  | 2, f, W => ∃ g, f 10 = .slice (some ⟨g, 0, none⟩) 1 1 ∧ Blk W g 3 #[.int .i64 p] ∧ X.grownBy W none
  | 3, f, W => ∃ v' W1, f 11 = v' ∧ X.grownBy W1 none ∧ W1.grownBy W v.ownBlock ∧ AO base W v' (zs ++ [p]) ∧ (v'.ownBlock = v.ownBlock ∨ v'.ownBlock = some W1.heap.size)
  | 4, f, W => f 12 = .pointer (some ⟨bb, 0, none⟩) ∧ ∃ v' W1, f 11 = v' ∧ X.grownBy W1 none ∧ W1.grownBy W v.ownBlock ∧ AO base W v' (zs ++ [p]) ∧ (v'.ownBlock = v.ownBlock ∨ v'.ownBlock = some W1.heap.size)
  | 5, f, W => f 13 = .pointer (some ⟨bb, fi, none⟩) ∧ ∃ v' W1, f 11 = v' ∧ X.grownBy W1 none ∧ W1.grownBy W v.ownBlock ∧ AO base W v' (zs ++ [p]) ∧ (v'.ownBlock = v.ownBlock ∨ v'.ownBlock = some W1.heap.size)
  | 6, _, W => ∃ v' W1 W2, W = W2.setCell ⟨bb, fi, none⟩ v' ∧ X.grownBy W1 none ∧ W1.grownBy W2 v.ownBlock ∧ AO base W2 v' (zs ++ [p]) ∧ (v'.ownBlock = v.ownBlock ∨ v'.ownBlock = some W1.heap.size)
  | _, _, _ => False
theorem wp_valM {b : Act} {o : Oper} {W : World} {c : Value} {K : Act → World → Prop} {Q : Exit → Act → World → Prop} (h : (execOp b.eval o).run Tryz.prog W = .ok (.value c) W) (hK : K (b.put o.dst c) W) : o.wp Tryz.prog b W K Q := by
  unfold Oper.wp
  rw [h, Oper.upon_value]
  exact hK
theorem act_otherM {b : Act} {t u : Tmp} (x : Value) (h : t ≠ u) : (b.put (some t) x).tmps.getD u undef = b.tmps.getD u undef := by
  simp [Act.put, Array.getElem?_setIfInBounds_ne h]
/-- What a closure that reads a module's things keeps: the reader's box, the module's, its row of places (the cell fi). -/
def MmI (α : Type) (fi bm bp bx g base bg : Nat) (cs : Array Value) : Inv α := fun pre T W => ∃ v, (∀ k, T k ↔ (k = g ∨ k = bm ∨ v.ownBlock = some k)) ∧ Blk W bx 54 #[.pointer (some ⟨g, 0, none⟩)] ∧ Blk W bp 99 #[.pointer (some ⟨bm, 0, none⟩)] ∧ Blk W bm 28 (cs.setIfInBounds fi v) ∧ AO base W v (ats bg pre) ∧
  (bx < base ∧ bp < base ∧ bm < base ∧ bx ≠ g ∧ bp ≠ g ∧ bm ≠ g ∧ bx ≠ bm ∧ bp ≠ bm ∧ g < base ∧ fi < cs.size) ∧ base ≤ W.heap.size
/-- The module's block, whatever its row of places. -/
def MmJ (fi bm : Nat) (cs : Array Value) (W : World) : Prop := ∃ v, Blk W bm 28 (cs.setIfInBounds fi v)
theorem mmi_ok {α : Type} {fi bm bp bx g base bg : Nat} {cs : Array Value} : (MmI α fi bm bp bx g base bg cs).Ok (MmJ fi bm cs) g base where
  jj := fun ⟨v, _, _, _, h4, _⟩ => ⟨v, h4⟩
  keep := fun {pre T W W' row} ⟨v, h1, h2, h3, h4, h5, h6, h7⟩ hg hr => ⟨v, h1, h2.grown hg (fun e => by have := (hr bx e.symm).1; omega), h3.grown hg (fun e => by have := (hr bp e.symm).1; omega), h4.grown hg (fun e => by have := (hr bm e.symm).1; omega), h5.kept hg (by
    cases hv : v.ownBlock with
    | none => exact .inl rfl
    | some u => exact .inr fun e => (hr u e.symm).2 ((h1 u).2 (.inr (.inr hv)))), h6, Nat.le_trans h7 hg.size⟩
  mv := fun {pre T W W'} ⟨v, h1, h2, h3, h4, h5, h6, h7⟩ hg => ⟨v, h1, h2.grown hg (fun e => h6.2.2.2.1 (by injection e)), h3.grown hg (fun e => h6.2.2.2.2.1 (by injection e)), h4.grown hg (fun e => h6.2.2.2.2.2.1 (by injection e)), h5.kept hg (.inr fun e => by have := (World.ownsRow.lt h5 g e).1; omega), h6, Nat.le_trans h7 hg.size⟩
  lt := fun {pre T W k} ⟨v, h1, h2, h3, h4, h5, h6, h7⟩ hk => by
    rcases (h1 k).1 hk with rfl | rfl | hk
    · omega
    · exact h4.lt
    · exact (World.ownsRow.lt h5 k hk).2
  rd := fun {pre T W} ⟨v, h1, _⟩ => (h1 g).2 (.inl rfl)
set_option maxRecDepth 100000 in
set_option maxHeartbeats 1000000 in
theorem rclo_Nod {g b bg bm bp bx base : Nat} {ms : Array Value} {bs : List UInt8} {pre : List (Nod × Nat)} {T : Nat → Prop} {W : World} (hi : MmI Nod 4 bm bp bx g base bg ms pre T W) (hr : Rdr W g bs b bg) (hn : pre.length ≤ 1000) :
    Calls Tryz.prog 109 #[.pointer (some ⟨bp, 0, none⟩), .pointer (some ⟨bx, 0, none⟩)] W (CloR (encV NodE) (MmI Nod 4 bm bp bx g base bg ms) (MmJ 4 bm ms) g bs bg pre T b (nodR bs b) W) := by
  obtain ⟨res, hres⟩ : ∃ r, nodR bs b = r := ⟨_, rfl⟩
  rw [hres]
  have HRES := Lib.hid hres
  clear hres
  obtain ⟨v, h1, h2, h3, h4, h5, h6, h7⟩ := hi
  obtain ⟨zs, hzs⟩ : ∃ zs, ats bg pre = zs := ⟨_, rfl⟩
  have HZL : Hid (zs.length ≤ 1000) := Lib.hid (by rw [← hzs, ats_len]; exact hn)
  rw [hzs] at h5
  have HZS := Lib.hid hzs
  obtain ⟨Av, cv, rfl⟩ := own_shape h5
  have hg0 : W.grownBy (W.alloc (.cells #[.int .i64 0, .int .i64 0, .bool false, .int .i64 0, .int .i64 0, .slice none 0 0] 65)) none := only_alloc (only_refl _ _) _
  have HT1 := Lib.hid h1
  have BX := Lib.hid (h2.kept hg0)
  have BP := Lib.hid (h3.kept hg0)
  have BT := Lib.hid (h4.kept hg0)
  have HAO := Lib.hid (h5.none_ hg0)
  have BR := Lib.hid (Blk.new W 65 #[.int .i64 0, .int .i64 0, .bool false, .int .i64 0, .int .i64 0, .slice none 0 0])
  have HRX := Lib.hid (hr.kept hg0)
  have HBX0 : Hid (base ≤ (W.alloc (.cells #[.int .i64 0, .int .i64 0, .bool false, .int .i64 0, .int .i64 0, .slice none 0 0] 65)).heap.size) := Lib.hid (Nat.le_trans h7 hg0.size)
  have HNE := Lib.hid h6
  have HBB : Hid (base ≤ W.heap.size) := Lib.hid h7
  have HTX : Hid (Turn T W (W.alloc (.cells #[.int .i64 0, .int .i64 0, .bool false, .int .i64 0, .int .i64 0, .slice none 0 0] 65))) := Lib.hid (Turn.none_ hg0)
  have HFI : Hid ((ms.setIfInBounds 4 (.slice Av zs.length cv))[4]? = some (.slice Av zs.length cv)) := Lib.hid (by have := h6.2.2.2.2.2.2.2.2.2; simp [this])
  obtain ⟨pl, hpl⟩ : ∃ pl : Int, (bg : Int) + (b : Int) = pl := ⟨_, rfl⟩
  have HPL := Lib.hid hpl
  clear h1 h2 h3 h4 h5 h6 h7 hg0 hr hn hzs hpl
  go_enter Tryz.func109, Tryz.ntmps109
  go_upto_region 1 with fail
  generalize (W.alloc (.cells #[.int .i64 0, .int .i64 0, .bool false, .int .i64 0, .int .i64 0, .slice none 0 0] 65)) = X at *
  generalize hbr : W.heap.size = br at *
  have HBR : Hid (W.heap.size ≤ br) := Lib.hid (Nat.le_of_eq hbr)
  clear hbr
  refine region_chainW (by kernel_rfl) (by kernel_rfl) (by kernel_rfl) [3, 4, 5, 6, 7, 8, 9, 10, 11, 12, 13] (by kernel_rfl) (by kernel_rfl) (by decide)
    [(0, .pointer (some ⟨bp, 0, none⟩)), (1, .pointer (some ⟨bx, 0, none⟩)), (3, .pointer (some ⟨bm, 0, none⟩)), (4, .pointer (some ⟨bm, 0, none⟩)), (5, .pointer (some ⟨bm, 0, none⟩)), (6, .pointer (some ⟨bm, 4, none⟩)), (7, .slice Av zs.length cv), (8, .pointer (some ⟨g, 0, none⟩))]
    ?h0 [6, 7, 8, 9, 10, 11] (by kernel_rfl) (by kernel_rfl) (by decide) (by kernel_rfl) (TBM X bm 4 base (.slice Av zs.length cv) zs pl) ?hT ?reads ?steps (only_drew (only_refl _ _)) ?hQ
  case h0 =>
    intro p hp hn
    simp only [List.mem_cons, List.not_mem_nil, or_false] at hp
    rcases hp with rfl | rfl | rfl | rfl | rfl | rfl | rfl | rfl
    all_goals first | rfl | exact absurd (by dsimp only; decide) hn
  case hT =>
    intro j f g' W' hj he
    match j, hj with
    | 0, hj => exact hj
    | 1, ⟨h1, h2⟩ => exact ⟨(he 0 6 _ 9 (by decide) rfl rfl rfl).symm.trans h1, h2⟩
    | 2, ⟨k, h1, h2⟩ => exact ⟨k, (he 1 7 _ 10 (by decide) rfl rfl rfl).symm.trans h1, h2⟩
    | 3, ⟨v', Wa, h1, h2⟩ => exact ⟨v', Wa, (he 2 8 _ 11 (by decide) rfl rfl rfl).symm.trans h1, h2⟩
    | 4, ⟨h0, v', Wa, h1, h2⟩ => exact ⟨(he 3 9 _ 12 (by decide) rfl rfl rfl).symm.trans h0, v', Wa, (he 2 8 _ 11 (by decide) rfl rfl rfl).symm.trans h1, h2⟩
    | 5, ⟨h0, v', Wa, h1, h2⟩ => exact ⟨(he 4 10 _ 13 (by decide) rfl rfl rfl).symm.trans h0, v', Wa, (he 2 8 _ 11 (by decide) rfl rfl rfl).symm.trans h1, h2⟩
    | 6, hj => exact hj
  case reads =>
    intro i o ho hn
    have hrd : ∀ j f W', j < 6 → TBM X bm 4 base (.slice Av zs.length cv) zs pl j f W' → ∀ k t cs, Blk X k t cs → t ≠ 3 → Blk W' k t cs := by
      intro j f W' hj hT' k t cs hb ht
      match j, hj, hT' with
      | 0, _, hT' => exact hb.kept hT'
      | 1, _, ⟨_, hg⟩ => exact hb.kept hg
      | 2, _, ⟨_, _, _, hg⟩ => exact hb.kept hg
      | 3, _, ⟨_, Wa, _, hg, hg5, _⟩ => exact (hb.kept hg).grown hg5 (fun e => own_ne (HAO.out.none_ hg) (hb.kept hg) (Ne.symm ht) e.symm)
      | 4, _, ⟨_, _, Wa, _, hg, hg5, _⟩ => exact (hb.kept hg).grown hg5 (fun e => own_ne (HAO.out.none_ hg) (hb.kept hg) (Ne.symm ht) e.symm)
      | 5, _, ⟨_, _, Wa, _, hg, hg5, _⟩ => exact (hb.kept hg).grown hg5 (fun e => own_ne (HAO.out.none_ hg) (hb.kept hg) (Ne.symm ht) e.symm)
    have h9 : i = 0 ∨ i = 1 ∨ i = 2 ∨ i = 3 ∨ i = 4 ∨ i = 5 := by
      have h1 := (Array.getElem?_eq_some_iff.1 ho).1
      simp only [List.size_toArray, List.length_cons, List.length_nil] at h1
      simp only [List.mem_cons, List.not_mem_nil, or_false] at hn
      omega
    rcases h9 with rfl | rfl | rfl | rfl | rfl | rfl
    · cases ho
      exact ⟨3, _, rfl, rfl, fun j f b W' hj hT' henv => rv_loadPM rfl (henv 0 _ (by simp [Op.operands]) rfl) ((hrd j f W' hj hT' bp _ _ BP.out (by decide)).cell 0)⟩
    · cases ho
      exact ⟨4, _, rfl, rfl, fun j f b W' hj hT' henv => rv_loadPM rfl (henv 0 _ (by simp [Op.operands]) rfl) ((hrd j f W' hj hT' bp _ _ BP.out (by decide)).cell 0)⟩
    · cases ho
      exact ⟨5, _, rfl, rfl, fun j f b W' hj hT' henv => rv_nilM rfl (henv 4 _ (by simp [Op.operands]) rfl)⟩
    · cases ho
      exact ⟨6, _, rfl, rfl, fun j f b W' hj hT' henv => rv_fldM4 rfl (henv 5 _ (by simp [Op.operands]) rfl)⟩
    · cases ho
      exact ⟨7, _, rfl, rfl, fun j f b W' hj hT' henv => rv_loadI rfl (henv 6 _ (by simp [Op.operands]) rfl) (((hrd j f W' hj hT' bm _ _ BT.out (by decide)).cell 4).trans HFI.out)⟩
    · cases ho
      exact ⟨8, _, rfl, rfl, fun j f b W' hj hT' henv => rv_loadR rfl (henv 1 _ (by simp [Op.operands]) rfl) ((hrd j f W' hj hT' bx _ _ BX.out (by decide)).cell 0)⟩
  case steps =>
    intro j i o hj ho
    have h4 : j = 0 ∨ j = 1 ∨ j = 2 ∨ j = 3 ∨ j = 4 ∨ j = 5 := by
      have := (List.getElem?_eq_some_iff.1 hj).1
      simp only [List.length_cons, List.length_nil] at this
      omega
    rcases h4 with rfl | rfl | rfl | rfl | rfl | rfl
    · cases hj
      cases ho
      refine ⟨fun t e => by cases e; rfl, fun b W' hb hT1 henv => ?_⟩
      have hg : X.grownBy W' none := hT1
      refine wp_placeM rfl (henv 8 _ (by simp [Op.operands, Call.operands]) rfl) (place_step (HRX.out.kept hg)) ?_
      rintro en W5' ⟨rfl, hg5⟩
      exact ⟨_, rfl, _, rfl, (act_putM _ (by rw [hb]; show _ < 16; decide)).trans (congrArg (Value.int .i64) HPL.out), only_trans hg hg5⟩
    · cases hj
      cases ho
      refine ⟨fun t e => by cases e; rfl, fun b W' hb hT1 henv => ?_⟩
      obtain ⟨h1, hg⟩ := hT1
      exact wp_buildM rfl h1 ⟨_, rfl, W'.heap.size, act_putM _ (by rw [hb]; show _ < 16; decide), Blk.new _ _ _, only_alloc hg _⟩
    · cases hj
      cases ho
      refine ⟨fun t e => by cases e; rfl, fun b W' hb hT1 henv => ?_⟩
      obtain ⟨k, h1, h3, hg⟩ := hT1
      exact wp_appendM (.tmp 7) (.tmp 10) rfl (henv 7 _ (by simp [Op.operands, Call.operands]) rfl) h1 (HAO.out.none_ hg) h3 HZL.out (Nat.le_trans HBX0.out hg.size) (fun v' Wb ho5 hg5 hv5 => ⟨_, rfl, v', W', act_putM _ (by rw [hb]; show _ < 16; decide), hg, hg5, ho5, hv5⟩)
    · cases hj
      cases ho
      refine ⟨fun t e => by cases e; rfl, fun b W' hb hT1 henv => ?_⟩
      obtain ⟨v', Wa, h1, hrest⟩ := hT1
      exact wp_valM (rv_nilM rfl (henv 3 _ (by simp [Op.operands]) rfl)) ⟨_, rfl, act_putM _ (by rw [hb]; show _ < 16; decide), v', Wa, (act_otherM _ (by decide)).trans h1, hrest⟩
    · cases hj
      cases ho
      refine ⟨fun t e => by cases e; rfl, fun b W' hb hT1 henv => ?_⟩
      obtain ⟨h0, v', Wa, h1, hrest⟩ := hT1
      exact wp_valM (rv_fldM4 rfl h0) ⟨_, rfl, act_putM _ (by rw [hb]; show _ < 16; decide), v', Wa, (act_otherM _ (by decide)).trans h1, hrest⟩
    · cases hj
      cases ho
      refine ⟨fun t e => (by cases e), fun b W' hb hT1 henv => ?_⟩
      obtain ⟨h0, v', Wa, h1, hg, hg5, ho5, hv5⟩ := hT1
      obtain ⟨A5, c5, rfl⟩ := own_shape ho5
      have hbb := (BT.out.kept hg).grown hg5 (fun e => own_ne (HAO.out.none_ hg) (BT.out.kept hg) (by decide) e.symm)
      exact wp_storeM rfl h0 h1 hbb HFI.out ⟨undef, rfl, _, Wa, W', rfl, hg, hg5, ho5, hv5⟩
  case hQ =>
    intro vs W' hv hT4
    obtain ⟨v', Wa, Wb, rfl, hg, hg5, ho5, hv5⟩ := hT4
    obtain ⟨q1, q2, q3, q4, q5, q6, q7⟩ := ta_end (fi := 4) hg hg5 ho5 hv5 HAO.out BT.out (by decide) (by decide)
    have HBT := Lib.hid q1
    rw [Array.setIfInBounds_setIfInBounds] at HBT
    have HA2 := Lib.hid q2
    have HX2 := Lib.hid (q3 _ _ _ BX.out (by decide) (by have := HNE.out; omega))
    have HP2 := Lib.hid (q3 _ _ _ BP.out (by decide) (by have := HNE.out; omega))
    have HR2 := Lib.hid (q3 _ _ _ BR.out (by decide) (by have := HBR.out; have := HBB.out; have := HNE.out; omega))
    have HD2 := Lib.hid (q4 _ _ _ _ HRX.out (by have := HNE.out; omega))
    have HTU := Lib.hid q5
    have HNT := Lib.hid q6
    have HSZ := Lib.hid q7
    simp only [List.foldl_cons, List.foldl_nil, List.setIfInBounds_toArray, List.set_cons_zero, List.set_cons_succ]
    clear hv hg hg5 ho5 hv5 q1 q2 q3 q4 q5 q6 q7
    generalize World.setCell _ _ _ = W9 at *
    have cb := HX2.out.cell 0
    have HT9 : Hid (Turn T W W9) := Lib.hid (HTX.out.plus (HTU.out.weak (fun k hk => (HT1.out k).2 (.inr hk))))
    go_wp2_with fail
    refine (rnode_any HD2.out).mono ?_
    rintro en w1 hL
    clear cb
    rw [HRES.out] at hL
    rcases hL.cases with ⟨x, d, v, rfl, rfl, ⟨cs, rfl, hE⟩, hrd, hg⟩ | ⟨c, y, d, fb, rfl, rfl, hf, hge, hg⟩
    rotate_left
    · have HC : Hid (CloR (encV NodE) (MmI Nod 4 bm bp bx g base bg ms) (MmJ 4 bm ms) g bs bg pre T b (.flt c y d) W (gaveF fb) w1) := Lib.hid
        ⟨fb, rfl, hf, Nat.le_trans HT9.out.size hge, HT9.out.plus (Turn.of_only hg (fun k e => by injection e with e; subst e; exact (HT1.out _).2 (.inl rfl))), ⟨v', HBT.out.grown hg (fun e => by injection e with e; have := HNE.out; omega)⟩⟩
      clear hL hf hge hg
      go_wp2_with fail
      exact ⟨rfl, HC.out⟩
    · have HI := Lib.hid hE
      obtain ⟨lv, rfl, hlv⟩ := hE
      obtain ⟨A7, c7, rfl, _⟩ := hlv.slice
      have HG1 := Lib.hid hg
      have HD1 := Lib.hid hrd
      have HBR2 := Lib.hid (HR2.out.grown hg (fun e => by injection e with e; have := HBR.out; have := HBB.out; have := HNE.out; omega))
      clear hL hg hrd
      have f0 := HBR2.out.frozen 0
      have c0 := HBR2.out.cell 0
      have f1 := HBR2.out.frozen 1
      have c1 := HBR2.out.cell 1
      have f2 := HBR2.out.frozen 2
      have c2 := HBR2.out.cell 2
      have f3 := HBR2.out.frozen 3
      have c3 := HBR2.out.cell 3
      have f4 := HBR2.out.frozen 4
      have c4 := HBR2.out.cell 4
      have f5 := HBR2.out.frozen 5
      have c5 := HBR2.out.cell 5
      go_wp2_with fail
      have hst := only_setCell (g := br) (p := ⟨br, 5, none⟩) (only_setCell (g := br) (p := ⟨br, 4, none⟩) (only_setCell (g := br) (p := ⟨br, 3, none⟩) (only_setCell (g := br) (p := ⟨br, 2, none⟩) (only_setCell (g := br) (p := ⟨br, 1, none⟩) (only_setCell (g := br) (p := ⟨br, 0, none⟩) (only_refl w1 _) rfl (.int .i64 x.kind)) rfl (.int .i64 x.prio)) rfl (.bool x.ch)) rfl (.int .i64 x.pay.to)) rfl (.int .i64 x.pay.sh)) rfl (.slice A7 x.next.length c7)
      have hbf : Blk ((((((w1.setCell ⟨br, 0, none⟩ (.int .i64 x.kind)).setCell ⟨br, 1, none⟩ (.int .i64 x.prio)).setCell ⟨br, 2, none⟩ (.bool x.ch)).setCell ⟨br, 3, none⟩ (.int .i64 x.pay.to)).setCell ⟨br, 4, none⟩ (.int .i64 x.pay.sh)).setCell ⟨br, 5, none⟩ (.slice A7 x.next.length c7)) br 65 #[.int .i64 x.kind, .int .i64 x.prio, .bool x.ch, .int .i64 x.pay.to, .int .i64 x.pay.sh, .slice A7 x.next.length c7] := ((((((HBR2.out.set_ 0 (.int .i64 x.kind)).set_ 1 (.int .i64 x.prio)).set_ 2 (.bool x.ch)).set_ 3 (.int .i64 x.pay.to)).set_ 4 (.int .i64 x.pay.sh)).set_ 5 (.slice A7 x.next.length c7))
      have HST := Lib.hid hst
      clear hst f0 c0 f1 c1 f2 c2 f3 c3 f4 c4 f5 c5
      generalize ((((((w1.setCell ⟨br, 0, none⟩ (.int .i64 x.kind)).setCell ⟨br, 1, none⟩ (.int .i64 x.prio)).setCell ⟨br, 2, none⟩ (.bool x.ch)).setCell ⟨br, 3, none⟩ (.int .i64 x.pay.to)).setCell ⟨br, 4, none⟩ (.int .i64 x.pay.sh)).setCell ⟨br, 5, none⟩ (.slice A7 x.next.length c7)) = Wf at *
      refine bodyPost_ret (results_cell_row rfl _ _ br 65 #[.int .i64 x.kind, .int .i64 x.prio, .bool x.ch, .int .i64 x.pay.to, .int .i64 x.pay.sh, .slice A7 x.next.length c7] _ _ rfl hbf Tryz.underlying65 rfl (by kernel_rfl)) rfl ?_
      have n1 := HNE.out
      have n2 := HBR.out
      have n3 := HBB.out
      have n4 := HT9.out.size
      have n5 := HG1.out.size
      have hkeep : ∀ k t cs', Blk W9 k t cs' → k ≠ g → k ≠ br → Blk Wf k t cs' := fun k t cs' hb hk1 hk2 => (hb.grown HG1.out (fun e => hk1 (by injection e))).grown HST.out (fun e => hk2 (by injection e))
      have hown : ∀ k, v'.ownBlock = some k → base ≤ k ∧ k < W9.heap.size := fun k hk => World.ownsRow.lt HA2.out k hk
      have hA1 := HA2.out.kept HG1.out (by
        cases hv : v'.ownBlock with
        | none => exact .inl rfl
        | some u => exact .inr fun e => by injection e with e; have := hown u hv; omega)
      have hA3 := hA1.kept HST.out (.inr fun e => own_ne hA1 HBR2.out (by decide) e)
      have hbr9 := HR2.out.lt
      refine ⟨_, fun k => k = g ∨ k = bm ∨ v'.ownBlock = some k, rfl, ?_, ⟨v', fun _ => Iff.rfl, hkeep bx _ _ HX2.out n1.2.2.2.1 (by omega), hkeep bp _ _ HP2.out n1.2.2.2.2.1 (by omega), hkeep bm _ _ HBT.out n1.2.2.2.2.2.1 (by omega), by rw [ats_snoc, HZS.out, HPL.out]; exact hA3, n1, by have := HST.out.size; omega⟩, ⟨_, rfl, ?_⟩, ?_, ?_⟩
      · exact HD1.out.grown HST.out (fun e => by injection e with e; omega) (fun j e => by injection e with e; subst e; exact ⟨_, _, HBR2.out, by decide⟩)
      · refine nod_ok.more (nod_ok.kept HI.out (KeptS.grown HST.out (fun k hk e => ?_))) (fun k hk _ => ⟨by omega, ?_⟩)
        · injection e with e
          omega
        · rintro (e | e | e)
          · omega
          · omega
          · have := (hown k e).2; omega
      · exact (HT9.out.plus (Turn.of_only HG1.out (fun k e => by injection e with e; subst e; exact (HT1.out _).2 (.inl rfl)))).grown HST.out (fun k e => by injection e with e; omega)
      · rintro k hk hnk (e | e | e)
        · exact hnk ((HT1.out k).2 (.inl e))
        · exact hnk ((HT1.out k).2 (.inr (.inl e)))
        · exact HNT.out k (by have := HTX.out.size; omega) (fun e2 => hnk ((HT1.out k).2 (.inr (.inr e2)))) e
end Go.Proofs.YtohhojbeclbedaaGreatDoor

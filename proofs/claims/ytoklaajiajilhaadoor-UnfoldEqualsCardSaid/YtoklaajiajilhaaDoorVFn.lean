/- unfold: sign, acts, along, isTooLarge; what a face is, what parts are. -/
import Derived.Test.YtoklaajiajilhaaDoorUCon
import Derived.Test.YtoklaajiajilhaaDoorGRes
import Derived.Test.YtoklaajiajilhaaDoorUOps
import Derived.Lib.Hide
import Derived.LoopTactic
import Derived.Deep.DeepMust
import Derived.Deep.CutBlock
import Derived.Deep.CutRange
import Derived.Deep.RegionHeld3
import Derived.Deep.QuietTactic
import Derived.BigQuiet
namespace Go.Proofs.YtoklaajiajilhaaDoor
open Go.RowKit

/-- A kind's sign in the code: none, if it does not act. -/
def signA (k : Int) : List UInt8 := if k = 1 then [33] else if k = 2 then [63] else if k = 3 then [43] else if k = 4 then [38] else []
theorem sign_acts {k : Int} (h : actsK k = true) : signA k = signK k := by
  unfold actsK at h
  rw [Bool.and_eq_true, decide_eq_true_eq, decide_eq_true_eq] at h
  have : k = 1 ∨ k = 2 ∨ k = 3 ∨ k = 4 := by omega
  rcases this with rfl | rfl | rfl | rfl <;> rfl
theorem sign_any (k : Int) (w : World) : Calls Tryd.prog 28 #[.int .i64 k] w fun e w' => e = .returned (.string ⟨(signA k).toArray⟩) ∧ w.grownBy w' none := by
  go_enter Tryd.func28, Tryd.ntmps28
  go_wp2_with fail
  all_goals go_ret
  all_goals refine ⟨?_, only_refl _ _⟩
  all_goals simp_all [signA]
theorem uacts_any (k : Int) (w : World) : Calls Tryd.prog 21 #[.int .i64 k] w fun e w' => e = .returned (.bool (actsK k)) ∧ w.grownBy w' none := by
  go_enter Tryd.func21, Tryd.ntmps21
  go_wp2_with (go_at_call 28; go_must (refine (sign_any k _).mono ?_; rintro e w' ⟨rfl, hg⟩; have HG := Lib.hid hg; clear hg))
  all_goals go_ret
  refine ⟨?_, HG.out⟩
  have : actsK k = !(signA k).isEmpty := by
    by_cases h1 : k = 1
    · subst h1; rfl
    by_cases h2 : k = 2
    · subst h2; rfl
    by_cases h3 : k = 3
    · subst h3; rfl
    by_cases h4 : k = 4
    · subst h4; rfl
    unfold signA actsK
    rw [if_neg h1, if_neg h2, if_neg h3, if_neg h4]
    by_cases h : 1 ≤ k
    · rw [decide_eq_false (p := k ≤ 4) (by omega), Bool.and_false]; rfl
    · rw [decide_eq_false h, Bool.false_and]; rfl
  rw [this]; rfl
theorem ualong_results {tmps : Array Value} {W : World} {g : Nat} {e : Ed} (hp4 : tmps.getD 4 undef = .pointer (some ⟨g, 0, none⟩)) (hb : Blk W g 24 (edCells e)) :
    (results Tryd.f30 tmps).run Tryd.prog W = .ok (edV e) W := by
  have hp' : tmps[4]?.getD undef = .pointer (some ⟨g, 0, none⟩) := by simpa using hp4
  simp [results, Tryd.results30, hp', asAddr, run_loadVar_row W g _ 24 _ _ _ hb Tryd.underlying24 rfl (by exact type_size)]
theorem ualong_any (e : Ed) (o : Int) (w : World) : Calls Tryd.prog 30 #[edV e, .int .i64 o] w fun en w' => en = .returned (edV (e.1, wrap64 (o + e.2))) ∧ w.grownBy w' none := by
  go_enter Tryd.func30, Tryd.ntmps30
  go_wp2_with fail
  refine bodyPost_ret (ualong_results (e := (e.1, wrap64 (o + e.2))) (g := w.heap.size + 1) rfl (blk_at (by simp) _ _)) rfl ?_
  exact ⟨rfl, only_alloc (only_alloc (only_refl _ _) _) _⟩

/-- What there is to see of a type that was come to. -/
structure Fc where
  node : Bool
  kind : Int
  prio : Int
  chan : Bool
  next : Int
  deriving DecidableEq
abbrev fcA (f : Fc) : Array Value := #[.bool f.node, .int .i64 f.kind, .int .i64 f.prio, .bool f.chan, .int .i64 f.next]
abbrev fcV (f : Fc) : Value := .agg (fcA f)
def faceL (xs : List Nd) (t : Ed) : Fc := match nodeAt xs t.1 with
  | none => ⟨false, 0, 0, false, 0⟩
  | some x => if actsK x.kind then ⟨true, x.kind, wrap64 (x.prio + t.2), x.chan, (x.next.length : Int)⟩ else ⟨true, x.kind, 0, false, 0⟩
def payL (x : Nd) : List Ed := if x.chan then [x.pay] else []
/-- The parts of a type that was come to. -/
def partsL (xs : List Nd) (t : Ed) : List Ed := match nodeAt xs t.1 with
  | none => []
  | some x => if actsK x.kind then (payL x ++ x.next).map (stepT t) else []

theorem fc_size : (Tryd.prog.info? 47).map (·.size) = some 5 := by kernel_rfl
theorem face_results {tmps : Array Value} {W : World} {g : Nat} {f : Fc} (hp4 : tmps.getD 4 undef = .pointer (some ⟨g, 0, none⟩)) (hb : Blk W g 47 (fcA f)) :
    (results Tryd.f14 tmps).run Tryd.prog W = .ok (fcV f) W := by
  have hp' : tmps[4]?.getD undef = .pointer (some ⟨g, 0, none⟩) := by simpa using hp4
  simp [results, Tryd.results14, hp', asAddr, run_loadVar_row W g _ 47 _ _ _ hb Tryd.underlying47 rfl (by exact fc_size)]
theorem Blk.putF {W : World} {g : Nat} {e : Fc} (h : Blk W g 47 (fcA e)) (f : Fc) : Blk (((((W.setCell ⟨g, 0, none⟩ (.bool f.node)).setCell ⟨g, 1, none⟩ (.int .i64 f.kind)).setCell ⟨g, 2, none⟩ (.int .i64 f.prio)).setCell ⟨g, 3, none⟩ (.bool f.chan)).setCell ⟨g, 4, none⟩ (.int .i64 f.next)) g 47 (fcA f) :=
  ((((h.set_ 0 _).set_ 1 _).set_ 2 _).set_ 3 _).set_ 4 _
theorem only_putF {w W : World} {g : Nat} (h : w.grownBy W none) (hg : w.heap.size ≤ g) (f : Fc) : w.grownBy (((((W.setCell ⟨g, 0, none⟩ (.bool f.node)).setCell ⟨g, 1, none⟩ (.int .i64 f.kind)).setCell ⟨g, 2, none⟩ (.int .i64 f.prio)).setCell ⟨g, 3, none⟩ (.bool f.chan)).setCell ⟨g, 4, none⟩ (.int .i64 f.next)) none :=
  only_setNew (only_setNew (only_setNew (only_setNew (only_setNew h (p := ⟨g, 0, none⟩) hg _) (p := ⟨g, 1, none⟩) hg _) (p := ⟨g, 2, none⟩) hg _) (p := ⟨g, 3, none⟩) hg _) (p := ⟨g, 4, none⟩) hg _
set_option maxRecDepth 100000 in
set_option maxHeartbeats 2000000 in
theorem face_any (xs : List Nd) (v : Value) (t : Ed) (w : World) (hT : Tbl w v xs) (hl : xs.length ≤ 1000) (ht : nodeAt xs t.1 = none → t.1 < 0) :
    Calls Tryd.prog 14 #[v, edV t] w fun en w' => en = .returned (fcV (faceL xs t)) ∧ w.grownBy w' none := by
  have HT := Lib.hid hT
  obtain ⟨A, cap, rfl, hcl⟩ := hT
  obtain ⟨i, o⟩ := t
  cases hn : nodeAt xs i with
  | none =>
    have hf : faceL xs (i, o) = ⟨false, 0, 0, false, 0⟩ := by unfold faceL; rw [hn]
    rw [hf]
    have hi : i < 0 := ht hn
    clear hcl ht hn hf
    go_enter Tryd.func14, Tryd.ntmps14
    go_wp2_with fail
    refine bodyPost_ret (face_results (f := ⟨false, 0, 0, false, 0⟩) (g := w.heap.size + 1) rfl (blk_at (by simp) _ _)) rfl ?_
    exact ⟨rfl, only_alloc (only_alloc (only_refl _ _) _) _⟩
  | some x =>
    obtain ⟨k, hk⟩ : ∃ k, faceL xs (i, o) = k := ⟨_, rfl⟩
    have HF : Hid ((if actsK x.kind then ⟨true, x.kind, wrap64 (x.prio + o), x.chan, (x.next.length : Int)⟩ else ⟨true, x.kind, 0, false, 0⟩ : Fc) = k) := Lib.hid (by rw [← hk]; unfold faceL; rw [hn])
    obtain ⟨hi0, hi1, hix⟩ := nodeAt_some hn
    obtain ⟨i, rfl⟩ : ∃ m : Nat, i = m := ⟨i.toNat, by omega⟩
    rw [show ((i : Int)).toNat = i by simp] at hix
    obtain ⟨b, off, rfl, hcl2⟩ := hcl (by intro e0; rw [e0] at hi1; simp at hi1; omega)
    obtain ⟨vx, hE, n0, n1, n2, n3, n4, n5⟩ := hcl2 i x hix
    obtain ⟨A2, c2, rfl, hl2, _⟩ := hE
    have hb := cell_lt n0
    obtain ⟨ka, hka⟩ : ∃ ka, actsK x.kind = ka := ⟨_, rfl⟩
    have HK := Lib.hid hka
    have hlI : (xs.length : Int) ≤ 1000 := by omega
    rw [hk]
    clear hcl hcl2 hix hn ht hk hka hl
    go_enter Tryd.func14, Tryd.ntmps14
    go_upto_region 4 with fail
    generalize hW1 : World.alloc _ _ = W1
    have hg1 : w.grownBy W1 none := by rw [← hW1]; exact only_alloc (only_alloc (only_alloc (only_refl _ _) _) _) _
    have ba : Blk W1 w.heap.size 24 (edCells ((i : Int), o)) := by rw [← hW1]; exact ((Blk.new w _ _).alloc _).alloc _
    have bf : Blk W1 (w.heap.size + 1) 47 (fcA ⟨false, 0, 0, false, 0⟩) := by rw [← hW1]; exact (blk_at (by simp) _ _).alloc _
    have bn : Blk W1 (w.heap.size + 1 + 1) 39 (ndCells x (.slice A2 x.next.length c2)) := by rw [← hW1]; exact blk_at (by simp) _ _
    have k0 := bn.cell 0
    clear hW1 n0 n1 n2 n3 n4 n5 hb
    go_wp2_with (go_at_call 21; go_must (refine (uacts_any _ _).mono ?_; rw [HK.out]; rintro e W2 ⟨rfl, hg⟩; have HG := Lib.hid (only_trans hg1 hg); have a1 := (ba.kept hg).cell 1; have BF := Lib.hid (bf.kept hg); have m0 := (bn.kept hg).cell 0; have m1 := (bn.kept hg).cell 1; have m2 := (bn.kept hg).cell 2; have m5 := (bn.kept hg).cell 5; have f0 := (bf.kept hg).frozen 0; have f1 := (bf.kept hg).frozen 1; have f2 := (bf.kept hg).frozen 2; have f3 := (bf.kept hg).frozen 3; have f4 := (bf.kept hg).frozen 4; have l0 := (bf.kept hg).cell 0; have l1 := (bf.kept hg).cell 1; have l2 := (bf.kept hg).cell 2; have l3 := (bf.kept hg).cell 3; have l4 := (bf.kept hg).cell 4; have hx2 := cell_lt m0; have hx1 := cell_lt l0; clear hg hg1 ba bf bn k0))
    · rename_i hna
      have hB := BF.out.putF ⟨true, x.kind, 0, false, 0⟩
      have hG := only_putF (g := w.heap.size + 1) HG.out (Nat.le_succ _) ⟨true, x.kind, 0, false, 0⟩
      dsimp only at hB hG
      have hk : k = ⟨true, x.kind, 0, false, 0⟩ := by rw [← HF.out]; have : ka = false := (by cases ka; rfl; cases hna); rw [HK.out, this]; first | rw [if_pos rfl] | rw [if_neg Bool.false_ne_true]
      rw [hk]
      exact bodyPost_ret (face_results (f := ⟨true, x.kind, 0, false, 0⟩) rfl hB) rfl ⟨rfl, hG⟩
    · rename_i hna
      have hB := BF.out.putF ⟨true, x.kind, wrap64 (x.prio + o), x.chan, (x.next.length : Int)⟩
      have hG := only_putF (g := w.heap.size + 1) HG.out (Nat.le_succ _) ⟨true, x.kind, wrap64 (x.prio + o), x.chan, (x.next.length : Int)⟩
      dsimp only at hB hG
      have hk : k = ⟨true, x.kind, wrap64 (x.prio + o), x.chan, (x.next.length : Int)⟩ := by rw [← HF.out]; have : ka = true := (by cases ka; cases hna; rfl); rw [HK.out, this]; first | rw [if_pos rfl] | rw [if_neg Bool.false_ne_true]
      rw [hk]
      exact bodyPost_ret (face_results (f := ⟨true, x.kind, wrap64 (x.prio + o), x.chan, (x.next.length : Int)⟩) rfl hB) rfl ⟨rfl, hG⟩

set_option maxRecDepth 100000 in
set_option maxHeartbeats 2000000 in
theorem large_any (xs : List Nd) (v : Value) (w : World) (hT : Tbl w v xs) (hl : xs.length ≤ 1000) :
    Calls Tryd.prog 12 #[v] w fun en w' => en = .returned (.bool (largeB xs)) ∧ w.grownBy w' none := by
  have HT := Lib.hid hT
  have HL := Lib.hid hl
  obtain ⟨A, cap, rfl, hcl⟩ := hT
  have hlI : (xs.length : Int) ≤ 1000 := by omega
  clear hl
  go_enter Tryd.func12, Tryd.ntmps12
  go_wp2_with fail
  · go_ret
    refine ⟨?_, only_refl _ _⟩
    have : (128 : Int) < (xs.length : Int) := (by assumption)
    rw [show largeB xs = true by unfold largeB; rw [decide_eq_true (by omega), Bool.true_or]]
    rfl
  · have h128 : (xs.length : Int) ≤ 128 := (by assumption)
    go_loopw [10] (fun i wr => ∃ k : Nat, k ≤ xs.length ∧ i = .int .i64 (k : Int) ∧ w.grownBy wr none ∧ (xs.take k).any (fun x => decide (8 < x.next.length)) = false) (fun i _ => xs.length - (intOf i).toNat)
    case atStart => exact ⟨0, Nat.zero_le _, rfl, only_refl _ _, by simp⟩
    case round =>
      obtain ⟨k, hk, rfl, hg, hs⟩ := hrel
      by_cases hlt : k < xs.length
      · obtain ⟨x, hx⟩ : ∃ x, xs[k]? = some x := ⟨_, List.getElem?_eq_getElem hlt⟩
        obtain ⟨b, off, rfl, hcl2⟩ := hcl (by intro e0; rw [e0] at hlt; simp at hlt)
        obtain ⟨vx, hE, n0, n1, n2, n3, n4, n5⟩ := (hcl2 k x hx).keep (.grown hg)
        obtain ⟨A2, c2, rfl, hl2, _⟩ := hE
        have hb := cell_lt n0
        have hk0 : (0 : Int) ≤ (k : Int) := by omega
        have hk1 : (k : Int) < (xs.length : Int) := by omega
        have HS : Hid ((xs.take (k + 1)).any (fun x => decide (8 < x.next.length)) = decide (8 < x.next.length)) := Lib.hid (by rw [List.take_add_one, hx, List.any_append, hs]; simp)
        have HM : Hid (decide (8 < x.next.length) = true → largeB xs = true) := Lib.hid fun h => by unfold largeB; rw [Bool.or_eq_true, List.any_eq_true]; exact .inr ⟨x, List.mem_of_getElem? hx, h⟩
        have HG := Lib.hid hg
        clear hcl2 hcl hg hs hx HT
        go_wp2_with fail
        · go_ret
          refine ⟨?_, only_alloc HG.out _⟩
          have : (8 : Int) < (x.next.length : Int) := (by assumption)
          rw [HM.out (decide_eq_true (by omega))]
          rfl
        · have h8 : ((x.next.length : Nat) : Int) ≤ 8 := (by assumption)
          go_roundw
          case rel => exact ⟨k + 1, by omega, by go_num, only_alloc HG.out _, by rw [HS.out]; exact decide_eq_false (by omega)⟩
          case measure => simp [intOf]; omega
      · have hke : k = xs.length := by omega
        rw [hke, List.take_length] at hs
        have HR : Hid (largeB xs = false) := Lib.hid (by unfold largeB; rw [hs, decide_eq_false (by omega)]; rfl)
        have HG := Lib.hid hg
        have hge : (xs.length : Int) ≤ (k : Int) := by omega
        clear hcl hg hs hke HT
        go_wp2_with fail
        go_ret
        exact ⟨by rw [HR.out]; rfl, HG.out⟩
end Go.Proofs.YtoklaajiajilhaaDoor

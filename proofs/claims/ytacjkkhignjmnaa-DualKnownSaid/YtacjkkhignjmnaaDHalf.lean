/- dual: halves: what turns the nodes of the first half, then what turns those of the second one (a function over which one ranges, and which makes what it tells). -/
import Derived.Test.YtacjkkhignjmnaaDTurn
import Derived.Test.YtacjkkhignjmnaaRng
import Derived.WalkKit
import Derived.OwnWalkIn
import Derived.TacticsInMore
import Derived.LoopNIn
import Derived.LoopIn
namespace Go.Proofs.Ytacjkkhignjmnaa
open Go.RowKit Go.Shelf
attribute [local go_sem] Oper.semAt_some

/-- The kinds as they are, and their duals. -/
abbrev row0 : Array Value := #[.int .i64 0, .int .i64 1, .int .i64 2, .int .i64 3, .int .i64 4, .int .i64 5]
abbrev row1 : Array Value := #[.int .i64 0, .int .i64 2, .int .i64 1, .int .i64 4, .int .i64 3, .int .i64 5]
abbrev rows2 : Array Value := #[.int .i64 0, .int .i64 1, .int .i64 2, .int .i64 3, .int .i64 4, .int .i64 5, .int .i64 0, .int .i64 2, .int .i64 1, .int .i64 4, .int .i64 3, .int .i64 5]
theorem halves_any (N : Nat) (w : World) : Calls Try.prog 18 #[.int .i64 (N : Int)] w fun e w' => e = .returned (.func (.func 24) #[] #[.pointer (some ⟨w.heap.size + 1, 0, none⟩), .pointer (some ⟨w.heap.size, 0, none⟩)]) ∧ w' = (w.alloc (.cells #[.int .i64 (N : Int)] 3)).alloc (.cells rows2 56) := by
  have hmf : ∀ (fn : Fn) (first cap : Array Value) (w : World), (Instr.makeFunc fn first cap).run Try.prog w = .ok (.func fn first cap) w := fun _ _ _ _ => rfl
  go_enter Try.func18, Try.ntmps18
  go_wp2
  go_ret
  exact ⟨by simp, rfl⟩

/-- What is handed over: a half's row, how much further. -/
def hEnc (x : Nat × Nat) : Array Value := #[turnV x.1 x.2]
def hT (bk bn N : Nat) (_ : List (Nat × Nat)) (W : World) : Prop := Blk W bk 56 rows2 ∧ Blk W bn 3 #[.int .i64 (N : Int)]
def hTm (bk bn N : Nat) (pre : List (Nat × Nat)) (x : Nat × Nat) (W : World) : Prop := hT bk bn N pre W ∧ ((pre.length = 0 ∧ Blk W x.1 55 row0 ∧ Blk W x.2 3 #[.int .i64 ((0 : Nat) : Int)]) ∨ (pre.length = 1 ∧ Blk W x.1 55 row1 ∧ Blk W x.2 3 #[.int .i64 (N : Int)]))

set_option maxRecDepth 100000 in
set_option maxHeartbeats 2000000 in
theorem halves_hands (bk bn N : Nat) (hN : N ≤ 1000) :
    Hands Fence.wide 2 Try.prog 24 #[.pointer (some ⟨bk, 0, none⟩), .pointer (some ⟨bn, 0, none⟩)] hEnc (fun X Y => X.grownBy Y none) (hT bk bn N) (hTm bk bn N) (fun xs => xs.length = 2) := fun l J Jx W hJ hY h0 ⟨hb, hn⟩ => by
  refine callsIn_of_wp Try.func24 rfl trivial ?_ rfl
  simp only [Try.ntmps24, List.size_toArray, List.length_cons, List.length_nil, Nat.reduceAdd, Nat.reduceSub, Array.replicate_succ, Array.replicate_zero, List.push_toArray, List.append_toArray, List.nil_append, List.cons_append]
  have hi0 : ∀ w, (Instr.index 56 (.agg #[.int .i64 0, .int .i64 1, .int .i64 2, .int .i64 3, .int .i64 4, .int .i64 5, .int .i64 0, .int .i64 2, .int .i64 1, .int .i64 4, .int .i64 3, .int .i64 5]) (.int .i64 0)).run Try.prog w = .ok (.agg #[.int .i64 0, .int .i64 1, .int .i64 2, .int .i64 3, .int .i64 4, .int .i64 5]) w := fun w => by kernel_rfl
  have hi1 : ∀ w, (Instr.index 56 (.agg #[.int .i64 0, .int .i64 1, .int .i64 2, .int .i64 3, .int .i64 4, .int .i64 5, .int .i64 0, .int .i64 2, .int .i64 1, .int .i64 4, .int .i64 3, .int .i64 5]) (.int .i64 1)).run Try.prog w = .ok (.agg #[.int .i64 0, .int .i64 2, .int .i64 1, .int .i64 4, .int .i64 3, .int .i64 5]) w := fun w => by kernel_rfl
  have HB := Lib.hid hb
  have HN := Lib.hid hn
  have HY := Lib.hid hY
  have HJ := Lib.hid hJ
  have H0 := Lib.hid h0
  have c0 := hb.cell 0
  have c1 := hb.cell 1
  have c2 := hb.cell 2
  have c3 := hb.cell 3
  have c4 := hb.cell 4
  have c5 := hb.cell 5
  have c6 := hb.cell 6
  have c7 := hb.cell 7
  have c8 := hb.cell 8
  have c9 := hb.cell 9
  have c10 := hb.cell 10
  have c11 := hb.cell 11
  clear hb hn hY hJ h0
  gi_wp2_with fail
  gi_loopw [7] (fun i wr => ∃ xs : List (Nat × Nat), xs.length ≤ 2 ∧ i = .int .i64 (xs.length : Int) ∧ J xs wr ∧ hT bk bn N xs wr) (fun i _ => 2 - (intOf i).toNat)
  case atStart => exact ⟨[], by decide, rfl, H0.out, HB.out, HN.out⟩
  case round =>
    obtain ⟨xs, hk, rfl, hj, ht⟩ := hrel
    obtain ⟨hb, hn⟩ := ht
    have n0 := hn.cell 0
    have hbk := hb.lt
    have hbn := hn.lt
    have h3 : xs.length = 0 ∨ xs.length = 1 ∨ xs.length = 2 := by omega
    rcases h3 with h3 | h3 | h3
    · rw [h3]
      have hgr : wr.grownBy (((wr.alloc (.cells #[.int .i64 0, .int .i64 1, .int .i64 2, .int .i64 3, .int .i64 4, .int .i64 5] 55)).alloc (.cells #[.int .i64 0, .int .i64 1, .int .i64 2, .int .i64 3, .int .i64 4, .int .i64 5] 55)).alloc (.cells #[.int .i64 0] 3)) none := only_alloc (only_alloc (only_alloc (only_refl _ _) _) _) _
      obtain ⟨fn, tmps, assign, body, hy, hR⟩ := HY.out xs (wr.heap.size + 1, wr.heap.size + 1 + 1) (((wr.alloc (.cells #[.int .i64 0, .int .i64 1, .int .i64 2, .int .i64 3, .int .i64 4, .int .i64 5] 55)).alloc (.cells #[.int .i64 0, .int .i64 1, .int .i64 2, .int .i64 3, .int .i64 4, .int .i64 5] 55)).alloc (.cells #[.int .i64 0] 3)) (HJ.out _ _ _ hj hgr)
        ⟨⟨hb.kept hgr, hn.kept hgr⟩, .inl ⟨h3, (blk_at (by simp) _ _).alloc _, blk_at (by simp) _ _⟩⟩
      simp only [hEnc] at hy
      have H3 := Lib.hid h3
      clear hj h3 hk HB HN H0 hgr
      gi_wp2_with (refine ⟨trivial, ?_⟩; gi_at_call 25; go_must (refine (callsIn_wide.2 (turner_any #[.int .i64 0, .int .i64 1, .int .i64 2, .int .i64 3, .int .i64 4, .int .i64 5] 0 _ ⟨_, _, _, _, _, _, rfl⟩)).mono ?_; rintro e w' ⟨rfl, rfl⟩))
      refine hR.mono ?_
      rintro e W3 (⟨rfl, hJ3, hT3⟩ | ⟨rfl, hJ3⟩)
      · have HJ3 := Lib.hid hJ3
        have HT3 := Lib.hid hT3
        clear hJ3 hT3 hy hR
        gi_wp2_with fail
        go_roundw
        case rel => exact ⟨xs ++ [(wr.heap.size + 1, wr.heap.size + 1 + 1)], by rw [List.length_append, H3.out, List.length_singleton]; decide, by rw [List.length_append, H3.out]; rfl, HJ3.out, HT3.out⟩
        case measure => simp [intOf]
      · have HX := Lib.hid hJ3
        clear hJ3 hy hR
        gi_wp2_with fail
        refine bodyPost_ret (results_none rfl _ _ _) rfl ?_
        exact ⟨⟨_, rfl⟩, .inr ⟨_, HX.out⟩⟩
    · rw [h3]
      have hgr : wr.grownBy (((wr.alloc (.cells #[.int .i64 0, .int .i64 2, .int .i64 1, .int .i64 4, .int .i64 3, .int .i64 5] 55)).alloc (.cells #[.int .i64 0, .int .i64 2, .int .i64 1, .int .i64 4, .int .i64 3, .int .i64 5] 55)).alloc (.cells #[.int .i64 (N : Int)] 3)) none := only_alloc (only_alloc (only_alloc (only_refl _ _) _) _) _
      obtain ⟨fn, tmps, assign, body, hy, hR⟩ := HY.out xs (wr.heap.size + 1, wr.heap.size + 1 + 1) (((wr.alloc (.cells #[.int .i64 0, .int .i64 2, .int .i64 1, .int .i64 4, .int .i64 3, .int .i64 5] 55)).alloc (.cells #[.int .i64 0, .int .i64 2, .int .i64 1, .int .i64 4, .int .i64 3, .int .i64 5] 55)).alloc (.cells #[.int .i64 (N : Int)] 3)) (HJ.out _ _ _ hj hgr)
        ⟨⟨hb.kept hgr, hn.kept hgr⟩, .inr ⟨h3, (blk_at (by simp) _ _).alloc _, blk_at (by simp) _ _⟩⟩
      simp only [hEnc] at hy
      have H3 := Lib.hid h3
      clear hj h3 hk HB HN H0 hgr
      gi_wp2_with (refine ⟨trivial, ?_⟩; gi_at_call 25; go_must (refine (callsIn_wide.2 (turner_any #[.int .i64 0, .int .i64 2, .int .i64 1, .int .i64 4, .int .i64 3, .int .i64 5] (N : Int) _ ⟨_, _, _, _, _, _, rfl⟩)).mono ?_; rintro e w' ⟨rfl, rfl⟩))
      refine hR.mono ?_
      rintro e W3 (⟨rfl, hJ3, hT3⟩ | ⟨rfl, hJ3⟩)
      · have HJ3 := Lib.hid hJ3
        have HT3 := Lib.hid hT3
        clear hJ3 hT3 hy hR
        gi_wp2_with fail
        go_roundw
        case rel => exact ⟨xs ++ [(wr.heap.size + 1, wr.heap.size + 1 + 1)], by rw [List.length_append, H3.out, List.length_singleton]; decide, by rw [List.length_append, H3.out]; rfl, HJ3.out, HT3.out⟩
        case measure => simp [intOf]
      · have HX := Lib.hid hJ3
        clear hJ3 hy hR
        gi_wp2_with fail
        refine bodyPost_ret (results_none rfl _ _ _) rfl ?_
        exact ⟨⟨_, rfl⟩, .inr ⟨_, HX.out⟩⟩
    · rw [h3]
      have HX : Hid (J xs wr) := hj
      have HT : Hid (hT bk bn N xs wr) := Lib.hid ⟨hb, hn⟩
      have H3 := Lib.hid h3
      clear hj hb hn h3 hk HB HN H0
      gi_wp2_with fail
      go_end0
      exact ⟨⟨_, rfl⟩, .inl ⟨xs, H3.out, HX.out, HT.out⟩⟩
end Go.Proofs.Ytacjkkhignjmnaa

/- The document's own answers of layer 6: the dual kind, the mate, whether two nodes are the same; and the statements' own 'edges', 'opposite'. -/
import Derived.Test.YtacjkkhignjmnaaDDual
import Derived.Deep.QuietTactic
import Derived.BigQuiet
namespace Go.Proofs.Ytacjkkhignjmnaa
open Go.RowKit Go.Shelf

set_option maxHeartbeats 400000 in
theorem rkind_any (k : Int) (w : World) : Calls Try.prog 20 #[.int .i64 k] w fun e w' => e = .returned (.int .i64 (dualK k)) ∧ w = w' := by
  by_cases h1 : k = 1
  · subst h1
    go_enter Try.func20, Try.ntmps20
    go_wp2
    go_ret
    exact ⟨rfl, rfl⟩
  · by_cases h2 : k = 2
    · subst h2
      go_enter Try.func20, Try.ntmps20
      go_wp2
      go_ret
      exact ⟨rfl, rfl⟩
    · by_cases h3 : k = 3
      · subst h3
        go_enter Try.func20, Try.ntmps20
        go_wp2
        go_ret
        exact ⟨rfl, rfl⟩
      · by_cases h4 : k = 4
        · subst h4
          go_enter Try.func20, Try.ntmps20
          go_wp2
          go_ret
          exact ⟨rfl, rfl⟩
        · have hd : dualK k = k := by simp [dualK, h1, h2, h3, h4]
          rw [hd]
          clear hd
          go_enter Try.func20, Try.ntmps20
          go_wp2
          go_ret
          exact ⟨rfl, rfl⟩

set_option maxHeartbeats 400000 in
theorem rmate_any (n m : Int) (h0 : -1000000000 ≤ n) (h1 : n ≤ 1000000000) (h2 : -9223372036854775808 ≤ m) (h3 : m ≤ 9223372036854775807) (w : World) : Calls Try.prog 11 #[.int .i64 n, .int .i64 m] w fun e w' => e = .returned (.int .i64 (mateA n m)) ∧ w = w' := by
  obtain ⟨r, hr⟩ : ∃ r, mateA n m = r := ⟨_, rfl⟩
  rw [hr]
  have HR := Lib.hid hr
  clear hr
  by_cases c0 : n < 1
  · have e : mateA n m = -1 := by unfold mateA; rw [if_pos (by omega)]
    have HE := Lib.hid e
    clear e
    go_enter Try.func11, Try.ntmps11
    go_wp2_with fail
    go_ret
    exact ⟨by rw [← HR.out, HE.out]; rfl, rfl⟩
  · have c0' : 1 ≤ n := by omega
    by_cases c1 : m < 0
    · have e : mateA n m = -1 := by unfold mateA; rw [if_pos (by omega)]
      have HE := Lib.hid e
      clear e
      go_enter Try.func11, Try.ntmps11
      go_wp2_with fail
      go_ret
      exact ⟨by rw [← HR.out, HE.out]; rfl, rfl⟩
    · have c1' : 0 ≤ m := by omega
      by_cases c2 : 2 * n ≤ m
      · have e : mateA n m = -1 := by unfold mateA; rw [if_pos (by omega)]
        have HE := Lib.hid e
        clear e
        go_enter Try.func11, Try.ntmps11
        go_wp2_with fail
        go_ret
        exact ⟨by rw [← HR.out, HE.out]; rfl, rfl⟩
      · have c2' : m < 2 * n := by omega
        by_cases c3 : m < n
        · have e : mateA n m = m + n := mate_low c0' c1' c3
          have HE := Lib.hid e
          clear e
          go_enter Try.func11, Try.ntmps11
          go_wp2_with fail
          go_ret
          exact ⟨by rw [← HR.out, HE.out]; rfl, rfl⟩
        · have c3' : n ≤ m := by omega
          have e : mateA n m = m - n := mate_high c0' c3' c2'
          have HE := Lib.hid e
          clear e
          go_enter Try.func11, Try.ntmps11
          go_wp2_with fail
          go_ret
          exact ⟨by rw [← HR.out, HE.out]; rfl, rfl⟩

theorem ropp_any (k : Int) (hk : 0 ≤ k ∧ k ≤ 5) (w : World) : Calls Try.prog 17 #[.int .i64 k, .int .i64 (dualK k)] w fun e w' => e = .returned (.bool true) ∧ w = w' := by
  obtain rfl | rfl | rfl | rfl | rfl | rfl : k = 0 ∨ k = 1 ∨ k = 2 ∨ k = 3 ∨ k = 4 ∨ k = 5 := by omega
  all_goals
    (simp only [dualK]
     go_enter Try.func17, Try.ntmps17
     go_wp2
     go_ret
     exact ⟨rfl, rfl⟩)

set_option maxHeartbeats 400000 in
/-- The statement's own comparison of two lists of edges, of like ones. -/
theorem redges_any (es : List Ed) (v u : Value) (w : World) (hE : Edges w v es) (hU : Edges w u es) :
    Calls Try.prog 14 #[v, u] w fun e w' => e = .returned (.bool true) ∧ w.grownBy w' none := by
  obtain ⟨A, c, rfl, hl, hc⟩ := hE
  obtain ⟨B, d, rfl, _, hd⟩ := hU
  have HC := Lib.hid hc
  have HD := Lib.hid hd
  clear hc hd
  go_enter Try.func14, Try.ntmps14
  go_wp2_with fail
  go_loopw [5] (fun i wr => ∃ k : Nat, k ≤ es.length ∧ i = .int .i64 (k : Int) ∧ w.grownBy wr none) (fun i _ => es.length - (intOf i).toNat)
  case atStart => exact ⟨0, Nat.zero_le _, rfl, only_refl _ _⟩
  case round =>
    obtain ⟨k, hk, rfl, hg⟩ := hrel
    have HG := Lib.hid hg
    clear hg
    by_cases hlt : k < es.length
    · obtain ⟨⟨a, b⟩, he⟩ : ∃ e, es[k]? = some e := ⟨_, List.getElem?_eq_getElem hlt⟩
      obtain ⟨bb, off, rfl, hce⟩ := HC.out (by intro e0; rw [e0] at hlt; simp at hlt)
      obtain ⟨bu, ofu, rfl, hde⟩ := HD.out (by intro e0; rw [e0] at hlt; simp at hlt)
      obtain ⟨d0, d1⟩ := hce k _ he
      obtain ⟨f0, f1⟩ := hde k _ he
      have g0 := Keeps.grown HG.out _ _ d0
      have g1 := Keeps.grown HG.out _ _ d1
      have g2 := Keeps.grown HG.out _ _ f0
      have g3 := Keeps.grown HG.out _ _ f1
      have hk0 : (0 : Int) ≤ (k : Int) := by omega
      have hk1 : (k : Int) < (es.length : Int) := by omega
      clear hce hde he d0 d1 f0 f1
      go_upto_region 6 with fail
      go_quiet (fail)
      go_wp2_with fail
      go_roundw
      case rel => exact ⟨k + 1, by omega, by go_num, only_drewN HG.out _⟩
      case measure => simp [intOf]; omega
    · have hge : (es.length : Int) ≤ (k : Int) := by omega
      clear hlt hk
      go_wp2_with fail
      go_ret
      exact ⟨rfl, HG.out⟩

set_option maxRecDepth 10000 in
set_option maxHeartbeats 400000 in
/-- The document's comparison of two nodes, of like ones. -/
theorem rsame_any (x : Nd) (v u : Value) (w : World) (hE : Edges w v x.next) (hU : Edges w u x.next) :
    Calls Try.prog 9 #[ndV x v, ndV x u] w fun e w' => e = .returned (.bool true) ∧ w.grownBy w' none := by
  obtain ⟨kind, prio, chan, ⟨pa, ps⟩, es⟩ := x
  dsimp only at hE hU
  obtain ⟨A, c, rfl, hl, hc⟩ := hE
  obtain ⟨B, d, rfl, _, hd⟩ := hU
  have HC := Lib.hid hc
  have HD := Lib.hid hd
  have HG0 : Hid (w.grownBy ((w.alloc (.cells #[.int .i64 kind, .int .i64 prio, .bool chan, .int .i64 pa, .int .i64 ps, .slice A es.length c] 29)).alloc (.cells #[.int .i64 kind, .int .i64 prio, .bool chan, .int .i64 pa, .int .i64 ps, .slice B es.length d] 29)) none) := only_alloc (only_alloc (only_refl _ _) _) _
  have HB0 : Hid (Blk ((w.alloc (.cells #[.int .i64 kind, .int .i64 prio, .bool chan, .int .i64 pa, .int .i64 ps, .slice A es.length c] 29)).alloc (.cells #[.int .i64 kind, .int .i64 prio, .bool chan, .int .i64 pa, .int .i64 ps, .slice B es.length d] 29)) w.heap.size 29 (ndCells ⟨kind, prio, chan, (pa, ps), es⟩ (.slice A es.length c))) := (Blk.new _ _ _).alloc _
  have HB1 : Hid (Blk ((w.alloc (.cells #[.int .i64 kind, .int .i64 prio, .bool chan, .int .i64 pa, .int .i64 ps, .slice A es.length c] 29)).alloc (.cells #[.int .i64 kind, .int .i64 prio, .bool chan, .int .i64 pa, .int .i64 ps, .slice B es.length d] 29)) (w.heap.size + 1) 29 (ndCells ⟨kind, prio, chan, (pa, ps), es⟩ (.slice B es.length d))) := blk_at (by simp) _ _
  clear hc hd
  go_enter Try.func9, Try.ntmps9
  go_wp2_with fail
  generalize ((w.alloc (.cells #[.int .i64 kind, .int .i64 prio, .bool chan, .int .i64 pa, .int .i64 ps, .slice A es.length c] 29)).alloc (.cells #[.int .i64 kind, .int .i64 prio, .bool chan, .int .i64 pa, .int .i64 ps, .slice B es.length d] 29)) = W0 at *
  go_loopw [5] (fun i wr => ∃ k : Nat, k ≤ es.length ∧ i = .int .i64 (k : Int) ∧ W0.grownBy wr none) (fun i _ => es.length - (intOf i).toNat)
  case atStart => exact ⟨0, Nat.zero_le _, rfl, only_refl _ _⟩
  case round =>
    obtain ⟨k, hk, rfl, hg⟩ := hrel
    have HG := Lib.hid hg
    have p5 : wr.cell? ⟨w.heap.size, 5, none⟩ = some (.slice A es.length c) := (HB0.out.kept hg).cell 5
    have q5 : wr.cell? ⟨w.heap.size + 1, 5, none⟩ = some (.slice B es.length d) := (HB1.out.kept hg).cell 5
    clear hg
    by_cases hlt : k < es.length
    · obtain ⟨⟨a, b⟩, he⟩ : ∃ e, es[k]? = some e := ⟨_, List.getElem?_eq_getElem hlt⟩
      obtain ⟨bb, off, rfl, hce⟩ := HC.out (by intro e0; rw [e0] at hlt; simp at hlt)
      obtain ⟨bu, ofu, rfl, hde⟩ := HD.out (by intro e0; rw [e0] at hlt; simp at hlt)
      obtain ⟨d0, d1⟩ := hce k _ he
      obtain ⟨f0, f1⟩ := hde k _ he
      have g0 := Keeps.grown (only_trans HG0.out HG.out) _ _ d0
      have g1 := Keeps.grown (only_trans HG0.out HG.out) _ _ d1
      have g2 := Keeps.grown (only_trans HG0.out HG.out) _ _ f0
      have g3 := Keeps.grown (only_trans HG0.out HG.out) _ _ f1
      have hk0 : (0 : Int) ≤ (k : Int) := by omega
      have hk1 : (k : Int) < (es.length : Int) := by omega
      clear hce hde he d0 d1 f0 f1
      go_upto_region 6 with fail
      go_quiet (fail)
      go_wp2_with fail
      go_roundw
      case rel => exact ⟨k + 1, by omega, by go_num, only_drewN HG.out _⟩
      case measure => simp [intOf]; omega
    · have hge : (es.length : Int) ≤ (k : Int) := by omega
      clear hlt hk
      go_wp2_with fail
      go_ret
      exact ⟨rfl, only_trans HG0.out HG.out⟩
end Go.Proofs.Ytacjkkhignjmnaa

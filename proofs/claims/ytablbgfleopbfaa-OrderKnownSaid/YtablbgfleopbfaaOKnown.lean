/- OrderKnown: the walk. -/
import Derived.Test.YtablbgfleopbfaaOWrk
import Derived.Test.YtablbgfleopbfaaOJum
import Derived.Deep.RegionHeld3
import Derived.Deep.CutBlock
import Derived.Deep.CutRange
import Derived.Deep.QuietTactic
import Derived.BigQuiet
namespace Go.Proofs.Ytablbgfleopbfaa
open Go.RowKit Go.Shelf

abbrev tK : List Nd := [⟨3, 5, false, (0, 0), [(1, 1), (2, 0)]⟩, ⟨5, 0, false, (0, 0), [(3, 2)]⟩, ⟨0, 0, false, (0, 0), []⟩, ⟨2, 4, false, (0, 0), [(4, 0)]⟩, ⟨4, 9, false, (0, 0), [(0, 7), (3, 6)]⟩]
abbrev tL : List Nd := [⟨3, 5, false, (0, 0), [(1, 1), (2, 0)]⟩, ⟨5, 0, false, (0, 0), [(3, 0)]⟩, ⟨0, 0, false, (0, 0), []⟩, ⟨2, 4, false, (0, 0), [(4, 0)]⟩, ⟨4, 9, false, (0, 0), [(0, 7), (3, 6)]⟩]
theorem tK_check : orderL tK = (-1, 0) := by kernel_rfl
theorem tL_check : orderL tL = (0, 10) := by kernel_rfl
theorem tN_check : orderL [] = (-1, 2) := by kernel_rfl
theorem tK_j1 : jumpA tK 0 (1, 1) = (2, true) := by kernel_rfl
theorem tK_j2 : jumpA tK 0 (2, 0) = (0, false) := by kernel_rfl
theorem tK_j3 : jumpA tK 4 (3, 6) = (1, true) := by kernel_rfl
theorem tK_j4 : jumpA tK (-1) (0, 0) = (0, false) := by kernel_rfl
theorem tK_j5 : jumpA tK 0 (5, 0) = (0, false) := by kernel_rfl
theorem tK_b0 : backL tK 0 = (10, true) := by kernel_rfl
theorem tK_b3 : backL tK 3 = (6, true) := by kernel_rfl
theorem tK_b1 : backL tK 1 = (0, false) := by kernel_rfl
theorem tK_b2 : backL tK 2 = (0, false) := by kernel_rfl
theorem tK_b5 : backL tK 5 = (0, false) := by kernel_rfl

theorem edges_two_ {W : World} {g : Nat} {t : TypeId} {e f : Ed} {c : Nat} (h : Blk W g t #[.int .i64 e.1, .int .i64 e.2, .int .i64 f.1, .int .i64 f.2]) : Edges W (.slice (some ⟨g, 0, none⟩) 2 c) [e, f] :=
  ⟨_, _, rfl, by simp, fun _ => ⟨g, 0, rfl, fun i x hx => by
    match i, hx with
    | 0, hx => cases hx; exact ⟨h.cell 0, h.cell 1⟩
    | 1, hx => cases hx; exact ⟨h.cell 2, h.cell 3⟩
    | i + 2, hx => simp at hx⟩⟩
/-- The five nodes' cells. -/
abbrev fiveC (g0 : Nat) (p : Value) : Array Value := #[.int .i64 3, .int .i64 5, .bool false, .int .i64 0, .int .i64 0, .slice (some ⟨g0, 0, none⟩) 2 2, .int .i64 5, .int .i64 0, .bool false, .int .i64 0, .int .i64 0, p, .int .i64 0, .int .i64 0, .bool false, .int .i64 0, .int .i64 0, .slice none 0 0,
  .int .i64 2, .int .i64 4, .bool false, .int .i64 0, .int .i64 0, .slice (some ⟨g0 + 1 + 1 + 1, 0, none⟩) 1 1, .int .i64 4, .int .i64 9, .bool false, .int .i64 0, .int .i64 0, .slice (some ⟨g0 + 1 + 1 + 1 + 1, 0, none⟩) 2 2]
structure KW (w : World) (g0 : Nat) (W : World) : Prop where
  step : w.grownBy W none
  e0 : Blk W g0 24 #[.int .i64 1, .int .i64 1, .int .i64 2, .int .i64 0]
  e1 : Blk W (g0 + 1) 24 (edCells (3, 2))
  e3 : Blk W (g0 + 1 + 1 + 1) 24 (edCells (4, 0))
  e4 : Blk W (g0 + 1 + 1 + 1 + 1) 24 #[.int .i64 0, .int .i64 7, .int .i64 3, .int .i64 6]
  r : Blk W (g0 + 1 + 1 + 1 + 1 + 1) 41 (fiveC g0 (.slice (some ⟨g0 + 1, 0, none⟩) 1 1))
theorem KW.none_ {w W W' : World} {g0 : Nat} (h : KW w g0 W) (hg : W.grownBy W' none) : KW w g0 W' := ⟨only_trans h.step hg, h.e0.kept hg, h.e1.kept hg, h.e3.kept hg, h.e4.kept hg, h.r.kept hg⟩
theorem KW.tbl_ {w W : World} {g0 R c : Nat} {p : Value} {es : List Ed} (h : KW w g0 W) (hb : ∀ i u, (fiveC g0 p)[i]? = some u → W.cell? ⟨R, i, none⟩ = some u) (hp : Edges W p es) : Tbl W (.slice (some ⟨R, 0, none⟩) 5 c) [⟨3, 5, false, (0, 0), [(1, 1), (2, 0)]⟩, ⟨5, 0, false, (0, 0), es⟩, ⟨0, 0, false, (0, 0), []⟩, ⟨2, 4, false, (0, 0), [(4, 0)]⟩, ⟨4, 9, false, (0, 0), [(0, 7), (3, 6)]⟩] :=
  ⟨_, _, rfl, fun _ => ⟨R, 0, rfl, fun i z hz => by
    match i, hz with
    | 0, hz => cases hz; exact ⟨_, edges_two_ (e := (1, 1)) (f := (2, 0)) h.e0, hb 0 _ rfl, hb 1 _ rfl, hb 2 _ rfl, hb 3 _ rfl, hb 4 _ rfl, hb 5 _ rfl⟩
    | 1, hz => cases hz; exact ⟨_, hp, hb 6 _ rfl, hb 7 _ rfl, hb 8 _ rfl, hb 9 _ rfl, hb 10 _ rfl, hb 11 _ rfl⟩
    | 2, hz => cases hz; exact ⟨_, Edges.nil_ _, hb 12 _ rfl, hb 13 _ rfl, hb 14 _ rfl, hb 15 _ rfl, hb 16 _ rfl, hb 17 _ rfl⟩
    | 3, hz => cases hz; exact ⟨_, edges_one_ h.e3, hb 18 _ rfl, hb 19 _ rfl, hb 20 _ rfl, hb 21 _ rfl, hb 22 _ rfl, hb 23 _ rfl⟩
    | 4, hz => cases hz; exact ⟨_, edges_two_ (e := (0, 7)) (f := (3, 6)) h.e4, hb 24 _ rfl, hb 25 _ rfl, hb 26 _ rfl, hb 27 _ rfl, hb 28 _ rfl, hb 29 _ rfl⟩
    | i + 5, hz => simp at hz⟩⟩
theorem KW.tab {w W : World} {g0 : Nat} (h : KW w g0 W) : Tbl W (.slice (some ⟨g0 + 1 + 1 + 1 + 1 + 1, 0, none⟩) 5 5) tK := h.tbl_ (fun i _ hu => (h.r.cell i).trans hu) (edges_one_ h.e1)

theorem KW.far {w W : World} {g0 q i : Nat} (h : KW w g0 W) (h1 : w.heap.size ≤ q) (h2 : g0 + 5 < q) (u : Value) : KW w g0 (W.setCell ⟨q, i, none⟩ u) :=
  ⟨only_setNew h.step (p := ⟨q, i, none⟩) h1 _, h.e0.far (by show g0 ≠ q; omega) _, h.e1.far (by show g0 + 1 ≠ q; omega) _, h.e3.far (by show g0 + 1 + 1 + 1 ≠ q; omega) _, h.e4.far (by show g0 + 1 + 1 + 1 + 1 ≠ q; omega) _, h.r.far (by show g0 + 1 + 1 + 1 + 1 + 1 ≠ q; omega) _⟩
theorem low_made {w W : World} {g0 q cap : Nat} {cur : Array Value} (h : KW w g0 W) (h1 : w.heap.size ≤ q) (h2 : g0 + 5 < q) (hb : Blk W q 41 cur) (hc : ∀ i, i < 30 → cur[i]? = (fiveC g0 (.slice (some ⟨g0 + 1, 0, none⟩) 1 1))[i]?) :
    KW w g0 ((W.setCell ⟨q, 11, none⟩ (.slice (some ⟨W.heap.size, 0, none⟩) 1 1)).alloc (.cells #[.int .i64 3, .int .i64 0] 24)) ∧ Tbl ((W.setCell ⟨q, 11, none⟩ (.slice (some ⟨W.heap.size, 0, none⟩) 1 1)).alloc (.cells #[.int .i64 3, .int .i64 0] 24)) (.slice (some ⟨q, 0, none⟩) 5 cap) tL := by
  have hk := (h.far h1 h2 (i := 11) (.slice (some ⟨W.heap.size, 0, none⟩) 1 1)).none_ (only_alloc (only_refl _ _) (.cells #[.int .i64 3, .int .i64 0] 24))
  refine ⟨hk, hk.tbl_ (p := .slice (some ⟨W.heap.size, 0, none⟩) 1 1) (es := [(3, 0)]) (fun i u hu => ?_) ?_⟩
  · have hi : i < 30 := (Array.getElem?_eq_some_iff.1 hu).1
    have hx := ((hb.set_ 11 (.slice (some ⟨W.heap.size, 0, none⟩) 1 1)).alloc (.cells #[.int .i64 3, .int .i64 0] 24)).cell i
    rw [hx, ← hu, show fiveC g0 (.slice (some ⟨W.heap.size, 0, none⟩) 1 1) = (fiveC g0 (.slice (some ⟨g0 + 1, 0, none⟩) 1 1)).setIfInBounds 11 (.slice (some ⟨W.heap.size, 0, none⟩) 1 1) from rfl]
    by_cases h11 : i = 11
    · subst h11
      have h0 : cur[11]? = some (Value.slice (some ⟨g0 + 1, 0, none⟩) 1 1) := hc 11 (by decide)
      have hs : 11 < cur.size := (Array.getElem?_eq_some_iff.1 h0).1
      rw [Array.getElem?_setIfInBounds_self_of_lt hs]
      rfl
    · rw [Array.getElem?_setIfInBounds_ne (Ne.symm h11), Array.getElem?_setIfInBounds_ne (Ne.symm h11)]
      exact hc i hi
  · have hb2 := Blk.new (W.setCell ⟨q, 11, none⟩ (.slice (some ⟨W.heap.size, 0, none⟩) 1 1)) 24 (edCells (3, 0))
    rw [show (W.setCell ⟨q, 11, none⟩ (.slice (some ⟨W.heap.size, 0, none⟩) 1 1)).heap.size = W.heap.size from by simp [World.setCell]] at hb2
    exact edges_one_ hb2
theorem wpList_append_five {ops : Array Oper} {rest : List Oper} {o : Oper} {a : Act} {W : World} {Q : Exit → Act → World → Prop} (hgd : o.guard = none) (s x : Operand)
    (ho : o.op = .call { callee := .builtin .append, args := #[s, x], argTypes := #[22, 22] })
    {g R : Nat} {us : Array Value} (hs : a.eval s = .slice (some ⟨g, 0, none⟩) 0 0) (hx : a.eval x = .slice (some ⟨R, 0, none⟩) 5 5) (hg : Blk W g 41 #[]) (hb : Blk W R 41 us) (hus : us.toList.length = 30) (h1 : ∀ u ∈ us.toList, u.oneCell' = true)
    (h : ∀ q cap cur W', Blk W' q 41 cur → (∀ i, i < 30 → cur[i]? = us[i]?) → g ≤ q → W.grownBy W' (Value.slice (some ⟨g, 0, none⟩) 0 0).ownBlock → wpList Try.prog ops Q rest (a.put o.dst (.slice (some ⟨q, 0, none⟩) 5 cap)) W') : wpList Try.prog ops Q (o :: rest) a W := by
  obtain ⟨i0, hi, hz0, hz1, hz2⟩ := info_parts node_info
  refine wpList_append_own W hgd s x 22 ho g 41 i0 _ 6 64 Try.underlying22 hi hz0 hz1 hz2 rfl (by decide) _ 0 [] hs ⟨by simp, .inr ⟨g, 0, #[], rfl, Nat.le_refl _, hg, Nat.le_refl _, by unfold maxLen; omega, rfl, rfl⟩⟩
    ⟨R, 0, none⟩ 5 5 us.toList hx (by rw [hus]) (fun j u hu => ?_) h1 (by unfold maxLen; omega) (by omega) (Nat.le_of_lt hg.lt) (fun v' W' hr hgr _ => ?_)
  · rw [addr_plain, Nat.zero_add, hb.cell j, ← hu]; simp
  · rcases hr.2 with ⟨_, he⟩ | ⟨q, cap, cur, rfl, hq, hb', _, _, _, ht⟩
    · omega
    · rw [Nat.zero_add]
      refine h q cap cur W' hb' (fun i hi30 => ?_) hq hgr
      rw [Nat.zero_add, List.nil_append] at ht
      rw [← Array.getElem?_toList, ← Array.getElem?_toList, ← ht, List.getElem?_take, if_pos (by omega)]

set_option maxRecDepth 100000 in
set_option maxHeartbeats 4000000 in
theorem oknown_any (w : World) : Calls Try.prog 7 #[] w fun e w' => e = .returned (.bool true) ∧ w.grownBy w' none := by
  go_enter Try.func7, Try.ntmps7
  go_wp2_with (go_at_call 17; go_must (refine (word_any _ _ _ _ _).mono ?_; rintro e w1 ⟨rfl, rfl⟩))
  generalize hW : World.alloc _ _ = W1
  have s : KW w w.heap.size W1 := by
    refine ⟨?_, ?_, ?_, ?_, ?_, ?_⟩
    · rw [← hW]; repeat (first | exact only_refl _ _ | refine only_alloc ?_ _)
    all_goals (rw [← hW]; repeat (first | (refine blk_at ?_ _ _; simp; done) | refine Blk.alloc ?_ _))
  clear hW
  generalize hg0 : w.heap.size = g0 at *
  clear hg0
  refine (ocheck_any tK _ _ s.tab (by decide)).mono ?_
  rintro e W2 ⟨rfl, hg⟩
  rw [tK_check]
  replace s := s.none_ hg
  clear hg
  have l0 : W2.cell? ⟨g0 + 1 + 1 + 1 + 1 + 1, 5, none⟩ = some (.slice (some ⟨g0, 0, none⟩) 2 2) := s.r.cell 5
  have l4 : W2.cell? ⟨g0 + 1 + 1 + 1 + 1 + 1, 29, none⟩ = some (.slice (some ⟨g0 + 1 + 1 + 1 + 1, 0, none⟩) 2 2) := s.r.cell 29
  have a0 : W2.cell? ⟨g0, 0, none⟩ = some (.int .i64 1) := s.e0.cell 0
  have a1 : W2.cell? ⟨g0, 1, none⟩ = some (.int .i64 1) := s.e0.cell 1
  have a2 : W2.cell? ⟨g0, 2, none⟩ = some (.int .i64 2) := s.e0.cell 2
  have a3 : W2.cell? ⟨g0, 3, none⟩ = some (.int .i64 0) := s.e0.cell 3
  have c2 : W2.cell? ⟨g0 + 1 + 1 + 1 + 1, 2, none⟩ = some (.int .i64 3) := s.e4.cell 2
  have c3 : W2.cell? ⟨g0 + 1 + 1 + 1 + 1, 3, none⟩ = some (.int .i64 6) := s.e4.cell 3
  go_wp2_with fail
  clear l0 l4 a0 a1 a2 a3 c2 c3
  refine (oJump_any tK _ 0 (1, 1) _ s.tab (by decide) (by decide) (by decide)).mono ?_
  rintro e W3 ⟨rfl, hg⟩
  rw [tK_j1]
  replace s := s.none_ hg
  clear hg
  have l0 : W3.cell? ⟨g0 + 1 + 1 + 1 + 1 + 1, 5, none⟩ = some (.slice (some ⟨g0, 0, none⟩) 2 2) := s.r.cell 5
  have l4 : W3.cell? ⟨g0 + 1 + 1 + 1 + 1 + 1, 29, none⟩ = some (.slice (some ⟨g0 + 1 + 1 + 1 + 1, 0, none⟩) 2 2) := s.r.cell 29
  have a0 : W3.cell? ⟨g0, 0, none⟩ = some (.int .i64 1) := s.e0.cell 0
  have a1 : W3.cell? ⟨g0, 1, none⟩ = some (.int .i64 1) := s.e0.cell 1
  have a2 : W3.cell? ⟨g0, 2, none⟩ = some (.int .i64 2) := s.e0.cell 2
  have a3 : W3.cell? ⟨g0, 3, none⟩ = some (.int .i64 0) := s.e0.cell 3
  have c2 : W3.cell? ⟨g0 + 1 + 1 + 1 + 1, 2, none⟩ = some (.int .i64 3) := s.e4.cell 2
  have c3 : W3.cell? ⟨g0 + 1 + 1 + 1 + 1, 3, none⟩ = some (.int .i64 6) := s.e4.cell 3
  go_wp2_with fail
  clear l0 l4 a0 a1 a2 a3 c2 c3
  refine (oJump_any tK _ 0 (2, 0) _ s.tab (by decide) (by decide) (by decide)).mono ?_
  rintro e W4 ⟨rfl, hg⟩
  rw [tK_j2]
  replace s := s.none_ hg
  clear hg
  have l0 : W4.cell? ⟨g0 + 1 + 1 + 1 + 1 + 1, 5, none⟩ = some (.slice (some ⟨g0, 0, none⟩) 2 2) := s.r.cell 5
  have l4 : W4.cell? ⟨g0 + 1 + 1 + 1 + 1 + 1, 29, none⟩ = some (.slice (some ⟨g0 + 1 + 1 + 1 + 1, 0, none⟩) 2 2) := s.r.cell 29
  have a0 : W4.cell? ⟨g0, 0, none⟩ = some (.int .i64 1) := s.e0.cell 0
  have a1 : W4.cell? ⟨g0, 1, none⟩ = some (.int .i64 1) := s.e0.cell 1
  have a2 : W4.cell? ⟨g0, 2, none⟩ = some (.int .i64 2) := s.e0.cell 2
  have a3 : W4.cell? ⟨g0, 3, none⟩ = some (.int .i64 0) := s.e0.cell 3
  have c2 : W4.cell? ⟨g0 + 1 + 1 + 1 + 1, 2, none⟩ = some (.int .i64 3) := s.e4.cell 2
  have c3 : W4.cell? ⟨g0 + 1 + 1 + 1 + 1, 3, none⟩ = some (.int .i64 6) := s.e4.cell 3
  go_wp2_with fail
  clear l0 l4 a0 a1 a2 a3 c2 c3
  refine (oJump_any tK _ 4 (3, 6) _ s.tab (by decide) (by decide) (by decide)).mono ?_
  rintro e W5 ⟨rfl, hg⟩
  rw [tK_j3]
  replace s := s.none_ hg
  clear hg
  go_wp2_with fail
  refine (oback_any tK _ 0 _ s.tab (by decide)).mono ?_
  rintro e W6 ⟨rfl, hg⟩
  rw [tK_b0]
  replace s := s.none_ hg
  clear hg
  go_wp2_with fail
  refine (oback_any tK _ 3 _ s.tab (by decide)).mono ?_
  rintro e W7 ⟨rfl, hg⟩
  rw [tK_b3]
  replace s := s.none_ hg
  clear hg
  go_wp2_with fail
  refine (oback_any tK _ 1 _ s.tab (by decide)).mono ?_
  rintro e W8 ⟨rfl, hg⟩
  rw [tK_b1]
  replace s := s.none_ hg
  clear hg
  go_wp2_with fail
  refine (oback_any tK _ 2 _ s.tab (by decide)).mono ?_
  rintro e W9 ⟨rfl, hg⟩
  rw [tK_b2]
  replace s := s.none_ hg
  clear hg
  go_wp2_with fail
  refine (oback_any tK _ 5 _ s.tab (by decide)).mono ?_
  rintro e W10 ⟨rfl, hg⟩
  rw [tK_b5]
  replace s := s.none_ hg
  clear hg
  have l0 : W10.cell? ⟨g0 + 1 + 1 + 1 + 1 + 1, 5, none⟩ = some (.slice (some ⟨g0, 0, none⟩) 2 2) := s.r.cell 5
  have l4 : W10.cell? ⟨g0 + 1 + 1 + 1 + 1 + 1, 29, none⟩ = some (.slice (some ⟨g0 + 1 + 1 + 1 + 1, 0, none⟩) 2 2) := s.r.cell 29
  have a0 : W10.cell? ⟨g0, 0, none⟩ = some (.int .i64 1) := s.e0.cell 0
  have a1 : W10.cell? ⟨g0, 1, none⟩ = some (.int .i64 1) := s.e0.cell 1
  have a2 : W10.cell? ⟨g0, 2, none⟩ = some (.int .i64 2) := s.e0.cell 2
  have a3 : W10.cell? ⟨g0, 3, none⟩ = some (.int .i64 0) := s.e0.cell 3
  have c2 : W10.cell? ⟨g0 + 1 + 1 + 1 + 1, 2, none⟩ = some (.int .i64 3) := s.e4.cell 2
  have c3 : W10.cell? ⟨g0 + 1 + 1 + 1 + 1, 3, none⟩ = some (.int .i64 6) := s.e4.cell 3
  go_wp2_with fail
  clear l0 l4 a0 a1 a2 a3 c2 c3
  refine (oJump_any tK _ (-1) (0, 0) _ s.tab (by decide) (by decide) (by decide)).mono ?_
  rintro e W11 ⟨rfl, hg⟩
  rw [tK_j4]
  replace s := s.none_ hg
  clear hg
  have l0 : W11.cell? ⟨g0 + 1 + 1 + 1 + 1 + 1, 5, none⟩ = some (.slice (some ⟨g0, 0, none⟩) 2 2) := s.r.cell 5
  have l4 : W11.cell? ⟨g0 + 1 + 1 + 1 + 1 + 1, 29, none⟩ = some (.slice (some ⟨g0 + 1 + 1 + 1 + 1, 0, none⟩) 2 2) := s.r.cell 29
  have a0 : W11.cell? ⟨g0, 0, none⟩ = some (.int .i64 1) := s.e0.cell 0
  have a1 : W11.cell? ⟨g0, 1, none⟩ = some (.int .i64 1) := s.e0.cell 1
  have a2 : W11.cell? ⟨g0, 2, none⟩ = some (.int .i64 2) := s.e0.cell 2
  have a3 : W11.cell? ⟨g0, 3, none⟩ = some (.int .i64 0) := s.e0.cell 3
  have c2 : W11.cell? ⟨g0 + 1 + 1 + 1 + 1, 2, none⟩ = some (.int .i64 3) := s.e4.cell 2
  have c3 : W11.cell? ⟨g0 + 1 + 1 + 1 + 1, 3, none⟩ = some (.int .i64 6) := s.e4.cell 3
  go_wp2_with fail
  clear l0 l4 a0 a1 a2 a3 c2 c3
  refine (oJump_any tK _ 0 (5, 0) _ s.tab (by decide) (by decide) (by decide)).mono ?_
  rintro e W12 ⟨rfl, hg⟩
  rw [tK_j5]
  replace s := s.none_ hg
  clear hg
  have h30 : ∀ u ∈ (fiveC g0 (.slice (some ⟨g0 + 1, 0, none⟩) 1 1)).toList, u.oneCell' = true := by
    intro u hu
    simp only [List.mem_cons, List.not_mem_nil, or_false] at hu
    rcases hu with rfl | rfl | rfl | rfl | rfl | rfl | rfl | rfl | rfl | rfl | rfl | rfl | rfl | rfl | rfl | rfl | rfl | rfl | rfl | rfl | rfl | rfl | rfl | rfl | rfl | rfl | rfl | rfl | rfl | rfl <;> rfl
  go_wp2_with (at_builtin; refine wpList_append_five rfl (.tmp 118) (.tmp 119) rfl rfl rfl (Blk.new _ _ _) (s.r.alloc _) rfl h30 ?_; intro q cap cur W13 hb hcur hq hgr; have hg13 : W12.grownBy W13 none := grown_own (only_alloc (only_refl _ _) _) (fun g e => by cases e; exact Nat.le_refl _) hgr; have s13 := Lib.hid (s.none_ hg13); have c11 : W13.cell? ⟨q, 11, none⟩ = some (.slice (some ⟨g0 + 1, 0, none⟩) 1 1) := (hb.cell 11).trans (hcur 11 (by decide)); have f11 : W13.frozen? ⟨q, 11, none⟩ = false := hb.frozen 11; have hql := hb.lt; have HB := Lib.hid hb; have HCUR := Lib.hid hcur; clear hb hcur hgr hg13)
  have hlt12 := s.r.lt
  have hw12 := s.step.size
  have hX : Hid (KW w g0 ((W13.setCell ⟨q, 11, none⟩ (.slice (some ⟨W13.heap.size, 0, none⟩) 1 1)).alloc (.cells #[.int .i64 3, .int .i64 0] 24)) ∧ Tbl ((W13.setCell ⟨q, 11, none⟩ (.slice (some ⟨W13.heap.size, 0, none⟩) 1 1)).alloc (.cells #[.int .i64 3, .int .i64 0] 24)) (.slice (some ⟨q, 0, none⟩) 5 cap) tL) := low_made s13.out (by omega) (by omega) HB.out HCUR.out
  clear s13 c11 f11 HB HCUR
  generalize (W13.setCell ⟨q, 11, none⟩ (.slice (some ⟨W13.heap.size, 0, none⟩) 1 1)).alloc (.cells #[.int .i64 3, .int .i64 0] 24) = W14 at *
  replace s := hX.out.1
  have hT := Lib.hid hX.out.2
  clear hX hlt12 hw12 hql hq
  refine (ocheck_any tL _ _ hT.out (by decide)).mono ?_
  rintro e W15 ⟨rfl, hg⟩
  rw [tL_check]
  replace s := s.none_ hg
  clear hg hT
  go_wp2_with fail
  refine (ocheck_any [] _ _ (⟨none, 0, rfl, fun h => absurd rfl h⟩ : Tbl W15 (.slice none 0 0) []) (by decide)).mono ?_
  rintro e W16 ⟨rfl, hg⟩
  rw [tN_check]
  replace s := s.none_ hg
  clear hg
  go_wp2_with fail
  refine (oworks_any _).mono ?_
  rintro e W17 ⟨rfl, hg⟩
  replace s := s.none_ hg
  clear hg
  go_wp2_with fail
  go_ret
  exact ⟨rfl, s.step⟩
end Go.Proofs.Ytablbgfleopbfaa

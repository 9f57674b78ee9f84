/- BlocksKnown: what its walk stands on. -/
import Derived.Test.YtnejikkibneegaaBKnD
import Derived.Test.YtnejikkibneegaaBTlk
namespace Go.Proofs.Ytnejikkibneegaa
open Go.RowKit

abbrev aI (w : World) (zs : List Int) : World := w.alloc (.cells (zsV zs).toArray 3)
abbrev aX (w : World) (xs : List (Int × Sg)) : World := w.alloc (.cells (insL xs).toArray 40)
abbrev sgL (b n : Nat) (l : List Int) : Sg := ⟨0, 0, 0, 0, .slice (some ⟨b, 0, none⟩) n n, l⟩
theorem ints_new {W : World} {v : Value} {l : List Int} (h : IB W v l) (hl : l.length ≤ 1000) : Calls Try.prog 18 #[v, .slice (some ⟨W.heap.size, 0, none⟩) l.length l.length] (aI W l) fun e w' => e = .returned (.bool true) ∧ W.grownBy w' none := by
  have hg : W.grownBy (aI W l) none := only_alloc (only_refl _ _) _
  have h1 := bints_any l l v (.slice (some ⟨W.heap.size, 0, none⟩) l.length l.length) _ _ (aI W l) (h.kept hg).ints (ints_blk (Blk.new _ _ _) rfl rfl) (by omega)
  refine h1.mono ?_
  rintro e w' ⟨rfl, h2⟩
  exact ⟨by rw [show decide (l = l) = true from decide_eq_true rfl], only_trans hg h2⟩
theorem cut_at {W : World} {b n : Nat} {xs : List (Int × Sg)} (cs : List Bi) (hb : Blk W b 40 (insL xs).toArray) (hn : n = xs.length) (hl : xs.length ≤ 1000000) (hI : ∀ y ∈ xs, IntsA (fun k => k < W.heap.size) W y.2.lv y.2.l) (hcs : biL xs = cs) (hL : ∀ x ∈ cs, x.2.length ≤ 1048576) : Calls Try.prog 9 #[.slice (some ⟨b, 0, none⟩) n n] W (CutR cs W) := by
  subst hcs
  exact blCut_any (biL xs) _ _ (codeA_blk hb rfl hn hl hI) hL
theorem NX.ats {W : World} {A : Option Addr} {n c : Nat} {nx : List (List Int)} (h : NX W (.slice A n c) nx) (hne : nx ≠ []) : ∃ b off, A = some ⟨b, off, none⟩ ∧ ∀ i l, nx[i]? = some l → ∃ A5 c5, W.cell? ⟨b, off + i, none⟩ = some (.slice A5 l.length c5) ∧ IB W (.slice A5 l.length c5) l := by
  obtain ⟨A', c', e, hA⟩ := h
  injection e with e1 e2 e3
  subst e1
  obtain ⟨b, off, h1, _, h2⟩ := hA hne
  refine ⟨b, off, h1, fun i l hl => ?_⟩
  obtain ⟨lv, h3, h4⟩ := h2 i l hl
  obtain ⟨A5, c5, rfl, _⟩ := id h4
  exact ⟨A5, c5, h3, h4⟩
def insC (op : Int) : Array Value := #[.int .i64 op, .int .i64 0, .int .i64 0, .int .i64 0, .int .i64 0, .slice none 0 0]
/-- What stands throughout. -/
structure K3 (w0 : World) (b : Nat) (W : World) : Prop where
  g : w0.grownBy W none
  h : Blk W b 40 (insC 24)
  n : Blk W (b + 1) 40 (insC 0)
  r : Blk W (b + 1 + 1) 40 (insC 15)
theorem K3.kept {w0 W W' : World} {b : Nat} (k : K3 w0 b W) (hg : W.grownBy W' none) : K3 w0 b W' := ⟨only_trans k.g hg, k.h.kept hg, k.n.kept hg, k.r.kept hg⟩
theorem cells6 {W : World} {b : Nat} {op : Int} (h : Blk W b 40 (insC op)) : W.cell? ⟨b, 0, none⟩ = some (.int .i64 op) ∧ W.cell? ⟨b, 1, none⟩ = some (.int .i64 0) ∧ W.cell? ⟨b, 2, none⟩ = some (.int .i64 0) ∧ W.cell? ⟨b, 3, none⟩ = some (.int .i64 0) ∧ W.cell? ⟨b, 4, none⟩ = some (.int .i64 0) ∧ W.cell? ⟨b, 5, none⟩ = some (.slice none 0 0) := ⟨h.cell 0, h.cell 1, h.cell 2, h.cell 3, h.cell 4, h.cell 5⟩
def longZ : Array Value := madeCells (insC 0) 774
theorem longZ_size : longZ.size = 774 := size_madeCells _ _
theorem longZ_at {i j : Nat} {u : Value} (hi : i < 129) (h : (insC 0)[j]? = some u) : longZ[i * 6 + j]? = some u := by
  have hj : j < 6 := (Array.getElem?_eq_some_iff.1 h).1
  have hs : (insC 0).size = 6 := rfl
  unfold longZ madeCells
  rw [Array.getElem?_map, Array.getElem?_range, if_pos (by omega), Option.map_some, hs, show (i * 6 + j) % 6 = j by omega, getElem!_def, h]
def longY : Array Value := (((((longZ.setIfInBounds 768 (.int .i64 24)).setIfInBounds 769 (.int .i64 0)).setIfInBounds 770 (.int .i64 0)).setIfInBounds 771 (.int .i64 0)).setIfInBounds 772 (.int .i64 0)).setIfInBounds 773 (.slice none 0 0)
theorem longY_lo {i j : Nat} {u : Value} (hi : i < 128) (h : (insC 0)[j]? = some u) : longY[i * 6 + j]? = some u := by
  have hj : j < 6 := (Array.getElem?_eq_some_iff.1 h).1
  unfold longY
  rw [Array.getElem?_setIfInBounds_ne (by omega), Array.getElem?_setIfInBounds_ne (by omega), Array.getElem?_setIfInBounds_ne (by omega), Array.getElem?_setIfInBounds_ne (by omega), Array.getElem?_setIfInBounds_ne (by omega), Array.getElem?_setIfInBounds_ne (by omega)]
  exact longZ_at (by omega) h
theorem longY_hi {j : Nat} {u : Value} (h : (insC 24)[j]? = some u) : longY[768 + j]? = some u := by
  have hj : j < 6 := (Array.getElem?_eq_some_iff.1 h).1
  unfold longY
  have hs := longZ_size
  rcases (by omega : j = 0 ∨ j = 1 ∨ j = 2 ∨ j = 3 ∨ j = 4 ∨ j = 5) with rfl | rfl | rfl | rfl | rfl | rfl <;>
  · rw [← h]
    simp [hs, insC]
/-- The long code, and all of it but the first. -/
theorem long_code {W : World} {L c : Nat} (hb : Blk W L 40 longY) (d n : Nat) (hd : d + n = 128) : CodeA W (.slice (some ⟨L, d * 6, none⟩) (n + 1) c) (nopsL n) := by
  refine ⟨_, c, by rw [nops_len], by rw [nops_len]; omega, fun _ => ⟨L, d * 6, rfl, hb.lt, fun i x hx => ?_⟩⟩
  rw [nops_at] at hx
  by_cases h1 : i < n
  · rw [if_pos h1] at hx
    injection hx with hx
    subst hx
    refine ⟨sg0, rfl, ints_none _ _, fun j u hu => ?_⟩
    rw [hb.cell, show d * 6 + i * 6 + j = (d + i) * 6 + j by omega]
    exact longY_lo (by omega) hu
  · rw [if_neg h1] at hx
    by_cases h2 : i = n
    · rw [if_pos h2] at hx
      injection hx with hx
      subst hx
      refine ⟨sg0, rfl, ints_none _ _, fun j u hu => ?_⟩
      rw [hb.cell, show d * 6 + i * 6 + j = 768 + j by omega]
      exact longY_hi hu
    · rw [if_neg h2] at hx
      cases hx
theorem insn_infoK : (Try.prog.info? 40).map (fun i => (i.zero, i.size, i.bytes)) = some (some (.agg (insC 0)), 6, 64) := by kernel_rfl
theorem make_129 (W : World) : (Instr.makeSlice 22 (.int .i64 129) (.int .i64 129)).run Try.prog W = .ok (.slice (some ⟨W.heap.size, 0, none⟩) 129 129) (W.alloc (.cells longZ 40)) := by
  obtain ⟨i0, hi, hz0, hz1, hz2⟩ := info_parts insn_infoK
  have hr := run_make (P := Try.prog) W 22 40 i0 _ Try.underlying22 hi hz0 .i64 .i64 (129 : Int) (129 : Int) (by omega) (Int.le_refl _) (by rw [hz2]; decide) (by omega)
  rw [hz1] at hr
  exact hr
end Go.Proofs.Ytnejikkibneegaa

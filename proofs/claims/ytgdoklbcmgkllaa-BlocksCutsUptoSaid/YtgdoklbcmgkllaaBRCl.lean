/- The document's Cut (colloquyref10): what its ways out come to. -/
import Derived.Test.YtgdoklbcmgkllaaBWhA
import Derived.Test.YtgdoklbcmgkllaaBRnd
import Derived.Test.YtgdoklbcmgkllaaBJmp
namespace Go.Proofs.Ytgdoklbcmgkllaa
open Go.RowKit

section
variable {cs : List Bi} (h0 : 1 ≤ cs.length) (h9 : cs.length ≤ 128)
include h0 h9
theorem cut_j {i : Nat} (hi : i < cs.length) (hlow : ∀ j, j < i → jumpN cs j = true) (hj : jumpN cs i = false) : cutA cs = (([], []), (i : Int), 12) := by
  unfold cutA
  rw [if_neg (by omega), List.find?_range_eq_some.2 ⟨by simp [hj], List.mem_range.2 hi, fun j hjl => by simp [hlow j hjl]⟩]
theorem cut_d {b s : Nat} (hj : ∀ j, j < cs.length → jumpN cs j = true) (hs : (startsL cs)[b]? = some s) (hlow : ∀ j, j < b → deadB cs j = false) (hd : deadB cs b = true) : cutA cs = (([], []), (s : Int), 13) := by
  have hb := (List.getElem?_eq_some_iff.1 hs).1
  unfold cutA
  rw [if_neg (by omega), List.find?_eq_none.2 (fun j hjl => by simp [hj j (List.mem_range.1 hjl)])]
  simp only
  rw [List.find?_range_eq_some.2 ⟨hd, List.mem_range.2 hb, fun j hjl => by simp [hlow j hjl]⟩]
  simp only [List.getD_eq_getElem?_getD, hs, Option.getD_some]
theorem cut_r {i : Nat} (hj : ∀ j, j < cs.length → jumpN cs j = true) (hlv : ∀ j, j < (startsL cs).length → deadB cs j = false) (hi : i < cs.length) (hlow : ∀ j, j < i → roundB cs j = false) (hr : roundB cs i = true) : cutA cs = (([], []), (i : Int), 14) := by
  unfold cutA
  rw [if_neg (by omega), List.find?_eq_none.2 (fun j hjl => by simp [hj j (List.mem_range.1 hjl)])]
  simp only
  rw [List.find?_eq_none.2 (fun j hjl => by simp [hlv j (List.mem_range.1 hjl)])]
  simp only
  rw [List.find?_range_eq_some.2 ⟨hr, List.mem_range.2 hi, fun j hjl => by simp [hlow j hjl]⟩]
theorem cut_o (hj : ∀ j, j < cs.length → jumpN cs j = true) (hlv : ∀ j, j < (startsL cs).length → deadB cs j = false) (hr : ∀ j, j < cs.length → roundB cs j = false) : cutA cs = (flowB cs, -1, 0) := by
  refine CutOk.is ⟨h0, h9, fun i x hx => ?_, hlv, hr⟩
  have := hj i (List.getElem?_eq_some_iff.1 hx).1
  unfold jumpN at this
  rw [hx] at this
  exact this
end
theorem cut_w {cs : List Bi} (h : cs.length < 1 ∨ 128 < cs.length) : cutA cs = (([], []), -1, 2) := by
  unfold cutA
  rw [if_pos h]
theorem jump_all {cs : List Bi} (hj : ∀ j, j < cs.length → jumpN cs j = true) : ∀ i x, cs[i]? = some x → jumpX cs.length i x = true := fun i x hx => by
  have := hj i (List.getElem?_eq_some_iff.1 hx).1
  unfold jumpN at this
  rw [hx] at this
  exact this
theorem rcut_results {W : World} {a b : Int} {sv nv : Value} {B : Nat} {tmps : Array Value} (h2 : tmps.getD 2 undef = .pointer (some ⟨B, 0, none⟩)) (h3 : tmps.getD 3 undef = .int .i64 a) (h4 : tmps.getD 4 undef = .int .i64 b) (hb : Blk W B 27 #[sv, nv]) :
    (results Try.f5 tmps).run Try.prog W = .ok (.tuple #[.agg #[sv, nv], .int .i64 a, .int .i64 b]) W := by
  have h2' : tmps[2]?.getD undef = .pointer (some ⟨B, 0, none⟩) := by simpa using h2
  have h3' : tmps[3]?.getD undef = .int .i64 a := by simpa using h3
  have h4' : tmps[4]?.getD undef = .int .i64 b := by simpa using h4
  have c0 := hb.cell 0
  have c1 := hb.cell 1
  simp [results, Try.results5, h2', h3', h4', go_sem, c0, c1]
theorem rcut_out {cs : List Bi} {w W : World} {a b : Int} {sv nv : Value} {f : List Nat × List (List Nat)} {B : Nat} {tmps : Array Value} (h2 : tmps.getD 2 undef = .pointer (some ⟨B, 0, none⟩)) (h3 : tmps.getD 3 undef = .int .i64 a) (h4 : tmps.getD 4 undef = .int .i64 b) (hb : Blk W B 27 #[sv, nv])
    (hR : cutA cs = (f, a, b)) (hF : FlowA W (.agg #[sv, nv]) f) (hg : w.grownBy W none) : bodyPost Try.prog Try.f5 (CutR cs w) .ret { tmps := tmps, defers := [] } W :=
  bodyPost_ret (rcut_results h2 h3 h4 hb) rfl ⟨_, by rw [hR], by rw [hR]; exact hF, hg⟩
end Go.Proofs.Ytgdoklbcmgkllaa

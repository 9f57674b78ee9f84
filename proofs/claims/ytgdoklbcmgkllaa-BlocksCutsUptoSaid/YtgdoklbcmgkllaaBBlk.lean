/- What an argument's bulk tells of the lists in it. -/
import Derived.Test.YtgdoklbcmgkllaaRows
import Derived.Test.YtgdoklbcmgkllaaBArg
namespace Go.Proofs.Ytgdoklbcmgkllaa
open Go.ChangeShapes Go.WideShapes Go.RowKit Go.Deep

theorem bulk_one {H : Type} (d : DataW H) : 1 ≤ Rows.uptoBulk d := by
  cases d with
  | lit l => cases l <;> simp [Rows.uptoBulk]
  | _ => simp [Rows.uptoBulk]
theorem bulk_in {H : Type} {d : DataW H} : ∀ {l : List (DataW H)}, d ∈ l → Rows.uptoBulk d ≤ Rows.uptoBulkAll l
  | x :: r, h => by
    rw [Rows.uptoBulkAll]
    rcases List.mem_cons.1 h with e | e
    · subst e; omega
    · have := bulk_in e; omega
theorem bulk_len {H : Type} : ∀ l : List (DataW H), l.length ≤ Rows.uptoBulkAll l
  | [] => by simp
  | x :: r => by
    rw [Rows.uptoBulkAll, List.length_cons]
    have := bulk_one x
    have := bulk_len r
    omega
section
variable {H : Type} {enc : TypeId × Value → H} {W : World} {fuel : Nat} {x : DataW H × List MemPlace}
/-- A list's length is at most its bulk, and its room. -/
theorem list_bulk {t e : TypeId} {A : Option Addr} {n c : Nat} (ht : Try.prog.underlying t = some (.slice e)) (h : DataW.trod enc Try.prog W 0 (fun _ => true) true fuel t [.slice A n c] = some x) : n ≤ Rows.uptoBulk x.1 ∧ n ≤ c ∧ c ≤ 9223372036854775807 := by
  rcases open_slice ht h with ⟨hcs, _⟩ | ⟨a, len, cap, m, n', D, Pl, hcs, _, hl, hc, hm, hx, _⟩
  · simp only [List.cons.injEq, and_true, Value.slice.injEq] at hcs
    obtain ⟨rfl, rfl, rfl⟩ := hcs
    exact ⟨Nat.zero_le _, Nat.le_refl _, by simp⟩
  · simp only [List.cons.injEq, and_true, Value.slice.injEq] at hcs
    obtain ⟨rfl, rfl, rfl⟩ := hcs
    refine ⟨?_, hl, by unfold maxLen at hc; omega⟩
    rw [hx]
    show n ≤ Rows.uptoBulk (.slice _ _)
    rw [Rows.uptoBulk]
    have := bulk_len ((List.range n).map D)
    rw [List.length_map, List.length_range] at this
    omega
set_option maxRecDepth 100000 in
theorem insn_bulk {cs : List Value} (hl : cs.length = 6) (h : DataW.trod enc Try.prog W 0 (fun _ => true) true fuel 43 cs = some x) {A : Option Addr} {n c : Nat} (hc : cs[5]? = some (.slice A n c)) : n ≤ Rows.uptoBulk x.1 := by
  obtain ⟨ys, m, _, hx, _, hyl, hf⟩ := DataW.trod_struct Try.underlying43 h
  match cs, hl with
  | [c0, c1, c2, c3, c4, c5], _ =>
    match ys, hyl with
    | [y0, y1, y2, y3, y4, y5], _ =>
      have g5 : DataW.trod enc Try.prog W 0 (fun _ => true) true m 24 [c5] = some y5 := by simpa [cells_i, cells_i64, cells_is] using hf 5 _ rfl
      simp at hc
      subst hc
      have h1 := (list_bulk Try.underlying24 g5).1
      rw [hx]
      show n ≤ Rows.uptoBulk (.agg _)
      rw [Rows.uptoBulk]
      have h2 := bulk_in (d := y5.1) (l := [y0, y1, y2, y3, y4, y5].map (·.1)) (by simp)
      omega
set_option maxRecDepth 100000 in
theorem insns_bulk {A0 : Option Addr} {n0 c0 : Nat} {xs : List (Int × Sg)} (h : DataW.trod enc Try.prog W 0 (fun _ => true) true fuel 22 [.slice A0 n0 c0] = some x) (hX : InsA W (.slice A0 n0 c0) xs) : ∀ y ∈ xs, y.2.l.length ≤ Rows.uptoBulk x.1 := by
  intro y hy
  obtain ⟨i, hi⟩ := List.mem_iff_getElem?.1 hy
  obtain ⟨A', c', e, _, hA⟩ := hX
  injection e with e1 e2 e3
  subst e1
  subst e2
  subst e3
  have hil := (List.getElem?_eq_some_iff.1 hi).1
  obtain ⟨b, off, hAe, _, hat⟩ := hA (by intro e; subst e; simp at hi)
  subst hAe
  obtain ⟨hR, _, hcell⟩ := hat i y hi
  obtain ⟨_, A5, c5, hlv, _, _⟩ := hR
  rcases open_slice Try.underlying22 h with ⟨hcs, _⟩ | ⟨a, len, cap, m, n', D, Pl, hcs, _, hl, hc, hm, hx, hall⟩
  · simp at hcs
  · simp only [List.cons.injEq, and_true, Value.slice.injEq, Option.some.injEq] at hcs
    obtain ⟨rfl, rfl, rfl⟩ := hcs
    rw [if_pos rfl] at hm
    obtain ⟨cs', h1, h2⟩ := hall i (by omega)
    rw [cells_insn] at h1
    obtain ⟨_, hlen, hce⟩ := World.cells?_some h1
    have h5 := hce 5 (by omega)
    rw [add_plain, add_plain, hcell 5 y.2.lv rfl, hlv] at h5
    have h6 := insn_bulk hlen h2 h5.symm
    rw [hx]
    show _ ≤ Rows.uptoBulk (.slice _ _)
    rw [Rows.uptoBulk]
    have h7 := bulk_in (d := D i) (l := (List.range xs.length).map D) (List.mem_map.2 ⟨i, List.mem_range.2 hil, rfl⟩)
    show y.2.l.length ≤ _
    have : y.2.l.length ≤ Rows.uptoBulk (D i) := h6
    omega
end
end Go.Proofs.Ytgdoklbcmgkllaa

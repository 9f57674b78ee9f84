/- blocks: a flow in memory; rows of rows of numbers. -/
import Derived.Test.YtgdoklbcmgkllaaBSta
namespace Go.Proofs.Ytgdoklbcmgkllaa
open Go.RowKit

/-- A slice that reads as numbers, in a block of numbers. -/
def IB (W : World) (v : Value) (zs : List Int) : Prop := ∃ (A : Option Addr) (c : Nat), v = .slice A zs.length c ∧ (zs ≠ [] → ∃ b off, A = some ⟨b, off, none⟩ ∧ (∃ cs', Blk W b 3 cs') ∧ ∀ (i : Nat) (z : Int), zs[i]? = some z → W.cell? ⟨b, off + i, none⟩ = some (.int .i64 z))
theorem BOwn.ib {base : Nat} {W : World} {v : Value} {zs : List Int} (h : BOwn base W v zs) : IB W v zs := by
  obtain ⟨A, c, rfl, hA⟩ := h.reads
  refine ⟨A, c, rfl, fun hn => ?_⟩
  obtain ⟨b, off, rfl, _, hc⟩ := hA hn
  obtain ⟨_, cs', hb⟩ := own_rowB h b rfl
  exact ⟨b, off, rfl, ⟨cs', hb⟩, hc⟩
section
variable {W W' : World} {v : Value} {zs : List Int}
theorem IB.row {row : Option Nat} (h : IB W v zs) (hg : W.grownBy W' row) (hr : ∀ g, row = some g → ∃ t cs, Blk W g t cs ∧ t ≠ 3) : IB W' v zs := by
  obtain ⟨A, c, h1, h2⟩ := h
  refine ⟨A, c, h1, fun hn => ?_⟩
  obtain ⟨b, off, h3, ⟨cs', h4⟩, h5⟩ := h2 hn
  have hne : some b ≠ row := fun e => by
    obtain ⟨t, cs, hb, ht⟩ := hr b e.symm
    exact Blk.ne_ hb h4 ht rfl
  exact ⟨b, off, h3, ⟨cs', h4.grown hg hne⟩, fun i z hz => cell_row (h5 i z hz) hg hne⟩
theorem IB.kept (h : IB W v zs) (hg : W.grownBy W' none) : IB W' v zs := h.row hg (fun _ e => by cases e)
theorem IB.ints (h : IB W v zs) : IntsA (fun k => k < W.heap.size) W v zs := by
  obtain ⟨A, c, h1, h2⟩ := h
  refine ⟨A, c, h1, fun hn => ?_⟩
  obtain ⟨b, off, h3, ⟨cs', h4⟩, h5⟩ := h2 hn
  exact ⟨b, off, h3, h4.lt, h5⟩
theorem IB.keepc (h : IB W v zs) (hk : KeepsCells W W') : IB W' v zs := by
  obtain ⟨A, c, h1, h2⟩ := h
  refine ⟨A, c, h1, fun hn => ?_⟩
  obtain ⟨b, off, h3, ⟨cs', h4⟩, h5⟩ := h2 hn
  exact ⟨b, off, h3, ⟨cs', h4.keeps hk⟩, fun i z hz => hk.cell (h5 i z hz)⟩
end
/-- A slice that reads as rows of numbers. -/
def NX (W : World) (v : Value) (nx : List (List Int)) : Prop := ∃ (A : Option Addr) (c : Nat), v = .slice A nx.length c ∧ (nx ≠ [] → ∃ b off, A = some ⟨b, off, none⟩ ∧ (∃ cs', Blk W b 24 cs') ∧ ∀ (i : Nat) (l : List Int), nx[i]? = some l → ∃ lv, W.cell? ⟨b, off + i, none⟩ = some lv ∧ IB W lv l)
theorem NX.row {W W' : World} {v : Value} {nx : List (List Int)} {row : Option Nat} (h : NX W v nx) (hg : W.grownBy W' row) (hr : ∀ g, row = some g → ∃ t cs, Blk W g t cs ∧ t ≠ 3 ∧ t ≠ 24) : NX W' v nx := by
  obtain ⟨A, c, h1, h2⟩ := h
  refine ⟨A, c, h1, fun hn => ?_⟩
  obtain ⟨b, off, h3, ⟨cs', h4⟩, h5⟩ := h2 hn
  have hne : some b ≠ row := fun e => by
    obtain ⟨t, cs, hb, _, ht⟩ := hr b e.symm
    exact Blk.ne_ hb h4 ht rfl
  refine ⟨b, off, h3, ⟨cs', h4.grown hg hne⟩, fun i l hl => ?_⟩
  obtain ⟨lv, h6, h7⟩ := h5 i l hl
  exact ⟨lv, cell_row h6 hg hne, h7.row hg (fun g e => by obtain ⟨t, cs, hb, ht, _⟩ := hr g e; exact ⟨t, cs, hb, ht⟩)⟩
theorem NX.kept {W W' : World} {v : Value} {nx : List (List Int)} (h : NX W v nx) (hg : W.grownBy W' none) : NX W' v nx := h.row hg (fun _ e => by cases e)
theorem NX.keepc {W W' : World} {v : Value} {nx : List (List Int)} (h : NX W v nx) (hk : KeepsCells W W') : NX W' v nx := by
  obtain ⟨A, c, h1, h2⟩ := h
  refine ⟨A, c, h1, fun hn => ?_⟩
  obtain ⟨b, off, h3, ⟨cs', h4⟩, h5⟩ := h2 hn
  refine ⟨b, off, h3, ⟨cs', h4.keeps hk⟩, fun i l hl => ?_⟩
  obtain ⟨lv, h6, h7⟩ := h5 i l hl
  exact ⟨lv, hk.cell h6, h7.keepc hk⟩
theorem IB.at_ {W : World} {A : Option Addr} {n c : Nat} {zs : List Int} (h : IB W (.slice A n c) zs) {i : Nat} {z : Int} (hz : zs[i]? = some z) : ∃ b off, A = some ⟨b, off, none⟩ ∧ W.cell? ⟨b, off + i, none⟩ = some (.int .i64 z) := by
  obtain ⟨A', c', e, hA⟩ := h
  injection e with e1 e2 e3
  subst e1
  obtain ⟨b, off, h1, _, h2⟩ := hA (by intro e; rw [e] at hz; simp at hz)
  exact ⟨b, off, h1, h2 i z hz⟩
theorem NX.at_ {W : World} {A : Option Addr} {n c : Nat} {nx : List (List Int)} (h : NX W (.slice A n c) nx) {i : Nat} {l : List Int} (hl : nx[i]? = some l) : ∃ b off A5 c5, A = some ⟨b, off, none⟩ ∧ W.cell? ⟨b, off + i, none⟩ = some (.slice A5 l.length c5) ∧ IB W (.slice A5 l.length c5) l := by
  obtain ⟨A', c', e, hA⟩ := h
  injection e with e1 e2 e3
  subst e1
  obtain ⟨b, off, h1, _, h2⟩ := hA (by intro e; rw [e] at hl; simp at hl)
  obtain ⟨lv, h3, h4⟩ := h2 i l hl
  obtain ⟨A5, c5, rfl, _⟩ := id h4
  exact ⟨b, off, A5, c5, h1, h3, h4⟩
abbrev flA (s : List Nat) (nx : List (List Nat)) (W : World) (v : Value) : Prop := ∃ sv nv, v = .agg #[sv, nv] ∧ IB W sv (intsN s) ∧ NX W nv (nx.map intsN)
/-- Flows in memory. -/
def FlowA (W : World) (v : Value) (f : List Nat × List (List Nat)) : Prop := flA f.1 f.2 W v
theorem FlowA.kept {W W' : World} {v : Value} {f : List Nat × List (List Nat)} (h : FlowA W v f) (hg : W.grownBy W' none) : FlowA W' v f := by
  obtain ⟨sv, nv, h1, h2, h3⟩ := h
  exact ⟨sv, nv, h1, h2.kept hg, h3.kept hg⟩
theorem FlowA.row {W W' : World} {v : Value} {f : List Nat × List (List Nat)} {row : Option Nat} (h : FlowA W v f) (hg : W.grownBy W' row) (hr : ∀ g, row = some g → ∃ t cs, Blk W g t cs ∧ t ≠ 3 ∧ t ≠ 24) : FlowA W' v f := by
  obtain ⟨sv, nv, h1, h2, h3⟩ := h
  exact ⟨sv, nv, h1, h2.row hg (fun g e => by obtain ⟨t, cs, hb, ht, _⟩ := hr g e; exact ⟨t, cs, hb, ht⟩), h3.row hg hr⟩
theorem FlowA.keepc {W W' : World} {v : Value} {f : List Nat × List (List Nat)} (h : FlowA W v f) (hg : KeepsCells W W') : FlowA W' v f := by
  obtain ⟨sv, nv, h1, h2, h3⟩ := h
  exact ⟨sv, nv, h1, h2.keepc hg, h3.keepc hg⟩
theorem FlowA.empty (W : World) : FlowA W (.agg #[.slice none 0 0, .slice none 0 0]) ([], []) := ⟨_, _, rfl, ⟨none, 0, rfl, fun h => absurd rfl h⟩, ⟨none, 0, rfl, fun h => absurd rfl h⟩⟩

/-! ### Rows of rows that a call makes -/
/-- An owned row of slices that read as rows of numbers. -/
structure NO (base : Nat) (W : World) (v : Value) (nx : List (List Int)) (lvs : List Value) : Prop where
  row : W.ownsRow base 24 1 v nx.length lvs
  inn : ∀ (i : Nat) (lv : Value) (l : List Int), lvs[i]? = some lv → nx[i]? = some l → IB W lv l
  len : lvs.length = nx.length
  one : ∀ lv ∈ lvs, ∃ A n c, lv = .slice A n c
theorem NO.nil_ (base : Nat) (W : World) : NO base W (.slice none 0 0) [] [] := ⟨World.ownsRow_nil _ _ _ _, fun i lv l h => by simp at h, rfl, fun lv h => by cases h⟩
theorem NO.none_ {base : Nat} {W W' : World} {v : Value} {nx : List (List Int)} {lvs : List Value} (h : NO base W v nx lvs) (hg : W.grownBy W' none) : NO base W' v nx lvs :=
  ⟨h.row.kept hg (by cases hv : v.ownBlock <;> simp), fun i lv l h1 h2 => (h.inn i lv l h1 h2).kept hg, h.len, h.one⟩
theorem NO.nx {base : Nat} {W : World} {v : Value} {nx : List (List Int)} {lvs : List Value} (h : NO base W v nx lvs) : NX W v nx := by
  rcases h.row.2 with ⟨rfl, h0⟩ | ⟨g, cap, cur, rfl, _, _, _⟩
  · obtain rfl : nx = [] := List.length_eq_zero_iff.1 h0
    exact ⟨none, 0, rfl, fun hn => absurd rfl hn⟩
  · refine ⟨some ⟨g, 0, none⟩, cap, rfl, fun _ => ⟨g, 0, rfl, (own_rowB h.row g rfl).2, fun i l hl => ?_⟩⟩
    have hi : i < lvs.length := by rw [h.len]; exact (List.getElem?_eq_some_iff.1 hl).1
    obtain ⟨lv, hlv⟩ : ∃ lv, lvs[i]? = some lv := ⟨_, List.getElem?_eq_getElem hi⟩
    have := World.ownsRow.cells h.row (g := g) rfl i lv hlv
    rw [addr_B, Nat.zero_add] at this
    exact ⟨lv, by rw [Nat.zero_add]; exact this, h.inn i lv l hlv hl⟩
theorem rowB_info : (Try.prog.info? 24).map (fun i => (i.zero, i.size, i.bytes)) = some (some (.slice none 0 0), 1, 24) := by kernel_rfl
/-- One row more, in a round. -/
theorem wpListIn_append_row {F : Fence} {m : Nat} {ops : Array Oper} {rest : List Oper} {o : Oper} {a : Act} {W : World} {Q : Exit → Act → World → Prop} (hgd : o.guard = none) (s x : Operand)
    (ho : o.op = .call { callee := .builtin .append, args := #[s, x], argTypes := #[25, 25] })
    {base : Nat} {v : Value} {nx : List (List Int)} {lvs : List Value} {A1 : Option Addr} {n1 c1 : Nat} {l : List Int} {g : Nat} (hs : a.eval s = v) (hx : a.eval x = .slice (some ⟨g, 0, none⟩) 1 1)
    (hot : NO base W v nx lvs) (hb : Blk W g 24 #[.slice A1 n1 c1]) (hl : IB W (.slice A1 n1 c1) l) (hn : nx.length ≤ 1000000) (hbase : base ≤ W.heap.size)
    (h : ∀ v' W', NO base W' v' (nx ++ [l]) (lvs ++ [.slice A1 n1 c1]) → W.grownBy W' v.ownBlock → wpListIn F m Try.prog ops Q rest (a.put o.dst v') W') : wpListIn F m Try.prog ops Q (o :: rest) a W := by
  obtain ⟨i0, hi, hz0, hz1, hz2⟩ := info_parts rowB_info
  refine wpListIn_append_own W hgd s x 25 ho base 24 i0 _ 1 24 Try.underlying25 hi hz0 hz1 hz2 rfl (by decide) v nx.length lvs hs hot.row
    ⟨g, 0, none⟩ 1 1 [.slice A1 n1 c1] hx rfl (fun j u hu => ?_) (fun u hu => ?_) (by unfold maxLen; omega) (by omega) hbase (fun v' W' hr hg _ => h v' W' ?_ hg)
  · rw [addr_B, Nat.zero_add, hb.cell j, ← hu]; simp
  · obtain rfl := List.mem_singleton.1 hu; rfl
  · have hrr : ∀ g, v.ownBlock = some g → ∃ t cs, Blk W g t cs ∧ t ≠ 3 := fun g e => by
      obtain ⟨_, cs', hb'⟩ := own_rowB hot.row g e
      exact ⟨_, cs', hb', by decide⟩
    refine ⟨by rw [List.length_append]; exact hr, fun i lv l' h1 h2 => ?_, by rw [List.length_append, List.length_append, hot.len]; rfl, fun lv hm => ?_⟩
    · rcases Nat.lt_or_ge i lvs.length with hi2 | hi2
      · rw [List.getElem?_append_left hi2] at h1
        rw [List.getElem?_append_left (by rw [← hot.len]; exact hi2)] at h2
        exact (hot.inn i lv l' h1 h2).row hg hrr
      · rw [List.getElem?_append_right hi2] at h1
        rw [List.getElem?_append_right (by rw [← hot.len]; exact hi2)] at h2
        rw [hot.len] at h1
        cases hk : i - nx.length with
        | zero =>
          rw [hk] at h1 h2
          simp at h1 h2
          subst h1
          subst h2
          exact hl.row hg hrr
        | succ m =>
          rw [hk] at h1
          simp at h1
    · rcases List.mem_append.1 hm with h3 | h3
      · exact hot.one lv h3
      · obtain rfl := List.mem_singleton.1 h3
        exact ⟨_, _, _, rfl⟩
end Go.Proofs.Ytgdoklbcmgkllaa

/- Texts joined for the claim's sake: CMat, COwn. -/
import Derived.Test.YtmhbmeckdbdhpaaZSAddRow27
import Derived.Test.YtmhbmeckdbdhpaaZSAddRow8
namespace Go.Proofs.Ytmhbmeckdbdhpaa
open Go.RowKit

theorem made_one (z : Value) (hz : z.cells = #[z]) (n : Nat) : madeCells z.cells (n * 1) = Array.replicate n z := by
  rw [hz, Nat.mul_one]
  apply Array.ext
  · simp [madeCells]
  · intro i h1 h2
    simp [madeCells]
    have : i % 1 = 0 := Nat.mod_one i
    simp [this]
/-- A row of the table. -/
def rowA (N : Nat) (M : Nat → Nat → Bool) (a : Nat) : Array Value := ((List.range N).map fun c => Value.bool (M a c)).toArray
theorem rowA_false (N a : Nat) : Array.replicate N (Value.bool false) = rowA N (fun _ _ => false) a := by
  unfold rowA
  apply Array.ext
  · simp
  · intro i h1 h2; simp
def setM (M : Nat → Nat → Bool) (a c : Nat) : Nat → Nat → Bool := fun x y => if x = a ∧ y = c then true else M x y
theorem rowA_set {N : Nat} {M : Nat → Nat → Bool} {a c : Nat} : (rowA N M a).setIfInBounds c (.bool true) = rowA N (setM M a c) a := by
  apply Array.ext
  · simp [rowA]
  · intro i h1 h2
    have hi : i < N := by simpa [rowA] using h2
    by_cases e : c = i
    · subst e
      simp [rowA, setM]
    · have h3 : i < (rowA N M a).size := by simpa using h1
      rw [Array.getElem_setIfInBounds_ne h3 e]
      have e2 : ¬ i = c := fun h => e h.symm
      simp [rowA, setM, e2]
theorem rowA_far {N : Nat} {M : Nat → Nat → Bool} {a c b : Nat} (h : b ≠ a) : rowA N M b = rowA N (setM M a c) b := by
  unfold rowA setM
  simp [h]
/-- The table: the block of its rows, each row's block; the first k rows are made. -/
structure MatO (base : Nat) (W : World) (gm : Nat) (rb : List Nat) (N : Nat) (M : Nat → Nat → Bool) : Prop where
  bm : Blk W gm 102 ((rb.map fun r => Value.slice (some ⟨r, 0, none⟩) N N) ++ List.replicate (N - rb.length) (Value.slice none 0 0)).toArray
  gb : base ≤ gm
  le : rb.length ≤ N
  nd : rb.Nodup
  row : ∀ (a r : Nat), rb[a]? = some r → base ≤ r ∧ Blk W r 4 (rowA N M a)
section
variable {base gm N : Nat} {W W' : World} {rb : List Nat} {M : Nat → Nat → Bool}
theorem MatO.kept (h : MatO base W gm rb N M) (hg : W.grownBy W' none) : MatO base W' gm rb N M := ⟨h.bm.kept hg, h.gb, h.le, h.nd, fun a r hr => ⟨(h.row a r hr).1, (h.row a r hr).2.kept hg⟩⟩
theorem MatO.start {g : Nat} (hb : base ≤ g) (h : Blk W g 102 (Array.replicate N (.slice none 0 0))) (M : Nat → Nat → Bool) : MatO base W g [] N M :=
  ⟨by have e : Array.replicate N (Value.slice none 0 0) = (([] : List Nat).map (fun r => Value.slice (some ⟨r, 0, none⟩) N N) ++ List.replicate (N - ([] : List Nat).length) (Value.slice none 0 0)).toArray := by simp
      rw [← e]; exact h, hb, Nat.zero_le _, List.nodup_nil, fun a r hr => by simp at hr⟩
/-- One row more. -/
theorem MatO.add {r : Nat} (h : MatO base W gm rb N (fun _ _ => false)) (hr : Blk W r 4 (Array.replicate N (.bool false))) (hb : base ≤ r) (hn : r ∉ rb) (hl : rb.length < N) :
    MatO base (W.setCell ⟨gm, rb.length, none⟩ (.slice (some ⟨r, 0, none⟩) N N)) gm (rb ++ [r]) N (fun _ _ => false) := by
  refine ⟨?_, h.gb, by simp; omega, List.nodup_append.2 ⟨h.nd, by simp, fun x hx y hy e => hn (by simp at hy; rw [← hy, ← e]; exact hx)⟩, fun a q hq => ?_⟩
  · have h1 := h.bm.set_ rb.length (.slice (some ⟨r, 0, none⟩) N N)
    have e : (((rb.map fun r => Value.slice (some ⟨r, 0, none⟩) N N) ++ List.replicate (N - rb.length) (Value.slice none 0 0)).toArray).setIfInBounds rb.length (.slice (some ⟨r, 0, none⟩) N N) = (((rb ++ [r]).map fun r => Value.slice (some ⟨r, 0, none⟩) N N) ++ List.replicate (N - (rb ++ [r]).length) (Value.slice none 0 0)).toArray := by
      obtain ⟨d, hd⟩ : ∃ d, N - rb.length = d + 1 := ⟨N - rb.length - 1, by omega⟩
      have hd2 : N - (rb ++ [r]).length = d := by simp; omega
      rw [hd2, hd, List.replicate_succ]
      simp
    rw [← e]
    exact h1
  · have far : ∀ {k : Nat} {cs : Array Value}, Blk W k 4 cs → Blk (W.setCell ⟨gm, rb.length, none⟩ (.slice (some ⟨r, 0, none⟩) N N)) k 4 cs := fun hk => hk.far (p := ⟨gm, rb.length, none⟩) (fun e => Blk.ne_ hk h.bm (by decide) e) _
    by_cases ha : a < rb.length
    · rw [List.getElem?_append_left ha] at hq
      exact ⟨(h.row a q hq).1, far (h.row a q hq).2⟩
    · have hal : a = rb.length := by have := (List.getElem?_eq_some_iff.1 hq).1; simp at this; omega
      subst hal
      rw [List.getElem?_append_right (Nat.le_refl _), Nat.sub_self] at hq
      simp only [List.getElem?_cons_zero, Option.some.injEq] at hq
      subst hq
      rw [rowA_false N rb.length] at hr
      exact ⟨hb, far hr⟩
theorem MatO.cell {a r : Nat} (h : MatO base W gm rb N M) (hr : rb[a]? = some r) : W.cell? ⟨gm, a, none⟩ = some (.slice (some ⟨r, 0, none⟩) N N) := by
  have := h.bm.cell a
  rw [this]
  have ha := (List.getElem?_eq_some_iff.1 hr).1
  simp only [List.getElem?_toArray]
  rw [List.getElem?_append_left (by simpa using ha), List.getElem?_map, hr]
  rfl
/-- A pair is told apart. -/
theorem MatO.put {a c r : Nat} (h : MatO base W gm rb N M) (hr : rb[a]? = some r) : MatO base (W.setCell ⟨r, c, none⟩ (.bool true)) gm rb N (setM M a c) := by
  have hb := (h.row a r hr).2
  refine ⟨h.bm.far (p := ⟨r, c, none⟩) (fun e => Blk.ne_ hb h.bm (by decide) e.symm) _, h.gb, h.le, h.nd, fun b q hq => ⟨(h.row b q hq).1, ?_⟩⟩
  by_cases e : b = a
  · subst e
    rw [hr] at hq
    obtain rfl := Option.some.inj hq
    rw [← rowA_set]
    exact hb.set_ c _
  · have hne : q ≠ r := fun e2 => by
      subst e2
      obtain ⟨l1, g1⟩ := List.getElem?_eq_some_iff.1 hq
      obtain ⟨l2, g2⟩ := List.getElem?_eq_some_iff.1 hr
      exact e ((List.getElem_inj h.nd).1 (g1.trans g2.symm))
    rw [← rowA_far e]
    exact (h.row b q hq).2.far (p := ⟨r, c, none⟩) hne _
/-- How many cells of the table hold false. -/
def pairsN (N : Nat) : List (Nat × Nat) := (List.range N).flatMap fun a => (List.range N).map fun c => (a, c)
def cntM (M : Nat → Nat → Bool) (N : Nat) : Nat := (pairsN N).countP fun p => !M p.1 p.2
theorem mem_pairs {N : Nat} {p : Nat × Nat} : p ∈ pairsN N ↔ p.1 < N ∧ p.2 < N := by
  unfold pairsN
  simp only [List.mem_flatMap, List.mem_range, List.mem_map]
  constructor
  · rintro ⟨a, ha, c, hc, rfl⟩; exact ⟨ha, hc⟩
  · rintro ⟨h1, h2⟩; exact ⟨p.1, h1, p.2, h2, rfl⟩
theorem countP_ltG {α : Type} {p q : α → Bool} : ∀ {l : List α}, (∀ x ∈ l, p x = true → q x = true) → (∃ x ∈ l, p x = false ∧ q x = true) → l.countP p < l.countP q
  | [], _, h => by obtain ⟨x, hx, _⟩ := h; cases hx
  | y :: l, h, hx => by
    have hle : l.countP p ≤ l.countP q := List.countP_mono_left fun x hx => h x (List.mem_cons_of_mem _ hx)
    rw [List.countP_cons, List.countP_cons]
    obtain ⟨x, hm, hp, hq⟩ := hx
    rcases List.mem_cons.1 hm with rfl | hm
    · rw [hp, hq]; simp; omega
    · have ih := countP_ltG (fun x hx => h x (List.mem_cons_of_mem _ hx)) ⟨x, hm, hp, hq⟩
      have hy := h y List.mem_cons_self
      cases hpy : p y with
      | false => simp; omega
      | true => rw [hy hpy]; simp; omega
theorem cnt_set {a c : Nat} (ha : a < N) (hc : c < N) (h : M a c = false) : cntM (setM M a c) N < cntM M N := by
  unfold cntM
  refine countP_ltG (fun p _ hp => ?_) ⟨(a, c), mem_pairs.2 ⟨ha, hc⟩, by simp [setM], by simp [h]⟩
  unfold setM at hp
  split at hp
  · simp at hp
  · exact hp
theorem MatO.step {w : World} {u : Value} {r c : Nat} (h : MatO w.heap.size W gm rb N M) (hw : w.grownBy W none) {a : Nat} (hr : rb[a]? = some r) : w.grownBy (W.setCell ⟨r, c, none⟩ u) none := only_setNew hw (h.row a r hr).1 _
end
end Go.Proofs.Ytmhbmeckdbdhpaa

namespace Go.Proofs.Ytmhbmeckdbdhpaa
open Go.RowKit

theorem link_info : (Try.prog.info? 83).map (fun i => (i.zero, i.size, i.bytes)) = some (some (.agg #[.int .i64 0, .int .i64 0]), 2, 16) := by kernel_rfl
theorem class_info : (Try.prog.info? 86).map (fun i => (i.zero, i.size, i.bytes)) = some (some (.agg #[.int .i64 0, .int .i64 0, .bool false, .int .i64 0, .int .i64 0, .slice none 0 0]), 6, 64) := by kernel_rfl
theorem intI_info : (Try.prog.info? 3).map (fun i => (i.zero, i.size, i.bytes)) = some (some (.int .i64 0), 1, 8) := by kernel_rfl
/-- Edges that lie where no row of nodes does: below base, or in a block of edges. -/
def LnkO (base : Nat) (W : World) (v : Value) (es : List Ed) : Prop := ∃ (A : Option Addr) (c : Nat), v = .slice A es.length c ∧ es.length ≤ 9223372036854775807 ∧
  (es ≠ [] → ∃ b off, A = some ⟨b, off, none⟩ ∧ (b < base ∨ ∃ cs, Blk W b 83 cs) ∧ ∀ i e, es[i]? = some e → W.cell? ⟨b, off + i * 2, none⟩ = some (.int .i64 e.1) ∧ W.cell? ⟨b, off + i * 2 + 1, none⟩ = some (.int .i64 e.2))
section
variable {base : Nat} {W W' : World} {v : Value} {es : List Ed}
theorem LnkO.edges (h : LnkO base W v es) : Edges W v es := by
  obtain ⟨A, c, h1, hl, h2⟩ := h
  refine ⟨A, c, h1, hl, fun hn => ?_⟩
  obtain ⟨b, off, h3, _, h4⟩ := h2 hn
  exact ⟨b, off, h3, h4⟩
theorem LnkO.grown {row : Option Nat} (h : LnkO base W v es) (hg : W.grownBy W' row) (hr : ∀ g, row = some g → base ≤ g ∧ ∃ cs t, Blk W g t cs ∧ t ≠ 83) : LnkO base W' v es := by
  obtain ⟨A, c, h1, hl, h2⟩ := h
  refine ⟨A, c, h1, hl, fun hn => ?_⟩
  obtain ⟨b, off, h3, h5, h4⟩ := h2 hn
  have hne : some b ≠ row := fun e => by
    obtain ⟨hb, cs, t, hblk, ht⟩ := hr b e.symm
    rcases h5 with h5 | ⟨cs', h5⟩
    · omega
    · exact Blk.ne_ hblk h5 ht rfl
  refine ⟨b, off, h3, h5.imp id (fun ⟨cs, hb⟩ => ⟨cs, hb.grown hg hne⟩), fun i e he => ?_⟩
  have hlt := cell_lt (h4 i e he).1
  have hc := fun o => World.cell?_of_block (a := ⟨b, o, none⟩) (hg.block b hlt hne)
  exact ⟨(hc _).trans (h4 i e he).1, (hc _).trans (h4 i e he).2⟩
theorem LnkO.kept (h : LnkO base W v es) (hg : W.grownBy W' none) : LnkO base W' v es := h.grown hg (fun _ e => by cases e)
theorem LnkO.nil_ : LnkO base W (.slice none 0 0) [] := ⟨none, 0, rfl, by simp, fun h => absurd rfl h⟩
theorem LnkO.one {g c : Nat} {e : Ed} (h : Blk W g 83 (edCells e)) : LnkO base W (.slice (some ⟨g, 0, none⟩) 1 c) [e] :=
  ⟨_, _, rfl, by simp, fun _ => ⟨g, 0, rfl, .inr ⟨_, h⟩, fun i x hx => by
    match i, hx with
    | 0, hx => cases hx; exact ⟨h.cell 0, h.cell 1⟩
    | i + 1, hx => simp at hx⟩⟩
end

/-- A row of edges of the call's own. -/
def LOwn (base : Nat) (W : World) (v : Value) (es : List Ed) : Prop := W.ownsRow base 83 2 v es.length (edAll es)
section
variable {base : Nat} {W W' : World} {v : Value} {es : List Ed}
theorem LOwn.nil_ (base : Nat) (W : World) : LOwn base W (.slice none 0 0) [] := World.ownsRow_nil _ _ _ _
theorem LOwn.edges (h : LOwn base W v es) (hl : es.length ≤ 1000) : LnkO base W v es := by
  rcases h.2 with ⟨rfl, he⟩ | ⟨g, cap, cur, rfl, hb, hh, _⟩
  · have h0 : es = [] := by
      have := edAll_len es
      rw [he] at this
      exact List.eq_nil_of_length_eq_zero (by simp at this; omega)
    subst h0
    exact LnkO.nil_
  · refine ⟨_, cap, rfl, by omega, fun _ => ⟨g, 0, rfl, .inr ⟨cur, hh⟩, fun i e he => ?_⟩⟩
    have hc := h.cells (g := g) rfl
    have at_ : ∀ j u, j < 2 → (edCells e).toList[j]? = some u → W.cell? ⟨g, i * 2 + j, none⟩ = some u := fun j u hj hu => by
      have := hc (i * 2 + j) u ((edAll_at he j hj).trans hu)
      rwa [addr_plain, Nat.zero_add] at this
    rw [Nat.zero_add]
    exact ⟨at_ 0 _ (by omega) rfl, at_ 1 _ (by omega) rfl⟩
theorem LOwn.kept {row : Option Nat} (h : LOwn base W v es) (hg : W.grownBy W' row) (hr : ∀ g, v.ownBlock = some g → row ≠ some g) : LOwn base W' v es := by
  refine World.ownsRow.kept h hg ?_
  cases hb : v.ownBlock with
  | none => exact .inl rfl
  | some g => exact .inr (fun e => hr g hb e.symm)
theorem LOwn.kept0 (h : LOwn base W v es) (hg : W.grownBy W' none) : LOwn base W' v es := h.kept hg (fun _ _ e => by cases e)
theorem LOwn.one {g : Nat} {e : Ed} (h : Blk W g 83 (edCells e)) (hb : base ≤ g) : LOwn base W (.slice (some ⟨g, 0, none⟩) 1 1) [e] :=
  ⟨rfl, .inr ⟨g, 1, edCells e, rfl, hb, h, Nat.le_refl _, by unfold maxLen; omega, rfl, rfl⟩⟩
theorem LOwn.len (h : LOwn base W v es) : ∃ A c, v = .slice A es.length c := by
  rcases h.2 with ⟨rfl, he⟩ | ⟨g, cap, cur, rfl, _⟩
  · have h0 : es = [] := by
      have := edAll_len es
      rw [he] at this
      exact List.eq_nil_of_length_eq_zero (by simp at this; omega)
    subst h0
    exact ⟨none, 0, rfl⟩
  · exact ⟨_, _, rfl⟩
end

/-- A table that is owned. -/
structure CTw (base : Nat) (W : World) (v : Value) (ns : List (Nd × Value)) : Prop where
  row : W.ownsRow base 86 6 v ns.length (ndAll ns)
  eds : ∀ p ∈ ns, LnkO base W p.2 p.1.next
section
variable {base : Nat} {W W' : World} {v : Value} {ns : List (Nd × Value)}
theorem CTw.start (base : Nat) (W : World) : CTw base W (.slice none 0 0) [] := ⟨World.ownsRow_nil _ _ _ _, fun p hp => by cases hp⟩
theorem CTw.kept (h : CTw base W v ns) (hg : W.grownBy W' none) : CTw base W' v ns := by
  refine ⟨h.row.kept hg ?_, fun p hp => (h.eds p hp).kept hg⟩
  cases hb : v.ownBlock with
  | none => exact .inl rfl
  | some g => exact .inr (fun e => by cases e)
theorem CTw.tbl (h : CTw base W v ns) : Tbl W v (ns.map (·.1)) := by
  rcases h.row.2 with ⟨rfl, he⟩ | ⟨g, cap, cur, rfl, hb, hh, _⟩
  · have h0 : ns = [] := by
      have := ndAll_len ns
      rw [he] at this
      exact List.eq_nil_of_length_eq_zero (by simp at this; omega)
    subst h0
    exact Tbl.nil_ W
  · refine ⟨_, cap, by simp, fun _ => ⟨g, 0, rfl, fun i x hx => ?_⟩⟩
    rw [List.getElem?_map] at hx
    obtain ⟨p, hp, rfl⟩ := Option.map_eq_some_iff.1 hx
    have hc := h.row.cells (g := g) rfl
    have e : ∀ j, ((⟨g, 0, none⟩ : Addr).add j) = ⟨g, j, none⟩ := fun j => by rw [addr_plain, Nat.zero_add]
    have at_ : ∀ j u, j < 6 → (ndCells p.1 p.2).toList[j]? = some u → W.cell? ⟨g, i * 6 + j, none⟩ = some u := fun j u hj hu => by
      have := hc (i * 6 + j) u ((ndAll_at hp j hj).trans hu)
      rwa [e] at this
    refine ⟨p.2, (h.eds p (List.mem_of_getElem? hp)).edges, ?_⟩
    rw [Nat.zero_add]
    exact ⟨at_ 0 _ (by omega) rfl, at_ 1 _ (by omega) rfl, at_ 2 _ (by omega) rfl, at_ 3 _ (by omega) rfl, at_ 4 _ (by omega) rfl, at_ 5 _ (by omega) rfl⟩
theorem CTw.len (h : CTw base W v ns) : ∃ A c, v = .slice A ns.length c := by
  rcases h.row.2 with ⟨rfl, he⟩ | ⟨g, cap, cur, rfl, _⟩
  · have h0 : ns = [] := by
      have := ndAll_len ns
      rw [he] at this
      exact List.eq_nil_of_length_eq_zero (by simp at this; omega)
    subst h0
    exact ⟨none, 0, rfl⟩
  · exact ⟨_, _, rfl⟩
end

/-! ### Ints -/
def inAll (zs : List Int) : List Value := zs.map fun z => .int .i64 z
def IOwn (base : Nat) (W : World) (v : Value) (zs : List Int) : Prop := W.ownsRow base 3 1 v zs.length (inAll zs)
section
variable {base : Nat} {W W' : World} {v : Value} {zs : List Int}
theorem IOwn.nil_ (base : Nat) (W : World) : IOwn base W (.slice none 0 0) [] := World.ownsRow_nil _ _ _ _
theorem IOwn.ints (h : IOwn base W v zs) (hl : zs.length ≤ 1000) : Ints W v zs := by
  rcases h.2 with ⟨rfl, he⟩ | ⟨g, cap, cur, rfl, hb, hh, _⟩
  · obtain rfl : zs = [] := List.eq_nil_of_length_eq_zero he
    exact Ints.nil_ W
  · refine ⟨_, cap, rfl, by omega, fun _ => ⟨g, 0, rfl, fun i z hz => ?_⟩⟩
    have hc := h.cells (g := g) rfl i (.int .i64 z) (by unfold inAll; rw [List.getElem?_map, hz]; rfl)
    rw [Nat.zero_add]
    rwa [addr_plain, Nat.zero_add] at hc
theorem IOwn.kept {row : Option Nat} (h : IOwn base W v zs) (hg : W.grownBy W' row) (hr : ∀ g, v.ownBlock = some g → row ≠ some g) : IOwn base W' v zs := by
  refine World.ownsRow.kept h hg ?_
  cases hb : v.ownBlock with
  | none => exact .inl rfl
  | some g => exact .inr (fun e => hr g hb e.symm)
theorem IOwn.kept0 (h : IOwn base W v zs) (hg : W.grownBy W' none) : IOwn base W' v zs := h.kept hg (fun _ _ e => by cases e)
theorem IOwn.len (h : IOwn base W v zs) : ∃ A c, v = .slice A zs.length c := by
  rcases h.2 with ⟨rfl, he⟩ | ⟨g, cap, cur, rfl, _⟩
  · obtain rfl : zs = [] := List.eq_nil_of_length_eq_zero he
    exact ⟨none, 0, rfl⟩
  · exact ⟨_, _, rfl⟩
/-- Another block that is turned: of another type. -/
theorem IOwn.other {row : Option Nat} (h : IOwn base W v zs) (hg : W.grownBy W' row) (hr : ∀ g, row = some g → ∃ t cs, Blk W g t cs ∧ t ≠ 3) : IOwn base W' v zs := h.kept hg (fun g e e' => by
  obtain ⟨t, cs, hb, ht⟩ := hr g e'
  obtain ⟨_, cs', hb'⟩ := own_row h g e
  exact Blk.ne_ hb hb' ht rfl)
end
end Go.Proofs.Ytmhbmeckdbdhpaa

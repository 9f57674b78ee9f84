/- Texts joined for the claim's sake: COfL, COfR. -/
import Derived.Test.YtmhbmeckdbdhpaaZSAddRow28
import Derived.Test.YtmhbmeckdbdhpaaZSAddRow32
import Derived.Test.YtmhbmeckdbdhpaaZSAddRow33
import Derived.Test.YtmhbmeckdbdhpaaZSAddRow21
namespace Go.Proofs.Ytmhbmeckdbdhpaa
open Go.RowKit

/-! ### What is told apart -/
def Snd (L : List Nd) (M : Nat → Nat → Bool) : Prop := ∀ a b, M a b = true → Apt (hdL L) (scL L) a b
def Clo (L : List Nd) (M : Nat → Nat → Bool) : Prop := ∀ x y, liveB L x = true → liveB L y = true → unl (hdL L) (scL L) M x y = true → M x y = true
def RD (L : List Nd) (M0 M : Nat → Nat → Bool) (b : Bool) (k q : Nat) : Prop :=
  (b = false ∧ M = M0 ∧ ∀ x y, liveB L x = true → liveB L y = true → (x < k ∨ x = k ∧ y < q) → unl (hdL L) (scL L) M0 x y = true → M0 x y = true) ∨ (b = true ∧ cntM M L.length < cntM M0 L.length)
section
variable {L : List Nd} {M0 M : Nat → Nat → Bool} {b : Bool} {k q : Nat}
theorem Snd.put (h : Snd L M) (hu : unl (hdL L) (scL L) M k q = true) : Snd L (setM M k q) := fun a c hm => by
  unfold setM at hm
  split at hm
  · rename_i e; rw [e.1, e.2]; exact unl_apt h hu
  · exact h a c hm
theorem RD.start (L : List Nd) (M : Nat → Nat → Bool) : RD L M M false 0 0 := .inl ⟨rfl, rfl, fun x y _ _ h => by omega⟩
theorem RD.row (h : RD L M0 M b k L.length) : RD L M0 M b (k + 1) 0 := by
  rcases h with ⟨h1, h2, h3⟩ | h
  · refine .inl ⟨h1, h2, fun x y hx hy h => h3 x y hx hy ?_⟩
    have := live_lt hy
    omega
  · exact .inr h
theorem RD.mark (h : RD L M0 M b k q) (hk : k < L.length) (hq : q < L.length) (hm : M k q = false) : RD L M0 (setM M k q) true k (q + 1) := by
  have h1 := cnt_set hk hq hm
  rcases h with ⟨_, rfl, _⟩ | ⟨_, h2⟩
  · exact .inr ⟨rfl, h1⟩
  · exact .inr ⟨rfl, by omega⟩
theorem RD.skip (h : RD L M0 M b k q) (hs : liveB L k = true → liveB L q = true → unl (hdL L) (scL L) M k q = true → M k q = true) : RD L M0 M b k (q + 1) := by
  rcases h with ⟨h1, rfl, h3⟩ | h
  · refine .inl ⟨h1, rfl, fun x y hx hy h hu => ?_⟩
    by_cases e : x = k ∧ y = q
    · obtain ⟨rfl, rfl⟩ := e; exact hs hx hy hu
    · exact h3 x y hx hy (by omega) hu
  · exact .inr h
theorem RD.done (h : RD L M0 M false L.length 0) : Clo L M := by
  rcases h with ⟨_, rfl, h3⟩ | ⟨h, _⟩
  · exact fun x y hx hy hu => h3 x y hx hy (.inl (live_lt hx)) hu
  · cases h
end

/-! ### Numbers -/
/-- What is numbered, of the first i nodes. -/
structure Nm (L : List Nd) (i : Nat) (fs os : List Nat) : Prop where
  eq : (fs, os) = clsL (apL L) ((rootsL L).take i)
  live : ∀ f ∈ fs, liveB L f = true
  le : fs.length ≤ i
  len : os.length = i
section
variable {L : List Nd} {i : Nat} {fs os : List Nat}
theorem Nm.start (L : List Nd) : Nm L 0 [] [] := ⟨rfl, fun f h => (by cases h), by simp, rfl⟩
theorem Nm.next (h : Nm L i fs os) (hi : i < L.length) : clsL (apL L) ((rootsL L).take (i + 1)) = clsStep (apL L) (fs, os) (rootL L i) := by
  have hr : (rootsL L)[i]? = some (rootL L i) := by unfold rootsL; simp [hi]
  rw [List.take_add_one, hr, h.eq]
  exact clsL_snoc _ _ _
theorem Nm.new (h : Nm L i fs os) (hi : i < L.length) (hl : lastLike (apL L) fs (rootL L i) fs.length < 0) (hv : liveB L (rootL L i) = true) : Nm L (i + 1) (fs ++ [rootL L i]) (os ++ [fs.length]) := by
  refine ⟨?_, fun f hf => ?_, by simp; have := h.le; omega, by simp [h.len]⟩
  · rw [h.next hi]; unfold clsStep; rw [if_pos hl]
  · rcases List.mem_append.1 hf with hf | hf
    · exact h.live f hf
    · obtain rfl := List.mem_singleton.1 hf; exact hv
theorem Nm.old (h : Nm L i fs os) (hi : i < L.length) {c : Nat} (hl : lastLike (apL L) fs (rootL L i) fs.length = (c : Int)) : Nm L (i + 1) fs (os ++ [c]) := by
  refine ⟨?_, h.live, by have := h.le; omega, by simp [h.len]⟩
  rw [h.next hi]; unfold clsStep
  dsimp only
  rw [hl, if_neg (by omega)]; rfl
theorem Nm.done (h : Nm L L.length fs os) : numL L = (fs, os) := by
  rw [h.eq]
  unfold numL
  rw [List.take_of_length_le (by unfold rootsL; simp)]
end
/-! ### What stands as the nodes are numbered -/
structure N3 (W3 : World) (vc v13 vo vp : Value) (fs os : List Nat) (ps : List Int) (W : World) : Prop where
  gr : W3.grownBy W none
  bt : Blk W W3.heap.size 32 #[vc, vo, vp]
  of : IOwn W3.heap.size W v13 (fs.map Int.ofNat)
  oo : IOwn W3.heap.size W vo (os.map Int.ofNat)
  op : IOwn W3.heap.size W vp ps
  n1 : ∀ g, v13.ownBlock = some g → vo.ownBlock ≠ some g
  n2 : ∀ g, v13.ownBlock = some g → vp.ownBlock ≠ some g
  n3 : ∀ g, vo.ownBlock = some g → vp.ownBlock ≠ some g
section
variable {W3 W W' : World} {vc v13 vo vp u : Value} {fs os fs' os' : List Nat} {ps ps' : List Int}
theorem N3.size (h : N3 W3 vc v13 vo vp fs os ps W) : W3.heap.size < W.heap.size := h.bt.lt
theorem N3.kept (h : N3 W3 vc v13 vo vp fs os ps W) (hg : W.grownBy W' none) : N3 W3 vc v13 vo vp fs os ps W' :=
  ⟨only_trans h.gr hg, h.bt.kept hg, h.of.kept0 hg, h.oo.kept0 hg, h.op.kept0 hg, h.n1, h.n2, h.n3⟩
theorem own_int_ne {base : Nat} {zs : List Int} {g : Nat} {t : TypeId} {cs : Array Value} (h : IOwn base W u zs) (hb : Blk W g t cs) (ht : t ≠ 3) : u.ownBlock ≠ some g := fun e => by
  obtain ⟨_, cs', hb'⟩ := own_row h g e
  exact Blk.ne_ hb hb' ht rfl
/-- The table's box is turned. -/
theorem N3.box (h : N3 W3 vc v13 vo vp fs os ps W) (k : Nat) (u vc' : Value) (e : (#[vc, vo, vp] : Array Value).setIfInBounds k u = #[vc', vo, vp]) : N3 W3 vc' v13 vo vp fs os ps (W.setCell ⟨W3.heap.size, k, none⟩ u) := by
  have hs : W.grownBy (W.setCell ⟨W3.heap.size, k, none⟩ u) (some W3.heap.size) := only_setCell (only_refl _ _) rfl _
  have hne : ∀ g, some W3.heap.size = some g → ∃ t cs, Blk W g t cs ∧ t ≠ 3 := fun g e => by injection e with e; subst e; exact ⟨_, _, h.bt, by decide⟩
  exact ⟨only_setNew h.gr (Nat.le_refl _) _, by rw [← e]; exact h.bt.set_ k u, h.of.other hs hne, h.oo.other hs hne, h.op.other hs hne, h.n1, h.n2, h.n3⟩
/-- Another row is turned, of another type. -/
theorem N3.far {row : Option Nat} (h : N3 W3 vc v13 vo vp fs os ps W) (hg : W.grownBy W' row) (hr : ∀ g, row = some g → W3.heap.size ≤ g ∧ ∃ t cs, Blk W g t cs ∧ t ≠ 3 ∧ t ≠ 32) : N3 W3 vc v13 vo vp fs os ps W' := by
  have hne : ∀ g, row = some g → ∃ t cs, Blk W g t cs ∧ t ≠ 3 := fun g e => by obtain ⟨_, t, cs, h1, h2, _⟩ := hr g e; exact ⟨t, cs, h1, h2⟩
  refine ⟨?_, h.bt.grown hg (fun e => ?_), h.of.other hg hne, h.oo.other hg hne, h.op.other hg hne, h.n1, h.n2, h.n3⟩
  · cases row with
    | none => exact only_trans h.gr hg
    | some g => exact only_new h.gr hg (hr g rfl).1
  · obtain ⟨_, t, cs, h1, _, h2⟩ := hr _ e.symm
    exact Blk.ne_ h1 h.bt h2 rfl
theorem N3.own (h : N3 W3 vc v13 vo vp fs os ps W) (hg : W.grownBy W' u.ownBlock) {zs : List Int} (hu : IOwn W3.heap.size W u zs) : W3.grownBy W' none ∧ Blk W' W3.heap.size 32 #[vc, vo, vp] :=
  ⟨grown_own h.gr (fun g e => (World.ownsRow.lt hu g e).1) hg, h.bt.grown hg fun e => own_int_ne hu h.bt (by decide) e.symm⟩
/-- The priorities: one more, and it is stored. -/
theorem N3.putP (h : N3 W3 vc v13 vo vp fs os ps W) (hg : W.grownBy W' vp.ownBlock) (ho : IOwn W3.heap.size W' u ps') (hb : ∀ g, u.ownBlock = some g → vp.ownBlock = some g ∨ W.heap.size ≤ g) : N3 W3 vc v13 vo u fs os ps' (W'.setCell ⟨W3.heap.size, 2, none⟩ u) := by
  obtain ⟨h1, h2⟩ := h.own hg h.op
  have hs : W'.grownBy (W'.setCell ⟨W3.heap.size, 2, none⟩ u) (some W3.heap.size) := only_setCell (only_refl _ _) rfl _
  have hne : ∀ g, some W3.heap.size = some g → ∃ t cs, Blk W' g t cs ∧ t ≠ 3 := fun g e => by injection e with e; subst e; exact ⟨_, _, h2, by decide⟩
  refine ⟨only_setNew h1 (Nat.le_refl _) _, h2.set_ 2 u, (h.of.kept hg (fun g e e' => h.n2 g e e')).other hs hne, (h.oo.kept hg (fun g e e' => h.n3 g e e')).other hs hne, ho.other hs hne, h.n1, fun g e e' => ?_, fun g e e' => ?_⟩
  · rcases hb g e' with h3 | h3
    · exact h.n2 g e h3
    · have := (World.ownsRow.lt h.of g e).2; omega
  · rcases hb g e' with h3 | h3
    · exact h.n3 g e h3
    · have := (World.ownsRow.lt h.oo g e).2; omega
theorem own_blk {base g : Nat} {zs : List Int} {t : TypeId} {cs : Array Value} (hu : IOwn base W u zs) (hg : W.grownBy W' u.ownBlock) (hb : Blk W g t cs) (ht : t ≠ 3) : Blk W' g t cs := hb.grown hg (fun e => own_int_ne hu hb ht e.symm)
/-- And the box of what a node comes to. -/
structure NX (W3 : World) (vc v13 vo vp : Value) (fs os : List Nat) (ps : List Int) (Bx : Nat) (m s : Int) (W : World) : Prop where
  n : N3 W3 vc v13 vo vp fs os ps W
  bx : Blk W Bx 59 #[.int .i64 m, .int .i64 s]
variable {Bx : Nat} {m s : Int}
theorem NX.start (h : N3 W3 vc v13 vo vp fs os ps W) (hg : W.grownBy W' none) (m s : Int) : NX W3 vc v13 vo vp fs os ps W'.heap.size m s (W'.alloc (.cells #[.int .i64 m, .int .i64 s] 59)) :=
  ⟨h.kept (only_alloc hg _), Blk.new _ _ _⟩
theorem NX.kept (h : NX W3 vc v13 vo vp fs os ps Bx m s W) (hg : W.grownBy W' none) : NX W3 vc v13 vo vp fs os ps Bx m s W' := ⟨h.n.kept hg, h.bx.kept hg⟩
theorem NX.cells (h : NX W3 vc v13 vo vp fs os ps Bx m s W) : (W.cell? ⟨W3.heap.size, 0, none⟩ = some vc ∧ W.cell? ⟨W3.heap.size, 1, none⟩ = some vo ∧ W.cell? ⟨W3.heap.size, 2, none⟩ = some vp) ∧ (W.frozen? ⟨W3.heap.size, 1, none⟩ = false ∧ W.frozen? ⟨W3.heap.size, 2, none⟩ = false ∧ W3.heap.size < W.heap.size) ∧
    W.cell? ⟨Bx, 0, none⟩ = some (.int .i64 m) ∧ W.cell? ⟨Bx, 1, none⟩ = some (.int .i64 s) ∧ Bx < W.heap.size :=
  ⟨⟨h.n.bt.cell 0, h.n.bt.cell 1, h.n.bt.cell 2⟩, ⟨h.n.bt.frozen 1, h.n.bt.frozen 2, h.n.bt.lt⟩, h.bx.cell 0, h.bx.cell 1, h.bx.lt⟩
end
end Go.Proofs.Ytmhbmeckdbdhpaa

namespace Go.Proofs.Ytmhbmeckdbdhpaa
open Go.RowKit

section
variable {b : Act} {W : World} {o : Oper} {t s : Tmp}
theorem rc_move {c : Value} (ho : o.op = .move (.tmp t)) (h1 : b.eval (.tmp t) = c) : (execOp b.eval o).run Try.prog W = .ok (.value c) W := by
  obtain ⟨dst, op, type, pos, after, guard⟩ := o
  dsimp only at ho
  subst ho
  simp only [execOp, h1, Sem.run_pure]
theorem rc_table0 {g : Nat} (ho : o.op = .fieldAddr 32 (.tmp t) 0) (h1 : b.eval (.tmp t) = .pointer (some ⟨g, 0, none⟩)) : (execOp b.eval o).run Try.prog W = .ok (.value (.pointer (some ⟨g, 0, none⟩))) W := by
  obtain ⟨dst, op, type, pos, after, guard⟩ := o
  dsimp only at ho
  subst ho
  simp only [execOp, h1]
  go_simp
theorem rc_class4 {g : Nat} (ho : o.op = .fieldAddr 86 (.tmp t) 4) (h1 : b.eval (.tmp t) = .pointer (some ⟨g, 0, none⟩)) : (execOp b.eval o).run Try.prog W = .ok (.value (.pointer (some ⟨g, 5, none⟩))) W := by
  obtain ⟨dst, op, type, pos, after, guard⟩ := o
  dsimp only at ho
  subst ho
  simp only [execOp, h1]
  go_simp
theorem rc_loadInt {p : Addr} {n : Int} (ho : o.op = .load 3 (.tmp t)) (h1 : b.eval (.tmp t) = .pointer (some p)) (hc : W.cell? p = some (.int .i64 n)) : (execOp b.eval o).run Try.prog W = .ok (.value (.int .i64 n)) W := by
  obtain ⟨dst, op, type, pos, after, guard⟩ := o
  dsimp only at ho
  subst ho
  simp only [execOp, h1]
  go_simp
theorem rc_loadInts {p : Addr} {A : Option Addr} {n c : Nat} (ho : o.op = .load 26 (.tmp t)) (h1 : b.eval (.tmp t) = .pointer (some p)) (hc : W.cell? p = some (.slice A n c)) : (execOp b.eval o).run Try.prog W = .ok (.value (.slice A n c)) W := by
  obtain ⟨dst, op, type, pos, after, guard⟩ := o
  dsimp only at ho
  subst ho
  simp only [execOp, h1]
  go_simp
theorem rc_loadLinks {p : Addr} {A : Option Addr} {n c : Nat} (ho : o.op = .load 84 (.tmp t)) (h1 : b.eval (.tmp t) = .pointer (some p)) (hc : W.cell? p = some (.slice A n c)) : (execOp b.eval o).run Try.prog W = .ok (.value (.slice A n c)) W := by
  obtain ⟨dst, op, type, pos, after, guard⟩ := o
  dsimp only at ho
  subst ho
  simp only [execOp, h1]
  go_simp
theorem rc_indexInts {b0 off n c k : Nat} (ho : o.op = .indexAddr 26 (.tmp s) (.tmp t)) (h1 : b.eval (.tmp s) = .slice (some ⟨b0, off, none⟩) n c) (h2 : b.eval (.tmp t) = .int .i64 (k : Int)) (hk : k < n) : (execOp b.eval o).run Try.prog W = .ok (.value (.pointer (some ⟨b0, off + k, none⟩))) W := by
  have hk0 : (0 : Int) ≤ (k : Int) := by omega
  have hk1 : (k : Int) < (n : Int) := by omega
  obtain ⟨dst, op, type, pos, after, guard⟩ := o
  dsimp only at ho
  subst ho
  simp only [execOp, h1, h2]
  go_simp
theorem rc_len {A : Option Addr} {n c : Nat} (ho : o.op = .call { callee := .builtin .len, args := #[.tmp t], argTypes := #[22] }) (h1 : b.eval (.tmp t) = .slice A n c) : (execOp b.eval o).run Try.prog W = .ok (.value (.int .i64 (n : Int))) W := by
  obtain ⟨dst, op, type, pos, after, guard⟩ := o
  dsimp only at ho
  subst ho
  simp only [execOp, h1, resolve, invoke, builtin, List.map_toArray, List.map_cons, List.map_nil]
  go_simp
end
end Go.Proofs.Ytmhbmeckdbdhpaa

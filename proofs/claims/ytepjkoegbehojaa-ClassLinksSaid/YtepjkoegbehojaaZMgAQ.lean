/- Texts joined for the claim's sake: COfL, COfR, COfC, COfS. -/
import Derived.Test.YtepjkoegbehojaaZMgAL
import Derived.Test.YtepjkoegbehojaaZMgAM
import Derived.Test.YtepjkoegbehojaaZORCh
import Derived.Test.YtepjkoegbehojaaZMgAD
/- The document's own Of of layer 7: what its loops hold to. -/
namespace Go.Proofs.Ytepjkoegbehojaa
open Go.RowKit

/-! ### What is told apart -/
def Snd (L : List Nd) (M : Nat → Nat → Bool) : Prop := ∀ a b, M a b = true → Apt (hdL L) (scL L) a b
def Clo (L : List Nd) (M : Nat → Nat → Bool) : Prop := ∀ x y, liveB L x = true → liveB L y = true → unl (hdL L) (scL L) M x y = true → M x y = true
def RD (L : List Nd) (M0 M : Nat → Nat → Bool) (b : Bool) (k q : Nat) : Prop :=
  (b = false ∧ M = M0 ∧ ∀ x y, liveB L x = true → liveB L y = true → (x < k ∨ x = k ∧ y < q) → unl (hdL L) (scL L) M0 x y = true → M0 x y = true) ∨ (b = true ∧ cntM M L.length < cntM M0 L.length)
section
variable {L : List Nd} {M0 M : Nat → Nat → Bool} {b : Bool} {k q : Nat}
theorem snd_0 (L : List Nd) : Snd L (fun _ _ => false) := fun _ _ h => by cases h
theorem Snd.put (h : Snd L M) (hu : unl (hdL L) (scL L) M k q = true) : Snd L (setM M k q) := fun a c hm => by
  unfold setM at hm
  split at hm
  · rename_i e; rw [e.1, e.2]; exact unl_apt h hu
  · exact h a c hm
theorem apL_eq (hL : TW L) (h : Snd L M) (hc : Clo L M) {x y : Nat} (hx : liveB L x = true) (hy : liveB L y = true) : M x y = apL L x y := by
  cases hm : M x y with
  | true => exact ((apL_iff hL hx hy).2 (h x y hm)).symm
  | false =>
    cases ha : apL L x y with
    | false => rfl
    | true =>
      have := apt_closed (M := M) (D := fun a => liveB L a = true) (fun a j m r _ hs => hL.closed a j m r hs) (fun a b ha hb hu => hc a b ha hb hu) ((apL_iff hL hx hy).1 ha) hx hy
      rw [hm] at this
      cases this
theorem RD.start (L : List Nd) (M : Nat → Nat → Bool) : RD L M M false 0 0 := .inl ⟨rfl, rfl, fun x y _ _ h => by omega⟩
theorem RD.row (h : RD L M0 M b k L.length) : RD L M0 M b (k + 1) 0 := by
  rcases h with ⟨h1, h2, h3⟩ | h
  · refine .inl ⟨h1, h2, fun x y hx hy h => h3 x y hx hy ?_⟩
    have := live_lt hy
    omega
  · exact .inr h
theorem RD.mark (h : RD L M0 M b k q) (hk : k < L.length) (hq : q < L.length) (hm : M k q = false) : RD L M0 (setM M k q) true k (q + 1) := by
  have h1 := cnt_set hk hq hm
  rcases h with ⟨_, rfl, _⟩ | ⟨_, h2⟩
  · exact .inr ⟨rfl, h1⟩
  · exact .inr ⟨rfl, by omega⟩
theorem RD.skip (h : RD L M0 M b k q) (hs : liveB L k = true → liveB L q = true → unl (hdL L) (scL L) M k q = true → M k q = true) : RD L M0 M b k (q + 1) := by
  rcases h with ⟨h1, rfl, h3⟩ | h
  · refine .inl ⟨h1, rfl, fun x y hx hy h hu => ?_⟩
    by_cases e : x = k ∧ y = q
    · obtain ⟨rfl, rfl⟩ := e; exact hs hx hy hu
    · exact h3 x y hx hy (by omega) hu
  · exact .inr h
theorem RD.done (h : RD L M0 M false L.length 0) : Clo L M := by
  rcases h with ⟨_, rfl, h3⟩ | ⟨h, _⟩
  · exact fun x y hx hy hu => h3 x y hx hy (.inl (live_lt hx)) hu
  · cases h
theorem RD.less (h : RD L M0 M b L.length 0) : 2 * cntM M L.length + (if b = true then 1 else 0) < 2 * cntM M0 L.length + 1 := by
  rcases h with ⟨rfl, rfl, _⟩ | ⟨rfl, h2⟩
  · simp
  · simp; omega
end

/-! ### Numbers -/
/-- What is numbered, of the first i nodes. -/
structure Nm (L : List Nd) (i : Nat) (fs os : List Nat) : Prop where
  eq : (fs, os) = clsL (apL L) ((rootsL L).take i)
  live : ∀ f ∈ fs, liveB L f = true
  le : fs.length ≤ i
  len : os.length = i
section
variable {L : List Nd} {i : Nat} {fs os : List Nat}
theorem Nm.start (L : List Nd) : Nm L 0 [] [] := ⟨rfl, fun f h => (by cases h), by simp, rfl⟩
theorem Nm.next (h : Nm L i fs os) (hi : i < L.length) : clsL (apL L) ((rootsL L).take (i + 1)) = clsStep (apL L) (fs, os) (rootL L i) := by
  have hr : (rootsL L)[i]? = some (rootL L i) := by unfold rootsL; simp [hi]
  rw [List.take_add_one, hr, h.eq]
  exact clsL_snoc _ _ _
theorem Nm.new (h : Nm L i fs os) (hi : i < L.length) (hl : lastLike (apL L) fs (rootL L i) fs.length < 0) (hv : liveB L (rootL L i) = true) : Nm L (i + 1) (fs ++ [rootL L i]) (os ++ [fs.length]) := by
  refine ⟨?_, fun f hf => ?_, by simp; have := h.le; omega, by simp [h.len]⟩
  · rw [h.next hi]; unfold clsStep; rw [if_pos hl]
  · rcases List.mem_append.1 hf with hf | hf
    · exact h.live f hf
    · obtain rfl := List.mem_singleton.1 hf; exact hv
theorem Nm.old (h : Nm L i fs os) (hi : i < L.length) {c : Nat} (hl : lastLike (apL L) fs (rootL L i) fs.length = (c : Int)) : Nm L (i + 1) fs (os ++ [c]) := by
  refine ⟨?_, h.live, by have := h.le; omega, by simp [h.len]⟩
  rw [h.next hi]; unfold clsStep
  dsimp only
  rw [hl, if_neg (by omega)]; rfl
theorem Nm.done (h : Nm L L.length fs os) : numL L = (fs, os) := by
  rw [h.eq]
  unfold numL
  rw [List.take_of_length_le (by unfold rootsL; simp)]
end
theorem getD_ofNat (os : List Nat) (j : Nat) : (os.map Int.ofNat).getD j 0 = ((os.getD j 0 : Nat) : Int) := by
  simp only [List.getD_eq_getElem?_getD, List.getElem?_map]
  cases os[j]? <;> rfl
theorem prio_take (L : List Nd) (i : Nat) : (List.range (i + 1)).map (prioL L) = (List.range i).map (prioL L) ++ [prioL L i] := by rw [List.range_succ, List.map_append]; rfl

/-! ### What stands as the nodes are numbered -/
structure N3 (W3 : World) (vc v13 vo vp : Value) (fs os : List Nat) (ps : List Int) (W : World) : Prop where
  gr : W3.grownBy W none
  bt : Blk W W3.heap.size 27 #[vc, vo, vp]
  of : IOwn W3.heap.size W v13 (fs.map Int.ofNat)
  oo : IOwn W3.heap.size W vo (os.map Int.ofNat)
  op : IOwn W3.heap.size W vp ps
  n1 : ∀ g, v13.ownBlock = some g → vo.ownBlock ≠ some g
  n2 : ∀ g, v13.ownBlock = some g → vp.ownBlock ≠ some g
  n3 : ∀ g, vo.ownBlock = some g → vp.ownBlock ≠ some g
section
variable {W3 W W' : World} {vc v13 vo vp u : Value} {fs os fs' os' : List Nat} {ps ps' : List Int}
theorem N3.size (h : N3 W3 vc v13 vo vp fs os ps W) : W3.heap.size < W.heap.size := h.bt.lt
theorem N3.kept (h : N3 W3 vc v13 vo vp fs os ps W) (hg : W.grownBy W' none) : N3 W3 vc v13 vo vp fs os ps W' :=
  ⟨only_trans h.gr hg, h.bt.kept hg, h.of.kept0 hg, h.oo.kept0 hg, h.op.kept0 hg, h.n1, h.n2, h.n3⟩
theorem own_int_ne {base : Nat} {zs : List Int} {g : Nat} {t : TypeId} {cs : Array Value} (h : IOwn base W u zs) (hb : Blk W g t cs) (ht : t ≠ 3) : u.ownBlock ≠ some g := fun e => by
  obtain ⟨_, cs', hb'⟩ := own_row h g e
  exact Blk.ne_ hb hb' ht rfl
/-- The table's box is turned. -/
theorem N3.box (h : N3 W3 vc v13 vo vp fs os ps W) (k : Nat) (u vc' : Value) (e : (#[vc, vo, vp] : Array Value).setIfInBounds k u = #[vc', vo, vp]) : N3 W3 vc' v13 vo vp fs os ps (W.setCell ⟨W3.heap.size, k, none⟩ u) := by
  have hs : W.grownBy (W.setCell ⟨W3.heap.size, k, none⟩ u) (some W3.heap.size) := only_setCell (only_refl _ _) rfl _
  have hne : ∀ g, some W3.heap.size = some g → ∃ t cs, Blk W g t cs ∧ t ≠ 3 := fun g e => by injection e with e; subst e; exact ⟨_, _, h.bt, by decide⟩
  exact ⟨only_setNew h.gr (Nat.le_refl _) _, by rw [← e]; exact h.bt.set_ k u, h.of.other hs hne, h.oo.other hs hne, h.op.other hs hne, h.n1, h.n2, h.n3⟩
/-- Another row is turned, of another type. -/
theorem N3.far {row : Option Nat} (h : N3 W3 vc v13 vo vp fs os ps W) (hg : W.grownBy W' row) (hr : ∀ g, row = some g → W3.heap.size ≤ g ∧ ∃ t cs, Blk W g t cs ∧ t ≠ 3 ∧ t ≠ 27) : N3 W3 vc v13 vo vp fs os ps W' := by
  have hne : ∀ g, row = some g → ∃ t cs, Blk W g t cs ∧ t ≠ 3 := fun g e => by obtain ⟨_, t, cs, h1, h2, _⟩ := hr g e; exact ⟨t, cs, h1, h2⟩
  refine ⟨?_, h.bt.grown hg (fun e => ?_), h.of.other hg hne, h.oo.other hg hne, h.op.other hg hne, h.n1, h.n2, h.n3⟩
  · cases row with
    | none => exact only_trans h.gr hg
    | some g => exact only_new h.gr hg (hr g rfl).1
  · obtain ⟨_, t, cs, h1, _, h2⟩ := hr _ e.symm
    exact Blk.ne_ h1 h.bt h2 rfl
theorem N3.own (h : N3 W3 vc v13 vo vp fs os ps W) (hg : W.grownBy W' u.ownBlock) {zs : List Int} (hu : IOwn W3.heap.size W u zs) : W3.grownBy W' none ∧ Blk W' W3.heap.size 27 #[vc, vo, vp] :=
  ⟨grown_own h.gr (fun g e => (World.ownsRow.lt hu g e).1) hg, h.bt.grown hg fun e => own_int_ne hu h.bt (by decide) e.symm⟩
/-- The first ones: one more. -/
theorem N3.putF (h : N3 W3 vc v13 vo vp fs os ps W) (hg : W.grownBy W' v13.ownBlock) (ho : IOwn W3.heap.size W' u (fs'.map Int.ofNat)) (hb : ∀ g, u.ownBlock = some g → v13.ownBlock = some g ∨ W.heap.size ≤ g) : N3 W3 vc u vo vp fs' os ps W' := by
  obtain ⟨h1, h2⟩ := h.own hg h.of
  refine ⟨h1, h2, ho, h.oo.kept hg (fun g e e' => h.n1 g e' e), h.op.kept hg (fun g e e' => h.n2 g e' e), fun g e e' => ?_, fun g e e' => ?_, h.n3⟩
  · rcases hb g e with h3 | h3
    · exact h.n1 g h3 e'
    · have := (World.ownsRow.lt h.oo g e').2; omega
  · rcases hb g e with h3 | h3
    · exact h.n2 g h3 e'
    · have := (World.ownsRow.lt h.op g e').2; omega
/-- The numbers: one more, and it is stored. -/
theorem N3.putO (h : N3 W3 vc v13 vo vp fs os ps W) (hg : W.grownBy W' vo.ownBlock) (ho : IOwn W3.heap.size W' u (os'.map Int.ofNat)) (hb : ∀ g, u.ownBlock = some g → vo.ownBlock = some g ∨ W.heap.size ≤ g) : N3 W3 vc v13 u vp fs os' ps (W'.setCell ⟨W3.heap.size, 1, none⟩ u) := by
  obtain ⟨h1, h2⟩ := h.own hg h.oo
  have hs : W'.grownBy (W'.setCell ⟨W3.heap.size, 1, none⟩ u) (some W3.heap.size) := only_setCell (only_refl _ _) rfl _
  have hne : ∀ g, some W3.heap.size = some g → ∃ t cs, Blk W' g t cs ∧ t ≠ 3 := fun g e => by injection e with e; subst e; exact ⟨_, _, h2, by decide⟩
  refine ⟨only_setNew h1 (Nat.le_refl _) _, h2.set_ 1 u, (h.of.kept hg (fun g e e' => h.n1 g e e')).other hs hne, ho.other hs hne, (h.op.kept hg (fun g e e' => h.n3 g e' e)).other hs hne, fun g e e' => ?_, h.n2, fun g e e' => ?_⟩
  · rcases hb g e' with h3 | h3
    · exact h.n1 g e h3
    · have := (World.ownsRow.lt h.of g e).2; omega
  · rcases hb g e with h3 | h3
    · exact h.n3 g h3 e'
    · have := (World.ownsRow.lt h.op g e').2; omega
/-- The priorities: one more, and it is stored. -/
theorem N3.putP (h : N3 W3 vc v13 vo vp fs os ps W) (hg : W.grownBy W' vp.ownBlock) (ho : IOwn W3.heap.size W' u ps') (hb : ∀ g, u.ownBlock = some g → vp.ownBlock = some g ∨ W.heap.size ≤ g) : N3 W3 vc v13 vo u fs os ps' (W'.setCell ⟨W3.heap.size, 2, none⟩ u) := by
  obtain ⟨h1, h2⟩ := h.own hg h.op
  have hs : W'.grownBy (W'.setCell ⟨W3.heap.size, 2, none⟩ u) (some W3.heap.size) := only_setCell (only_refl _ _) rfl _
  have hne : ∀ g, some W3.heap.size = some g → ∃ t cs, Blk W' g t cs ∧ t ≠ 3 := fun g e => by injection e with e; subst e; exact ⟨_, _, h2, by decide⟩
  refine ⟨only_setNew h1 (Nat.le_refl _) _, h2.set_ 2 u, (h.of.kept hg (fun g e e' => h.n2 g e e')).other hs hne, (h.oo.kept hg (fun g e e' => h.n3 g e e')).other hs hne, ho.other hs hne, h.n1, fun g e e' => ?_, fun g e e' => ?_⟩
  · rcases hb g e' with h3 | h3
    · exact h.n2 g e h3
    · have := (World.ownsRow.lt h.of g e).2; omega
  · rcases hb g e' with h3 | h3
    · exact h.n3 g e h3
    · have := (World.ownsRow.lt h.oo g e).2; omega
theorem own_blk {base g : Nat} {zs : List Int} {t : TypeId} {cs : Array Value} (hu : IOwn base W u zs) (hg : W.grownBy W' u.ownBlock) (hb : Blk W g t cs) (ht : t ≠ 3) : Blk W' g t cs := hb.grown hg (fun e => own_int_ne hu hb ht e.symm)
/-- And the box of what a node comes to. -/
structure NX (W3 : World) (vc v13 vo vp : Value) (fs os : List Nat) (ps : List Int) (Bx : Nat) (m s : Int) (W : World) : Prop where
  n : N3 W3 vc v13 vo vp fs os ps W
  bx : Blk W Bx 35 #[.int .i64 m, .int .i64 s]
variable {Bx : Nat} {m s : Int}
theorem NX.start (h : N3 W3 vc v13 vo vp fs os ps W) (hg : W.grownBy W' none) (m s : Int) : NX W3 vc v13 vo vp fs os ps W'.heap.size m s (W'.alloc (.cells #[.int .i64 m, .int .i64 s] 35)) :=
  ⟨h.kept (only_alloc hg _), Blk.new _ _ _⟩
theorem NX.kept (h : NX W3 vc v13 vo vp fs os ps Bx m s W) (hg : W.grownBy W' none) : NX W3 vc v13 vo vp fs os ps Bx m s W' := ⟨h.n.kept hg, h.bx.kept hg⟩
theorem NX.putF (h : NX W3 vc v13 vo vp fs os ps Bx m s W) (hg : W.grownBy W' v13.ownBlock) (ho : IOwn W3.heap.size W' u (fs'.map Int.ofNat)) (hb : ∀ g, u.ownBlock = some g → v13.ownBlock = some g ∨ W.heap.size ≤ g) : NX W3 vc u vo vp fs' os ps Bx m s W' :=
  ⟨h.n.putF hg ho hb, own_blk h.n.of hg h.bx (by decide)⟩
theorem NX.putO (h : NX W3 vc v13 vo vp fs os ps Bx m s W) (hg : W.grownBy W' vo.ownBlock) (ho : IOwn W3.heap.size W' u (os'.map Int.ofNat)) (hb : ∀ g, u.ownBlock = some g → vo.ownBlock = some g ∨ W.heap.size ≤ g) : NX W3 vc v13 u vp fs os' ps Bx m s (W'.setCell ⟨W3.heap.size, 1, none⟩ u) :=
  ⟨h.n.putO hg ho hb, (own_blk h.n.oo hg h.bx (by decide)).far (p := ⟨W3.heap.size, 1, none⟩) (Blk.ne_ h.bx h.n.bt (by decide)) _⟩
theorem NX.cells (h : NX W3 vc v13 vo vp fs os ps Bx m s W) : (W.cell? ⟨W3.heap.size, 0, none⟩ = some vc ∧ W.cell? ⟨W3.heap.size, 1, none⟩ = some vo ∧ W.cell? ⟨W3.heap.size, 2, none⟩ = some vp) ∧ (W.frozen? ⟨W3.heap.size, 1, none⟩ = false ∧ W.frozen? ⟨W3.heap.size, 2, none⟩ = false ∧ W3.heap.size < W.heap.size) ∧
    W.cell? ⟨Bx, 0, none⟩ = some (.int .i64 m) ∧ W.cell? ⟨Bx, 1, none⟩ = some (.int .i64 s) ∧ Bx < W.heap.size :=
  ⟨⟨h.n.bt.cell 0, h.n.bt.cell 1, h.n.bt.cell 2⟩, ⟨h.n.bt.frozen 1, h.n.bt.frozen 2, h.n.bt.lt⟩, h.bx.cell 0, h.bx.cell 1, h.bx.lt⟩
theorem last_up {A : Nat → Nat → Bool} {fs : List Nat} {x q f : Nat} (hf : fs[q]? = some f) (h : A f x = true) : lastLike A fs x (q + 1) = lastLike A fs x q := by
  show (if A (fs.getD q 0) x then lastLike A fs x q else (q : Int)) = _
  rw [List.getD_eq_getElem?_getD, hf]
  simp [h]
theorem last_at {A : Nat → Nat → Bool} {fs : List Nat} {x q f : Nat} (hf : fs[q]? = some f) (h : A f x = false) : lastLike A fs x (q + 1) = (q : Int) := by
  show (if A (fs.getD q 0) x then lastLike A fs x q else (q : Int)) = _
  rw [List.getD_eq_getElem?_getD, hf]
  simp [h]
end
end Go.Proofs.Ytepjkoegbehojaa

/- What single operations of Of answer, in a region that draws its order. -/
namespace Go.Proofs.Ytepjkoegbehojaa
open Go.RowKit

section
variable {b : Act} {W : World} {o : Oper} {t s : Tmp}
theorem rc_move {c : Value} (ho : o.op = .move (.tmp t)) (h1 : b.eval (.tmp t) = c) : (execOp b.eval o).run Try.prog W = .ok (.value c) W := by
  obtain ⟨dst, op, type, pos, after, guard⟩ := o
  dsimp only at ho
  subst ho
  simp only [execOp, h1, Sem.run_pure]
theorem rc_node0 {g : Nat} (ho : o.op = .fieldAddr 46 (.tmp t) 0) (h1 : b.eval (.tmp t) = .pointer (some ⟨g, 0, none⟩)) : (execOp b.eval o).run Try.prog W = .ok (.value (.pointer (some ⟨g, 0, none⟩))) W := by
  obtain ⟨dst, op, type, pos, after, guard⟩ := o
  dsimp only at ho
  subst ho
  simp only [execOp, h1]
  go_simp
theorem rc_node2 {g : Nat} (ho : o.op = .fieldAddr 46 (.tmp t) 2) (h1 : b.eval (.tmp t) = .pointer (some ⟨g, 0, none⟩)) : (execOp b.eval o).run Try.prog W = .ok (.value (.pointer (some ⟨g, 2, none⟩))) W := by
  obtain ⟨dst, op, type, pos, after, guard⟩ := o
  dsimp only at ho
  subst ho
  simp only [execOp, h1]
  go_simp
theorem rc_node3 {g : Nat} (ho : o.op = .fieldAddr 46 (.tmp t) 3) (h1 : b.eval (.tmp t) = .pointer (some ⟨g, 0, none⟩)) : (execOp b.eval o).run Try.prog W = .ok (.value (.pointer (some ⟨g, 3, none⟩))) W := by
  obtain ⟨dst, op, type, pos, after, guard⟩ := o
  dsimp only at ho
  subst ho
  simp only [execOp, h1]
  go_simp
theorem rc_node4 {g : Nat} (ho : o.op = .fieldAddr 46 (.tmp t) 4) (h1 : b.eval (.tmp t) = .pointer (some ⟨g, 0, none⟩)) : (execOp b.eval o).run Try.prog W = .ok (.value (.pointer (some ⟨g, 5, none⟩))) W := by
  obtain ⟨dst, op, type, pos, after, guard⟩ := o
  dsimp only at ho
  subst ho
  simp only [execOp, h1]
  go_simp
theorem rc_table0 {g : Nat} (ho : o.op = .fieldAddr 27 (.tmp t) 0) (h1 : b.eval (.tmp t) = .pointer (some ⟨g, 0, none⟩)) : (execOp b.eval o).run Try.prog W = .ok (.value (.pointer (some ⟨g, 0, none⟩))) W := by
  obtain ⟨dst, op, type, pos, after, guard⟩ := o
  dsimp only at ho
  subst ho
  simp only [execOp, h1]
  go_simp
theorem rc_table1 {g : Nat} (ho : o.op = .fieldAddr 27 (.tmp t) 1) (h1 : b.eval (.tmp t) = .pointer (some ⟨g, 0, none⟩)) : (execOp b.eval o).run Try.prog W = .ok (.value (.pointer (some ⟨g, 1, none⟩))) W := by
  obtain ⟨dst, op, type, pos, after, guard⟩ := o
  dsimp only at ho
  subst ho
  simp only [execOp, h1]
  go_simp
theorem rc_class3 {g : Nat} (ho : o.op = .fieldAddr 57 (.tmp t) 3) (h1 : b.eval (.tmp t) = .pointer (some ⟨g, 0, none⟩)) : (execOp b.eval o).run Try.prog W = .ok (.value (.pointer (some ⟨g, 3, none⟩))) W := by
  obtain ⟨dst, op, type, pos, after, guard⟩ := o
  dsimp only at ho
  subst ho
  simp only [execOp, h1]
  go_simp
theorem rc_class4 {g : Nat} (ho : o.op = .fieldAddr 57 (.tmp t) 4) (h1 : b.eval (.tmp t) = .pointer (some ⟨g, 0, none⟩)) : (execOp b.eval o).run Try.prog W = .ok (.value (.pointer (some ⟨g, 5, none⟩))) W := by
  obtain ⟨dst, op, type, pos, after, guard⟩ := o
  dsimp only at ho
  subst ho
  simp only [execOp, h1]
  go_simp
theorem rc_loadInt {p : Addr} {n : Int} (ho : o.op = .load 3 (.tmp t)) (h1 : b.eval (.tmp t) = .pointer (some p)) (hc : W.cell? p = some (.int .i64 n)) : (execOp b.eval o).run Try.prog W = .ok (.value (.int .i64 n)) W := by
  obtain ⟨dst, op, type, pos, after, guard⟩ := o
  dsimp only at ho
  subst ho
  simp only [execOp, h1]
  go_simp
theorem rc_loadBool {p : Addr} {n : Bool} (ho : o.op = .load 4 (.tmp t)) (h1 : b.eval (.tmp t) = .pointer (some p)) (hc : W.cell? p = some (.bool n)) : (execOp b.eval o).run Try.prog W = .ok (.value (.bool n)) W := by
  obtain ⟨dst, op, type, pos, after, guard⟩ := o
  dsimp only at ho
  subst ho
  simp only [execOp, h1]
  go_simp
theorem rc_loadInts {p : Addr} {A : Option Addr} {n c : Nat} (ho : o.op = .load 25 (.tmp t)) (h1 : b.eval (.tmp t) = .pointer (some p)) (hc : W.cell? p = some (.slice A n c)) : (execOp b.eval o).run Try.prog W = .ok (.value (.slice A n c)) W := by
  obtain ⟨dst, op, type, pos, after, guard⟩ := o
  dsimp only at ho
  subst ho
  simp only [execOp, h1]
  go_simp
theorem rc_loadEdges {p : Addr} {A : Option Addr} {n c : Nat} (ho : o.op = .load 44 (.tmp t)) (h1 : b.eval (.tmp t) = .pointer (some p)) (hc : W.cell? p = some (.slice A n c)) : (execOp b.eval o).run Try.prog W = .ok (.value (.slice A n c)) W := by
  obtain ⟨dst, op, type, pos, after, guard⟩ := o
  dsimp only at ho
  subst ho
  simp only [execOp, h1]
  go_simp
theorem rc_loadLinks {p : Addr} {A : Option Addr} {n c : Nat} (ho : o.op = .load 55 (.tmp t)) (h1 : b.eval (.tmp t) = .pointer (some p)) (hc : W.cell? p = some (.slice A n c)) : (execOp b.eval o).run Try.prog W = .ok (.value (.slice A n c)) W := by
  obtain ⟨dst, op, type, pos, after, guard⟩ := o
  dsimp only at ho
  subst ho
  simp only [execOp, h1]
  go_simp
theorem rc_loadEdge {g k : Nat} {e : Ed} (ho : o.op = .load 43 (.tmp t)) (h1 : b.eval (.tmp t) = .pointer (some ⟨g, k, none⟩)) (hc : W.cell? ⟨g, k, none⟩ = some (.int .i64 e.1)) (hd : W.cell? ⟨g, k + 1, none⟩ = some (.int .i64 e.2)) : (execOp b.eval o).run Try.prog W = .ok (.value (edV e)) W := by
  obtain ⟨dst, op, type, pos, after, guard⟩ := o
  dsimp only at ho
  subst ho
  simp only [execOp, h1]
  go_simp
theorem rc_loadTable {g : Nat} {A1 A2 A3 : Option Addr} {n1 n2 n3 c1 c2 c3 : Nat} (ho : o.op = .load 27 (.tmp t)) (h1 : b.eval (.tmp t) = .pointer (some ⟨g, 0, none⟩)) (k0 : W.cell? ⟨g, 0, none⟩ = some (.slice A1 n1 c1)) (k1 : W.cell? ⟨g, 1, none⟩ = some (.slice A2 n2 c2)) (k2 : W.cell? ⟨g, 2, none⟩ = some (.slice A3 n3 c3)) : (execOp b.eval o).run Try.prog W = .ok (.value (.agg #[.slice A1 n1 c1, .slice A2 n2 c2, .slice A3 n3 c3])) W := by
  obtain ⟨dst, op, type, pos, after, guard⟩ := o
  dsimp only at ho
  subst ho
  simp only [execOp, h1]
  go_simp
theorem rc_indexInts {b0 off n c k : Nat} (ho : o.op = .indexAddr 25 (.tmp s) (.tmp t)) (h1 : b.eval (.tmp s) = .slice (some ⟨b0, off, none⟩) n c) (h2 : b.eval (.tmp t) = .int .i64 (k : Int)) (hk : k < n) : (execOp b.eval o).run Try.prog W = .ok (.value (.pointer (some ⟨b0, off + k, none⟩))) W := by
  have hk0 : (0 : Int) ≤ (k : Int) := by omega
  have hk1 : (k : Int) < (n : Int) := by omega
  obtain ⟨dst, op, type, pos, after, guard⟩ := o
  dsimp only at ho
  subst ho
  simp only [execOp, h1, h2]
  go_simp
theorem rc_indexEdges {b0 off n c k : Nat} (ho : o.op = .indexAddr 44 (.tmp s) (.tmp t)) (h1 : b.eval (.tmp s) = .slice (some ⟨b0, off, none⟩) n c) (h2 : b.eval (.tmp t) = .int .i64 (k : Int)) (hk : k < n) : (execOp b.eval o).run Try.prog W = .ok (.value (.pointer (some ⟨b0, off + k * 2, none⟩))) W := by
  have hk0 : (0 : Int) ≤ (k : Int) := by omega
  have hk1 : (k : Int) < (n : Int) := by omega
  obtain ⟨dst, op, type, pos, after, guard⟩ := o
  dsimp only at ho
  subst ho
  simp only [execOp, h1, h2]
  go_simp
theorem rc_len {A : Option Addr} {n c : Nat} (ho : o.op = .call { callee := .builtin .len, args := #[.tmp t], argTypes := #[22] }) (h1 : b.eval (.tmp t) = .slice A n c) : (execOp b.eval o).run Try.prog W = .ok (.value (.int .i64 (n : Int))) W := by
  obtain ⟨dst, op, type, pos, after, guard⟩ := o
  dsimp only at ho
  subst ho
  simp only [execOp, h1, resolve, invoke, builtin, List.map_toArray, List.map_cons, List.map_nil]
  go_simp
theorem rc_add {x y : Nat} {ty : TypeId} (ho : o.op = .binOp .add 3 (.tmp s) (.tmp t) ty) (h1 : b.eval (.tmp s) = .int .i64 (x : Int)) (h2 : b.eval (.tmp t) = .int .i64 (y : Int)) (hx : x ≤ 1000000) (hy : y ≤ 1000000) : (execOp b.eval o).run Try.prog W = .ok (.value (.int .i64 ((x + y : Nat) : Int))) W := by
  have hw : IntKind.i64.wrap ((x : Int) + (y : Int)) = (x : Int) + (y : Int) := IntWalk.i64_in _ ⟨by omega, by omega⟩
  obtain ⟨dst, op, type, pos, after, guard⟩ := o
  dsimp only at ho
  subst ho
  rw [Int.natCast_add]
  simp only [execOp, h1, h2]
  go_simp
theorem rc_rem {x y : Nat} {ty : TypeId} (ho : o.op = .binOp .rem 3 (.tmp s) (.tmp t) ty) (h1 : b.eval (.tmp s) = .int .i64 (x : Int)) (h2 : b.eval (.tmp t) = .int .i64 (y : Int)) (hy : y ≤ 1000000) (h0 : 1 ≤ y) : (execOp b.eval o).run Try.prog W = .ok (.value (.int .i64 ((x % y : Nat) : Int))) W := by
  have hr : (x : Int).tmod (y : Int) = ((x % y : Nat) : Int) := rfl
  have hlt := Nat.mod_lt x (show 0 < y by omega)
  have hw : IntKind.i64.wrap ((x % y : Nat) : Int) = ((x % y : Nat) : Int) := IntWalk.i64_in _ ⟨by omega, by omega⟩
  have hy0 : ((y : Int) == 0) = false := by simp; omega
  have hy1 : (y : Int) ≠ 0 := by omega
  obtain ⟨dst, op, type, pos, after, guard⟩ := o
  dsimp only at ho
  subst ho
  rw [← hr] at hw ⊢
  simp only [execOp, h1, h2]
  go_simp
  omega
theorem rc_build {k d : Int} {c : Bool} {t2 : Tmp} (ho : o.op = .build 57 #[(0, .tmp t), (1, .tmp s), (2, .tmp t2)]) (h1 : b.eval (.tmp t) = .int .i64 k) (h2 : b.eval (.tmp s) = .int .i64 d) (h3 : b.eval (.tmp t2) = .bool c) : (execOp b.eval o).run Try.prog W = .ok (.value (.agg (ndCells ⟨k, d, c, (0, 0), []⟩ (.slice none 0 0)))) W := by
  obtain ⟨dst, op, type, pos, after, guard⟩ := o
  dsimp only at ho
  subst ho
  simp only [execOp, List.map_toArray, List.map_cons, List.map_nil, h1, h2, h3]
  go_simp
end
theorem boxed_class (al st : Nat) (slot src : Tmp) (x : Nd) (A : Option Addr) (n c : Nat) : Boxed Try.prog ⟨slot, 57, ndCells ⟨0, 0, false, (0, 0), []⟩ (.slice none 0 0), ndCells x (.slice A n c), src, al, st⟩ := ⟨fun W => by kernel_rfl, by kernel_rfl, rfl, by simp [Value.oneCell']⟩
end Go.Proofs.Ytepjkoegbehojaa

/- The document's own Of of layer 7: as the classes are made. -/
namespace Go.Proofs.Ytepjkoegbehojaa
open Go.RowKit

/-- What stands in a round: the box of the node, the class's box, its links. -/
structure N5 (Wk : World) (Bn Bc : Nat) (x : Nd) (vx : Value) (y : Nd) (vn : Value) (W : World) : Prop where
  gr : Wk.grownBy W none
  bn : Blk W Bn 46 (ndCells x vx)
  bc : Blk W Bc 57 (ndCells y vn)
  ln : LOwn Wk.heap.size W vn y.next
  nb : Wk.heap.size ≤ Bn
  cb : Wk.heap.size ≤ Bc
section
variable {Wk W W' : World} {Bn Bc : Nat} {x y : Nd} {vx vn u : Value}
theorem N5.kept (h : N5 Wk Bn Bc x vx y vn W) (hg : W.grownBy W' none) : N5 Wk Bn Bc x vx y vn W' := ⟨only_trans h.gr hg, h.bn.kept hg, h.bc.kept hg, h.ln.kept0 hg, h.nb, h.cb⟩
theorem own_link_ne {base : Nat} {es : List Ed} {g : Nat} {t : TypeId} {cs : Array Value} (h : LOwn base W u es) (hb : Blk W g t cs) (ht : t ≠ 54) : u.ownBlock ≠ some g := fun e => by
  obtain ⟨_, cs', hb'⟩ := own_row h g e
  exact Blk.ne_ hb hb' ht rfl
/-- The link of what a channel carries. -/
theorem N5.pay (h : N5 Wk Bn Bc x vx y vn W) (l : Ed) : N5 Wk Bn Bc x vx { y with pay := l } vn ((W.setCell ⟨Bc, 3, none⟩ (.int .i64 l.1)).setCell ⟨Bc, 4, none⟩ (.int .i64 l.2)) := by
  have hs : W.grownBy ((W.setCell ⟨Bc, 3, none⟩ (.int .i64 l.1)).setCell ⟨Bc, 4, none⟩ (.int .i64 l.2)) (some Bc) := only_setCell (only_setCell (only_refl W (some Bc)) (p := ⟨Bc, 3, none⟩) rfl (.int .i64 l.1)) (p := ⟨Bc, 4, none⟩) rfl (.int .i64 l.2)
  have e5 : ((ndCells y vn).setIfInBounds 3 (.int .i64 l.1)).setIfInBounds 4 (.int .i64 l.2) = ndCells { y with pay := l } vn := rfl
  have hb5 := (h.bc.set_ 3 (.int .i64 l.1)).set_ 4 (.int .i64 l.2)
  rw [e5] at hb5
  refine ⟨only_setNew (only_setNew h.gr (p := ⟨Bc, 3, none⟩) h.cb _) (p := ⟨Bc, 4, none⟩) h.cb _, h.bn.grown hs (fun e => ?_), hb5, h.ln.kept hs (fun g e e' => ?_), h.nb, h.cb⟩
  · injection e with e
    exact Blk.ne_ h.bn h.bc (by decide) e
  · injection e' with e'
    subst e'
    exact own_link_ne h.ln h.bc (by decide) e
/-- A link more. -/
theorem N5.next (h : N5 Wk Bn Bc x vx y vn W) (hg : W.grownBy W' vn.ownBlock) {ls : List Ed} (ho : LOwn Wk.heap.size W' u ls) : N5 Wk Bn Bc x vx { y with next := ls } u (W'.setCell ⟨Bc, 5, none⟩ u) := by
  have g1 : Wk.grownBy W' none := grown_own h.gr (fun g e => (World.ownsRow.lt h.ln g e).1) hg
  have hc : Blk W' Bc 57 (ndCells y vn) := h.bc.grown hg (fun e => own_link_ne h.ln h.bc (by decide) e.symm)
  have hn : Blk W' Bn 46 (ndCells x vx) := h.bn.grown hg (fun e => own_link_ne h.ln h.bn (by decide) e.symm)
  have hs : W'.grownBy (W'.setCell ⟨Bc, 5, none⟩ u) (some Bc) := only_setCell (only_refl _ _) rfl _
  refine ⟨only_setNew g1 (p := ⟨Bc, 5, none⟩) h.cb _, hn.far (p := ⟨Bc, 5, none⟩) (Blk.ne_ hn hc (by decide)) _, hc.set_ 5 u, ho.kept hs (fun g e e' => ?_), h.nb, h.cb⟩
  injection e' with e'
  subst e'
  exact own_link_ne ho hc (by decide) e
/-- Between the append and the store. -/
theorem N5.mid (h : N5 Wk Bn Bc x vx y vn W) (hg : W.grownBy W' vn.ownBlock) : Wk.grownBy W' none ∧ Blk W' Bc 57 (ndCells y vn) ∧ Blk W' Bn 46 (ndCells x vx) :=
  ⟨grown_own h.gr (fun g e => (World.ownsRow.lt h.ln g e).1) hg, h.bc.grown hg (fun e => own_link_ne h.ln h.bc (by decide) e.symm), h.bn.grown hg (fun e => own_link_ne h.ln h.bn (by decide) e.symm)⟩
end

theorem LOwn.base_ {base base' : Nat} {W : World} {v : Value} {es : List Ed} (h : LOwn base W v es) (hb : base' ≤ base) : LOwn base' W v es :=
  ⟨h.1, h.2.imp id (fun ⟨g, cap, cur, h1, h2, h3⟩ => ⟨g, cap, cur, h1, Nat.le_trans hb h2, h3⟩)⟩
theorem row_base {base base' n k : Nat} {W : World} {v : Value} {t : TypeId} {us : List Value} (h : W.ownsRow base t k v n us) (hb : base' ≤ base) : W.ownsRow base' t k v n us :=
  ⟨h.1, h.2.imp id (fun ⟨g, cap, cur, h1, h2, h3⟩ => ⟨g, cap, cur, h1, Nat.le_trans hb h2, h3⟩)⟩
/-- A table of classes whose rows are of their own types. -/
structure TabR (W : World) (vc vo vp : Value) (cs : List (Nd × Value)) (T : ClsT) : Prop where
  cls : cs.map (·.1) = T.cls
  row : CTw 0 W vc cs
  oo : IOwn 0 W vo T.of_
  op : IOwn 0 W vp T.prio
  len : T.of_.length ≤ 1000 ∧ T.prio.length ≤ 1000
def TabO (W : World) (v : Value) (T : ClsT) : Prop := ∃ vc vo vp cs, v = .agg #[vc, vo, vp] ∧ TabR W vc vo vp cs T
theorem TabO.tab {W : World} {v : Value} {T : ClsT} (h : TabO W v T) : TabV W v T := by
  obtain ⟨vc, vo, vp, cs, h1, h⟩ := h
  exact ⟨vc, vo, vp, h1, h.cls ▸ h.row.tbl, h.oo.ints h.len.1, h.op.ints h.len.2⟩
theorem TabO.grown {W W' : World} {v : Value} {T : ClsT} {row : Option Nat} (h : TabO W v T) (hg : W.grownBy W' row) (hr : ∀ g, row = some g → ∃ t cells, Blk W g t cells ∧ t ≠ 57 ∧ t ≠ 54 ∧ t ≠ 3) : TabO W' v T := by
  obtain ⟨vc, vo, vp, cs, h1, h⟩ := h
  refine ⟨vc, vo, vp, cs, h1, h.cls, ⟨?_, fun p hp => (h.row.eds p hp).grown hg fun g e => ?_⟩, h.oo.other hg fun g e => ?_, h.op.other hg fun g e => ?_, h.len⟩
  · refine h.row.row.kept hg ?_
    cases e : vc.ownBlock with
    | none => exact .inl rfl
    | some g =>
      refine .inr fun e' => ?_
      obtain ⟨t, cells, hb, ht, _⟩ := hr g e'.symm
      obtain ⟨_, cs2, hb'⟩ := own_row h.row.row _ e
      exact Blk.ne_ hb hb' ht rfl
  · obtain ⟨t, cells, hb, _, ht, _⟩ := hr g e
    exact ⟨Nat.zero_le _, cells, t, hb, ht⟩
  all_goals
    obtain ⟨t, cells, hb, _, _, ht⟩ := hr g e
    exact ⟨t, cells, hb, ht⟩
theorem TabO.kept {W W' : World} {v : Value} {T : ClsT} (h : TabO W v T) (hg : W.grownBy W' none) : TabO W' v T := h.grown hg (fun _ e => by cases e)
/-- Classes, and what is numbered. -/
structure N4 (W3 : World) (vc v13 vo vp : Value) (fs os : List Nat) (ps : List Int) (cs : List (Nd × Value)) (W : World) : Prop where
  n : N3 W3 vc v13 vo vp fs os ps W
  ct : CTw W3.heap.size W vc cs
  lk : ∀ p ∈ cs, LnkO 0 W p.2 p.1.next
section
variable {W3 W W' : World} {vc v13 vo vp u : Value} {fs os : List Nat} {ps : List Int} {cs cs' : List (Nd × Value)}
theorem N4.kept (h : N4 W3 vc v13 vo vp fs os ps cs W) (hg : W.grownBy W' none) : N4 W3 vc v13 vo vp fs os ps cs W' := ⟨h.n.kept hg, h.ct.kept hg, fun p hp => (h.lk p hp).kept hg⟩
theorem N4.put {p : Nd × Value} (h : N4 W3 vc v13 vo vp fs os ps cs W) (hg : W.grownBy W' vc.ownBlock) (hE : LnkO 0 W p.2 p.1.next) (ho : CTw W3.heap.size W' u (cs ++ [p])) : N4 W3 u v13 vo vp fs os ps (cs ++ [p]) (W'.setCell ⟨W3.heap.size, 0, none⟩ u) := by
  have hn := h.n.far hg (fun g e => by
    obtain ⟨hb, cs2, hb'⟩ := own_row h.ct.row g e
    exact ⟨hb, _, cs2, hb', by decide, by decide⟩)
  have hs : W'.grownBy (W'.setCell ⟨W3.heap.size, 0, none⟩ u) (some W3.heap.size) := only_setCell (only_refl _ _) rfl _
  have hr : ∀ g, some W3.heap.size = some g → ∃ cs t, Blk W' g t cs ∧ t ≠ 54 := fun g e => by
    injection e with e
    subst e
    exact ⟨_, _, hn.bt, by decide⟩
  refine ⟨hn.box 0 u u rfl, ⟨?_, fun q hq => (ho.eds q hq).grown hs fun g e => ?_⟩, fun q hq => ?_⟩
  · refine ho.row.kept hs ?_
    cases e : u.ownBlock with
    | none => exact .inl rfl
    | some g =>
      refine .inr fun e' => ?_
      injection e' with e'
      subst e'
      obtain ⟨_, cs2, hb'⟩ := own_row ho.row _ e
      exact Blk.ne_ hn.bt hb' (by decide) rfl
  · obtain ⟨c, t, h1, h2⟩ := hr g e
    injection e with e
    exact ⟨by omega, c, t, h1, h2⟩
  · have hq1 : LnkO 0 W q.2 q.1.next := by
      rcases List.mem_append.1 hq with hq | hq
      · exact h.lk q hq
      · obtain rfl := List.mem_singleton.1 hq; exact hE
    refine (hq1.grown hg fun g e => ?_).grown hs fun g e => ?_
    · obtain ⟨_, cs2, hb'⟩ := own_row h.ct.row g e
      exact ⟨Nat.zero_le _, cs2, _, hb', by decide⟩
    · obtain ⟨c, t, h1, h2⟩ := hr g e
      exact ⟨Nat.zero_le _, c, t, h1, h2⟩
/-- The table is done: it is stored into the answer's box. -/
theorem N4.done {B : Nat} {bs : Array Value} (h : N4 W3 vc v13 vo vp fs os ps cs W) (hg : W.grownBy W' (some B)) (hB : Blk W B 27 bs) : CTw 0 W' vc cs ∧ IOwn 0 W' vo (os.map Int.ofNat) ∧ IOwn 0 W' vp ps := by
  have hne : ∀ g, some B = some g → ∃ t cs, Blk W g t cs ∧ t ≠ 3 := fun g e => by injection e with e; subst e; exact ⟨_, _, hB, by decide⟩
  have hct : CTw 0 W' vc cs := by
    refine ⟨?_, fun q hq => (h.lk q hq).grown hg fun g e => by injection e with e; subst e; exact ⟨Nat.zero_le _, _, _, hB, by decide⟩⟩
    have hr : W'.ownsRow W3.heap.size 57 6 vc cs.length (ndAll cs) := by
      refine h.ct.row.kept hg ?_
      cases e : vc.ownBlock with
      | none => exact .inl rfl
      | some g =>
        refine .inr fun e' => ?_
        injection e' with e'
        subst e'
        obtain ⟨_, cs2, hb'⟩ := own_row h.ct.row _ e
        exact Blk.ne_ hB hb' (by decide) rfl
    exact ⟨hr.1, hr.2.imp id (fun ⟨g, cap, cur, h1, _, h3⟩ => ⟨g, cap, cur, h1, Nat.zero_le _, h3⟩)⟩
  exact ⟨hct, row_base (h.n.oo.other hg hne) (Nat.zero_le _), row_base (h.n.op.other hg hne) (Nat.zero_le _)⟩
theorem N4.mid (h : N4 W3 vc v13 vo vp fs os ps cs W) (hg : W.grownBy W' vc.ownBlock) : Blk W' W3.heap.size 27 #[vc, vo, vp] :=
  (h.n.far hg (fun g e => by
    obtain ⟨hb, cs2, hb'⟩ := own_row h.ct.row g e
    exact ⟨hb, _, cs2, hb', by decide, by decide⟩)).bt
theorem cls_is {L : List Nd} {n f : Nat} {os : List Nat} {x : Nd} {cn : Nat} (hx : L[f]? = some x) (hc : os[(f + n) % L.length]? = some cn) : clsN L n os f = ⟨x.kind, (cn : Int), x.chan, if x.chan = true then linkL L os x x.pay else (0, 0), x.next.map (linkL L os x)⟩ := by
  unfold clsN
  rw [hx, List.getD_eq_getElem?_getD, hc]
  rfl
end
end Go.Proofs.Ytepjkoegbehojaa

/- The document's own Of of layer 7: what makes a link, step by step. -/
namespace Go.Proofs.Ytepjkoegbehojaa
open Go.RowKit

section
variable {o : Oper} {b : Act} {W : World} {K : Act → World → Prop} {Q : Exit → Act → World → Prop}
theorem wp_link {t1 t2 t3 t4 : Tmp} {c1 c2 c3 c4 : Value} {ts : Array TypeId} {R : Ending → World → Prop} (ho : o.op = .call { callee := .value (.func 32), args := #[.tmp t1, .tmp t2, .tmp t3, .tmp t4], argTypes := ts })
    (h1 : b.eval (.tmp t1) = c1) (h2 : b.eval (.tmp t2) = c2) (h3 : b.eval (.tmp t3) = c3) (h4 : b.eval (.tmp t4) = c4)
    (hc : Calls Try.prog 32 #[c1, c2, c3, c4] W R) (hR : ∀ e W', R e W' → ∃ x, e = .returned x ∧ K (b.put o.dst x) W') : o.wp Try.prog b W K Q := by
  have h1' : b.tmps[t1]?.getD undef = c1 := by simpa [Act.eval] using h1
  have h2' : b.tmps[t2]?.getD undef = c2 := by simpa [Act.eval] using h2
  have h3' : b.tmps[t3]?.getD undef = c3 := by simpa [Act.eval] using h3
  have h4' : b.tmps[t4]?.getD undef = c4 := by simpa [Act.eval] using h4
  obtain ⟨dst, op, type, pos, after, guard⟩ := o
  dsimp only at ho
  subst ho
  have hrun : ∀ args W, (callFunc 32 args).run Try.prog W = .ok (.enter 32 args) W := enters_of Try.func32 (by kernel_rfl) rfl
  have hr : (execOp b.eval ⟨dst, .call { callee := .value (.func 32), args := #[.tmp t1, .tmp t2, .tmp t3, .tmp t4], argTypes := ts }, type, pos, after, guard⟩).run Try.prog W = .ok (.enter 32 #[c1, c2, c3, c4]) W := by
    simp [execOp, resolve, Deferred.ofValue, invoke, Act.eval, h1', h2', h3', h4', hrun]
  unfold Oper.wp
  rw [hr, Oper.upon_enter]
  refine hc.mono fun e W' h => ?_
  obtain ⟨x, rfl, hk⟩ := hR e W' h
  exact hk
theorem wp_buildL {t : Tmp} {e : Ed} (ho : o.op = .buildSlice 55 1 #[(0, .tmp t)]) (h : b.eval (.tmp t) = edV e)
    (hK : K (b.put o.dst (.slice (some ⟨W.heap.size, 0, none⟩) 1 1)) (W.alloc (.cells (edCells e) 54))) : o.wp Try.prog b W K Q := by
  obtain ⟨dst, op, type, pos, after, guard⟩ := o
  dsimp only at ho
  subst ho
  have h' : b.tmps[t]?.getD undef = .agg #[.int .i64 e.1, .int .i64 e.2] := by simpa [Act.eval] using h
  unfold Oper.wp
  simp only [execOp]
  go_simp
  exact hK
theorem wp_appendL (s x : Operand) (ho : o.op = .call { callee := .builtin .append, args := #[s, x], argTypes := #[55, 55] })
    {base : Nat} {v : Value} {es : List Ed} {e : Ed} {g : Nat} (hs : b.eval s = v) (hx : b.eval x = .slice (some ⟨g, 0, none⟩) 1 1)
    (hot : LOwn base W v es) (hb : Blk W g 54 (edCells e)) (hn : es.length ≤ 1000) (hbase : base ≤ W.heap.size)
    (h : ∀ v' W', LOwn base W' v' (es ++ [e]) → W.grownBy W' v.ownBlock → K (b.put o.dst v') W') : o.wp Try.prog b W K Q := by
  obtain ⟨i0, hi, hz0, hz1, hz2⟩ := info_parts link_info
  refine wp_append_own W s x 55 ho base 54 i0 _ 2 16 Try.underlying55 hi hz0 hz1 hz2 rfl (by decide) v es.length (edAll es) hs hot
    ⟨g, 0, none⟩ 1 1 (edCells e).toList hx rfl (fun j u hu => ?_) (fun u hu => ?_) (by unfold maxLen; omega) (by omega) hbase (fun v' W' hr hg _ => h v' W' ?_ hg)
  · rw [addr_plain, Nat.zero_add, hb.cell j, ← hu]; simp
  · exact edAll_one [e] u (by simpa [edAll] using hu)
  · show World.ownsRow _ _ _ _ _ _ _
    rw [List.length_append, edAll_snoc]; exact hr
theorem wp_storeL {t u : Tmp} {g : Nat} {y : Nd} {vn : Value} {e : Ed} (ho : o.op = .store 54 (.tmp t) (.tmp u)) (ht : b.eval (.tmp t) = .pointer (some ⟨g, 3, none⟩)) (h : b.eval (.tmp u) = edV e)
    (hb : Blk W g 57 (ndCells y vn)) (hK : K (b.put o.dst undef) ((W.setCell ⟨g, 3, none⟩ (.int .i64 e.1)).setCell ⟨g, 4, none⟩ (.int .i64 e.2))) : o.wp Try.prog b W K Q := by
  obtain ⟨dst, op, type, pos, after, guard⟩ := o
  dsimp only at ho
  subst ho
  have c3 : W.cell? ⟨g, 3, none⟩ = some (.int .i64 y.pay.1) := hb.cell 3
  have c4 : W.cell? ⟨g, 4, none⟩ = some (.int .i64 y.pay.2) := hb.cell 4
  have f3 := hb.frozen 3
  have f4 := hb.frozen 4
  unfold Oper.wp
  simp only [execOp, h, ht]
  go_simp
  exact hK
theorem wp_storeLs {t u : Tmp} {g : Nat} {y : Nd} {A0 A : Option Addr} {n0 c0 n c : Nat} (ho : o.op = .store 55 (.tmp t) (.tmp u)) (ht : b.eval (.tmp t) = .pointer (some ⟨g, 5, none⟩)) (h : b.eval (.tmp u) = .slice A n c)
    (hb : Blk W g 57 (ndCells y (.slice A0 n0 c0))) (hK : K (b.put o.dst undef) (W.setCell ⟨g, 5, none⟩ (.slice A n c))) : o.wp Try.prog b W K Q := by
  obtain ⟨dst, op, type, pos, after, guard⟩ := o
  dsimp only at ho
  subst ho
  have c5 : W.cell? ⟨g, 5, none⟩ = some (.slice A0 n0 c0) := hb.cell 5
  have f5 := hb.frozen 5
  unfold Oper.wp
  simp only [execOp, h, ht]
  go_simp
  exact hK
end
theorem act_put_atC {b : Act} {t : Tmp} (x : Value) (h : t < b.tmps.size) : (b.put (some t) x).tmps.getD t undef = x := by simp [Act.put, h]
/-- What stands, step by step, as the link of what a channel carries is made. -/
def TP (X : World) (Bc : Nat) (l : Ed) : Nat → (Tmp → Value) → World → Prop
  | 0, _, W => X.grownBy W none
  | 1, f, W => f 207 = edV l ∧ X.grownBy W none
  | 2, _, W => ∃ W1, W = (W1.setCell ⟨Bc, 3, none⟩ (.int .i64 l.1)).setCell ⟨Bc, 4, none⟩ (.int .i64 l.2) ∧ X.grownBy W1 none
  | _, _, _ => False
/-- And as the link of a next edge is made. -/
def TL (X : World) (base Bc : Nat) (vn : Value) (es : List Ed) (l : Ed) : Nat → (Tmp → Value) → World → Prop
  | 0, _, W => X.grownBy W none
  | 1, f, W => f 229 = edV l ∧ X.grownBy W none
  | 2, f, W => ∃ g, f 230 = .slice (some ⟨g, 0, none⟩) 1 1 ∧ Blk W g 54 (edCells l) ∧ X.grownBy W none
  | 3, f, W => ∃ v' W1, f 231 = v' ∧ X.grownBy W1 none ∧ W1.grownBy W vn.ownBlock ∧ LOwn base W v' (es ++ [l])
  | 4, _, W => ∃ v' W1 W2, W = W2.setCell ⟨Bc, 5, none⟩ v' ∧ X.grownBy W1 none ∧ W1.grownBy W2 vn.ownBlock ∧ LOwn base W2 v' (es ++ [l])
  | _, _, _ => False
/-- What the reads want. -/
structure RdL (Wk : World) (Bt Bc : Nat) (x : Nd) (vx : Value) (y : Nd) (vn vc vo vp : Value) (W : World) : Prop where
  gr : Wk.grownBy W none
  bn : Blk W Wk.heap.size 46 (ndCells x vx)
  bc : Blk W Bc 57 (ndCells y vn)
  tb : Blk W Bt 27 #[vc, vo, vp]
theorem rlink_is {L : List Nd} (hL : TW L) (hl : L.length ≤ 128) {v : Value} {a : Nat} {x : Nd} (hx : L[a]? = some x) {e : Ed} (he : e ∈ allE x) {os : List Nat} (hos : os.length = L.length) {vc vo vp : Value} {w : World} (hT : Tbl w v L) (hO : Ints w vo (os.map Int.ofNat)) :
    Calls Try.prog 32 #[v, .agg #[vc, vo, vp], .int .i64 (a : Int), edV e] w fun en w' => en = .returned (edV (linkL L os x e)) ∧ w.grownBy w' none := by
  have := rlink_any L hL hl v a x hx e he (os.map Int.ofNat) (by rw [List.length_map]; exact hos) vc vo vp w hT hO
  rw [getD_ofNat] at this
  exact this
end Go.Proofs.Ytepjkoegbehojaa

/- Texts joined for the claim's sake: DOwn, VLaw. -/
import Derived.Test.YtmhbmeckdbdhpaaZSKnwRow9
import Derived.Laws.OwnMore
import Derived.OwnWalk
import Derived.Test.YtmhbmeckdbdhpaaZSKnwRow0
import Derived.RangeFuncFrom
namespace Go.Proofs.Ytmhbmeckdbdhpaa
open Go.RowKit

/-- The block that an append answers with is the one it was, or a new one. -/
theorem append_blockG {W : World} {ty e t : TypeId} {i : TypeInfo} {z : Value} (ht : Try.prog.underlying t = some (.slice e)) (hi : Try.prog.info? e = some i) (hz : i.zero = some z) (hsz : 0 < i.size)
    {base : Nat} {v : Value} {n : Nat} {xs : List Value} (hown : W.ownsRow base e i.size v n xs) {a : Addr} {m c : Nat} {news : List Value} (hl : news.length = m * i.size) (hnews : ∀ j u, news[j]? = some u → W.cell? (a.add j) = some u) (h1 : ∀ u ∈ news, u.oneCell' = true)
    (hzs : z.cells.size = i.size) (h63 : n + m ≤ maxLen) (hbytes : (n + m) * i.bytes ≤ 140737488355328) {v' : Value} {W' : World}
    (hr : (Builtin.append_ #[t, t] ty #[v, .slice (some a) m c]).run Try.prog W = .ok v' W') : ∀ g, v'.ownBlock = some g → v.ownBlock = some g ∨ W.heap.size ≤ g := by
  intro g hg
  have hsmall : n + m ≤ 9223372036854775807 := Nat.le_trans h63 (by decide)
  rcases hown.2 with ⟨rfl, rfl⟩ | ⟨g0, cap, cur, rfl, hbg, hb, hnc, hcm, hcs, htake⟩
  · obtain ⟨v2, W2, hr2, ho2, _, _⟩ := run_append_own (P := Try.prog) W W.heap.size t ty e i z i.size i.bytes ht hi hz rfl rfl hzs hsz _ 0 xs ⟨by simpa using hown.1, .inl ⟨rfl, rfl⟩⟩ a m c news hl hnews h1 h63 hbytes (Nat.le_refl _)
    rw [hr] at hr2
    cases hr2
    exact .inr (World.ownsRow.lt ho2 g hg).1
  · by_cases hroom : n + m ≤ cap
    · have hfit : n * i.size + news.length ≤ cur.size := by rw [hl, hcs, ← Nat.add_mul]; exact Nat.mul_le_mul_right _ hroom
      have hr2 := run_append_room (P := Try.prog) W t ty e i ht hi g0 n cap cur hb a m c news hl hnews h1 hroom hfit
      rw [hr] at hr2
      cases hr2
      exact .inl hg
    · have hr2 := run_append_grow (P := Try.prog) W t ty e i z ht hi hz ⟨g0, 0, none⟩ n cap xs hown.1 (hown.cells (g := g0) rfl) a m c news hl hnews (by omega) (by omega) (growslice_fits (by omega) hbytes)
      rw [hr] at hr2
      cases hr2
      have : W.heap.size = g := by simpa [Value.ownBlock] using hg
      exact .inr (by omega)
/-- One edge more, appended; and where the row lies then. -/
theorem wpList_append_edgeB {ops : Array Oper} {rest : List Oper} {o : Oper} {a : Act} {W : World} {Q : Exit → Act → World → Prop} (hgd : o.guard = none) (s x : Operand)
    (ho : o.op = .call { callee := .builtin .append, args := #[s, x], argTypes := #[68, 68] })
    {base : Nat} {v : Value} {es : List Ed} {e : Ed} {g : Nat} (hs : a.eval s = v) (hx : a.eval x = .slice (some ⟨g, 0, none⟩) 1 1)
    (hot : EOwn base W v es) (hb : Blk W g 67 (edCells e)) (hn : es.length ≤ 1000) (hbase : base ≤ W.heap.size)
    (h : ∀ v' W', EOwn base W' v' (es ++ [e]) → W.grownBy W' v.ownBlock → (∀ g, v'.ownBlock = some g → v.ownBlock = some g ∨ W.heap.size ≤ g) → wpList Try.prog ops Q rest (a.put o.dst v') W') : wpList Try.prog ops Q (o :: rest) a W := by
  obtain ⟨i0, hi, hz0, hz1, hz2⟩ := info_parts edge_info
  have hnews : ∀ j u, (edCells e).toList[j]? = some u → W.cell? ((⟨g, 0, none⟩ : Addr).add j) = some u := fun j u hu => by rw [addr_plain, Nat.zero_add, hb.cell j, ← hu]; simp
  have hone : ∀ u ∈ (edCells e).toList, u.oneCell' = true := fun u hu => edAll_one [e] u (by simpa [edAll] using hu)
  have hown : W.ownsRow base 67 i0.size v es.length (edAll es) := by rw [hz1]; exact hot
  have hbk := fun {v' : Value} {W' : World} => append_blockG (W := W) (ty := o.type) (t := 68) Try.underlying68 hi hz0 (by rw [hz1]; decide) hown (a := ⟨g, 0, none⟩) (m := 1) (c := 1) (by rw [hz1]; rfl) hnews hone (by rw [hz1]; rfl) (by unfold maxLen; omega) (by rw [hz2]; omega) (v' := v') (W' := W')
  refine wpList_plain hgd fun K hK => ?_
  obtain ⟨v', W', hr, h2, h3, _⟩ := run_append_own (P := Try.prog) W base 68 o.type 67 i0 _ 2 16 Try.underlying68 hi hz0 hz1 hz2 rfl (by decide) v es.length (edAll es) hot ⟨g, 0, none⟩ 1 1 (edCells e).toList rfl hnews hone (by unfold maxLen; omega) (by omega) hbase
  have hbl := hbk hr
  unfold Oper.wp execOp
  simp only [ho, resolve, invoke, builtin, Sem.run_bind, Sem.run_pure, Result.andThen_ok, List.map_toArray, List.map_cons, List.map_nil, hs, hx, hr]
  refine hK _ _ (h v' W' ?_ h3 hbl)
  show World.ownsRow _ _ _ _ _ _ _
  rw [List.length_append, edAll_snoc]; exact h2

/-- Two rows of edges, each in a block of its own. -/
structure E2 (base : Nat) (W : World) (u v : Value) (es fs : List Ed) : Prop where
  o1 : EOwn base W u es
  o2 : EOwn base W v fs
  n : ∀ g, u.ownBlock = some g → v.ownBlock ≠ some g
section
variable {base : Nat} {W W' : World} {u v u' : Value} {es fs es' : List Ed}
theorem E2.start (base : Nat) (W : World) : E2 base W (.slice none 0 0) (.slice none 0 0) [] [] := ⟨EOwn.nil_ _ _, EOwn.nil_ _ _, (fun _ h => by cases h)⟩
theorem E2.kept (h : E2 base W u v es fs) (hg : W.grownBy W' none) : E2 base W' u v es fs := ⟨h.o1.kept0 hg, h.o2.kept0 hg, h.n⟩
end

/-! ### a table made of zeros, and nodes that are stored into it -/
theorem ndAll_set_ {p : Nd × Value} {x : Nd} {e u : Value} {j : Nat} (hj : j < 6) (hset : (ndCells p.1 p.2).toList.set j u = (ndCells x e).toList) : ∀ {ns : List (Nd × Value)} {k : Nat}, ns[k]? = some p → (ndAll ns).set (k * 6 + j) u = ndAll (ns.set k (x, e))
  | [], k, h => by simp at h
  | q :: ns, 0, h => by
    simp only [List.getElem?_cons_zero, Option.some.injEq] at h
    subst h
    simp only [ndAll, List.flatMap_cons, List.set_cons_zero, Nat.zero_mul, Nat.zero_add]
    rw [List.set_append, if_pos (by show j < 6; omega), hset]
  | q :: ns, k + 1, h => by
    have hq : (ndCells q.1 q.2).toList.length = 6 := rfl
    have ih := ndAll_set_ hj hset (ns := ns) (k := k) (by simpa using h)
    simp only [ndAll, List.flatMap_cons, List.set_cons_succ] at ih ⊢
    rw [List.set_append, if_neg (by rw [hq]; omega), hq, show (k + 1) * 6 + j - 6 = k * 6 + j by omega, ih]
section
variable {base : Nat} {W W' : World} {g cap n : Nat} {ns : List (Nd × Value)} {k : Nat} {p : Nd × Value}
/-- A row of edges, where the table's own row is turned. -/
theorem OT.edges_kept {v : Value} {e : Value} {es : List Ed} (h : OT base W v ns) (hE : EdgesO base W e es) (hg : W.grownBy W' v.ownBlock) : EdgesO base W' e es :=
  hE.grown hg (fun g' e' => by
    obtain ⟨hb', cs, hblk⟩ := own_row h.row g' e'
    exact ⟨hb', cs, _, hblk, by decide⟩)
/-- Cell j of node k is written. -/
theorem OT.putc (h : OT base W (.slice (some ⟨g, 0, none⟩) n cap) ns) (hn : ns.length = n) (hk : ns[k]? = some p) (j : Nat) (hj : j < 6) (u : Value) (x : Nd) (e : Value) (hset : (ndCells p.1 p.2).toList.set j u = (ndCells x e).toList) (hE : EdgesO base W e x.next) :
    OT base (W.setCell ⟨g, k * 6 + j, none⟩ u) (.slice (some ⟨g, 0, none⟩) n cap) (ns.set k (x, e)) ∧ W.grownBy (W.setCell ⟨g, k * 6 + j, none⟩ u) (some g) := by
  subst hn
  obtain ⟨hst, hgs⟩ := h.row.stored (k * 6 + j) u
  refine ⟨⟨?_, fun q hq => ?_⟩, hgs⟩
  · rw [List.length_set, ← ndAll_set_ hj hset hk]; exact hst
  · rcases List.mem_or_eq_of_mem_set hq with hq | rfl
    · exact h.edges_kept (h.eds q hq) hgs
    · exact h.edges_kept hE hgs
/-- What a node's cells hold. -/
theorem OT.cells (h : OT base W (.slice (some ⟨g, 0, none⟩) n cap) ns) (hk : ns[k]? = some p) (j : Nat) (hj : j < 6) : ∃ u, (ndCells p.1 p.2).toList[j]? = some u ∧ W.cell? ⟨g, k * 6 + j, none⟩ = some u := by
  have hu : (ndCells p.1 p.2).toList[j]? = some ((ndCells p.1 p.2).toList[j]'hj) := List.getElem?_eq_getElem hj
  refine ⟨_, hu, ?_⟩
  have := h.row.cells (g := g) rfl (k * 6 + j) _ ((ndAll_at hk j hj).trans hu)
  rwa [addr_plain, Nat.zero_add] at this
theorem OT.six (h : OT base W (.slice (some ⟨g, 0, none⟩) n cap) ns) (hn : ns.length = n) (hk : ns[k]? = some p) : (W.cell? ⟨g, k * 6, none⟩ = some (.int .i64 p.1.kind) ∧ W.cell? ⟨g, k * 6 + 1, none⟩ = some (.int .i64 p.1.prio) ∧ W.cell? ⟨g, k * 6 + 2, none⟩ = some (.bool p.1.chan) ∧
    W.cell? ⟨g, k * 6 + 3, none⟩ = some (.int .i64 p.1.pay.1) ∧ W.cell? ⟨g, k * 6 + 4, none⟩ = some (.int .i64 p.1.pay.2) ∧ W.cell? ⟨g, k * 6 + 5, none⟩ = some p.2) ∧
    (W.frozen? ⟨g, k * 6, none⟩ = false ∧ W.frozen? ⟨g, k * 6 + 1, none⟩ = false ∧ W.frozen? ⟨g, k * 6 + 2, none⟩ = false ∧ W.frozen? ⟨g, k * 6 + 3, none⟩ = false ∧ W.frozen? ⟨g, k * 6 + 4, none⟩ = false ∧ W.frozen? ⟨g, k * 6 + 5, none⟩ = false) := by
  have c := fun j hj => h.cells (g := g) hk j hj
  have fz : ∀ j, W.frozen? ⟨g, j, none⟩ = false := fun j => by subst hn; exact h.row.frozenAt j
  refine ⟨⟨?_, ?_, ?_, ?_, ?_, ?_⟩, fz _, fz _, fz _, fz _, fz _, fz _⟩
  · obtain ⟨u, hu, hc⟩ := c 0 (by omega); cases hu; exact hc
  · obtain ⟨u, hu, hc⟩ := c 1 (by omega); cases hu; exact hc
  · obtain ⟨u, hu, hc⟩ := c 2 (by omega); cases hu; exact hc
  · obtain ⟨u, hu, hc⟩ := c 3 (by omega); cases hu; exact hc
  · obtain ⟨u, hu, hc⟩ := c 4 (by omega); cases hu; exact hc
  · obtain ⟨u, hu, hc⟩ := c 5 (by omega); cases hu; exact hc
theorem OT.frozen (h : OT base W (.slice (some ⟨g, 0, none⟩) n cap) ns) (hn : ns.length = n) (j : Nat) : W.frozen? ⟨g, j, none⟩ = false := by subst hn; exact h.row.frozenAt j
end
end Go.Proofs.Ytmhbmeckdbdhpaa

namespace Go.Proofs.Ytmhbmeckdbdhpaa
open Go.RowKit

variable {F : Fence} {n : Nat} {P : Program}

/-- What lies below B stays as it is; of the rest, what is of none of these types. -/
structure KB (B : Nat) (ts : List TypeId) (X Y : World) : Prop where
  size : X.heap.size ≤ Y.heap.size
  low : ∀ k, k < B → k < X.heap.size → Y.heap[k]? = X.heap[k]?
  typ : ∀ k t cs, Blk X k t cs → t ∉ ts → Blk Y k t cs
theorem KB.refl (B : Nat) (ts : List TypeId) (X : World) : KB B ts X X := ⟨Nat.le_refl _, fun _ _ _ => rfl, fun _ _ _ h _ => h⟩
theorem KB.trans {B : Nat} {ts : List TypeId} {X Y Z : World} (h : KB B ts X Y) (k : KB B ts Y Z) : KB B ts X Z :=
  ⟨Nat.le_trans h.size k.size, fun i hi hx => (k.low i hi (Nat.lt_of_lt_of_le hx h.size)).trans (h.low i hi hx), fun i t cs hb ht => k.typ i t cs (h.typ i t cs hb ht) ht⟩
theorem KB.grown {B : Nat} {ts : List TypeId} {X Y : World} (h : X.grownBy Y none) : KB B ts X Y := ⟨h.size, fun k _ hk => h.block k hk (fun e => by cases e), fun _ _ _ hb _ => hb.kept h⟩
theorem KB.alloc {B : Nat} {ts : List TypeId} (X : World) (o : Obj) : KB B ts X (X.alloc o) := .grown (World.grownBy_alloc X o none)
theorem KB.putObj {B : Nat} {ts : List TypeId} (X : World) (l : Nat) (o o' : Obj) (hl : B ≤ l) (ho : X.heap[l]? = some o) (hc : o.isCells = false) : KB B ts X (X.putObj l o') :=
  ⟨by simp, fun k hk _ => World.putObj_heap_other (by omega), fun k t cs hb _ => hb.keeps (.putObj o' ho hc)⟩
/-- Where it lies below B, or of another type. -/
theorem KB.row {B : Nat} {ts : List TypeId} {X Y : World} {row : Option Nat} (h : X.grownBy Y row) (hr : ∀ g, row = some g → B ≤ g ∧ ∃ t cs, Blk X g t cs ∧ t ∈ ts) : KB B ts X Y :=
  ⟨h.size, fun k hk hx => h.block k hx (fun e => by have := (hr k e.symm).1; omega), fun k t cs hb ht => hb.grown h (fun e => by
    obtain ⟨_, t', cs', hb', ht'⟩ := hr k e.symm
    unfold Blk at hb hb'
    rw [hb] at hb'
    cases hb'
    exact ht ht')⟩
theorem KB.keep {B : Nat} {ts : List TypeId} {X Y : World} (h : KB B ts X Y) {a : Addr} {v : Value} (ha : a.block < B) (hc : X.cell? a = some v) : Y.cell? a = some v := by
  have hlt : a.block < X.heap.size := by
    rcases Nat.lt_or_ge a.block X.heap.size with hl | hl
    · exact hl
    · unfold World.cell? at hc
      rw [Array.getElem?_eq_none hl] at hc
      simp at hc
  rw [World.cell?_of_block (h.low _ ha hlt)]
  exact hc

/-- What the function owes: it tells L's things, one by one; J, what its caller keeps, stays as boxes are made; Kp, what a round that goes on keeps; T0, what holds ahead. -/
def TellsO {α : Type} (F : Fence) (n : Nat) (P : Program) (gf : Nat) (lb : Array Value) (encs : α → Array Value) (Kp : World → World → Prop) (T0 : World → Prop) (L : List α) : Prop :=
  ∀ (l : Nat) (J Jx : List α → World → Prop) (W : World), (∀ s X Y, J s X → X.grownBy Y none → J s Y) →
    (∀ pre x X, pre ++ [x] <+: L → J pre X → YieldAt F (n - 1) P l (encs x) X fun e Y => (e = .returned (.bool true) ∧ J (pre ++ [x]) Y ∧ Kp X Y) ∨ (e = .returned (.bool false) ∧ Jx (pre ++ [x]) Y)) →
    J [] W → T0 W →
    CallsIn F n P gf (#[.func (.yield l) #[] #[]] ++ lb) W fun e Y => (∃ v, e = .returned v) ∧ (J L Y ∨ ∃ pre, pre <+: L ∧ pre ≠ [] ∧ Jx pre Y)

/-- What the caller owes. -/
theorem wpIn_rangeFunc_told {α : Type} {g : Operand} {ps : Array Tmp} {assign body : Code} {Q : Exit → Act → World → Prop} {a : Act} {w : World}
    (hro : F.round = none) (h1 : 1 ≤ n) {gf : Nat} {lb : Array Value} (hg : a.eval g = .func (.func gf) #[] lb) (hFg : F.fn gf) (eg : ∀ args w, (callFunc gf args).run P w = .ok (.enter gf args) w)
    {encs : α → Array Value} {Kp : World → World → Prop} {T0 : World → Prop} {L : List α} (hseq : TellsO F (n - 1) P gf lb encs Kp T0 L)
    (hKt : ∀ {A B C : World}, Kp A B → Kp B C → Kp A C) (hKp : ∀ (W : World) (l : Nat) (o o' : Obj), w.heap.size ≤ l → W.heap[l]? = some o → o.isCells = false → Kp W (W.putObj l o')) (hKa : ∀ (W : World) (o : Obj), Kp W (W.alloc o))
    (hps : ∀ x, (encs x).size = ps.size) (hT0 : ∀ W, Below w.heap.size w W → T0 W)
    (I : List α → World → Prop) (Ix : Code → List α → World → Prop) (hI : OwnFrom w.heap.size I) (hIx : ∀ c, OwnFrom w.heap.size (Ix c))
    (h0 : I [] w) (T : TypeId) (cs : α → Array Value) (a₁ : α → Nat → Act)
    (hassign : ∀ (l : Nat) (x : α) (W : World) (K : Act → World → Prop), K (a₁ x W.heap.size) (W.alloc (.cells (cs x) T)) →
      assign.wpIn (F.inRound l) (n - 1 - 1) P (Exit.then K (fun _ _ _ => False)) { tmps := (ps.zip (encs x)).foldl (fun t (p, v) => t.setIfInBounds p v) a.tmps, defers := [] } W)
    (hbody : ∀ (l : Nat) (pre : List α) (x : α) (W : World) (Bx : Nat), pre ++ [x] <+: L → w.heap.size ≤ Bx → I pre W → Blk W Bx T (cs x) → body.wpIn (F.inRound l) (n - 1 - 1) P (ownPostG w.heap.size Kp I Ix (pre ++ [x]) W) (a₁ x Bx) W)
    (hdone : ∀ (D : Nat) (W : World), w.heap.size ≤ D → I L W → W.heap[D]? = some (.deferred (some [])) → Q .normal { a with defers := { target := .collected D, args := #[] } :: a.defers } W)
    (hstop : ∀ (D : Nat) (c : Code) (pre : List α) (W : World), w.heap.size ≤ D → pre <+: L → pre ≠ [] → Ix c pre W → W.heap[D]? = some (.deferred (some [])) → c.wpIn F n P Q { a with defers := { target := .collected D, args := #[] } :: a.defers } W) :
    (Code.rangeFunc g ps assign body).wpIn F n P Q a w := by
  refine wpIn_rangeFunc fun fn hfn => ?_
  rw [hro]
  obtain ⟨rec, hrec⟩ : ∃ rec : LoopState → Option Code → Loop, rec = fun st pe => { state := st, pending := pe, fn, tmps := a.tmps, params := ps, assign, body, defers := w.heap.size } := ⟨_, rfl⟩
  obtain ⟨W1, hW1⟩ : ∃ W1, (w.alloc (.deferred (some []))).alloc (.loop (rec .ready none)) = W1 := ⟨_, rfl⟩
  have L0 : LaidAt rec w.heap.size .ready none W1 := by
    rw [← hW1]
    refine ⟨?_, (Below.heap_alloc _ _ _ (by simp)).trans (World.alloc_heap_new w _)⟩
    have := World.alloc_heap_new (w.alloc (.deferred (some []))) (.loop (rec .ready none))
    rwa [World.size_alloc] at this
  have hb1 : Below w.heap.size w W1 := hW1 ▸ ((Below.refl _ _).alloc (Nat.le_refl _) _).alloc (by simp) _
  have hz1 : W1.heap.size = w.heap.size + 2 := by rw [← hW1]; simp
  have I0 : I [] W1 := hW1 ▸ hI.alloc (.loop (rec .ready none)) (hI.alloc (.deferred (some [])) h0)
  refine ⟨w.heap.size + 1, [{ target := .collected w.heap.size, args := #[] }], W1, { target := .fn (.func gf) lb, args := #[.func (.yield (w.heap.size + 1)) #[] #[]] }, W1, gf,
    #[.func (.yield (w.heap.size + 1)) #[] #[]] ++ lb, W1, ?_, ?_, ?_, ?_, fun _ => h1, ?_⟩
  · rw [← hW1, hrec]
    exact run_enterLoop_outer _ _ _ _ _
  · simp only [resolve, hg]
    simp [go_sem]
  · intro f' hf'
    simp [Target.leads] at hf'
    exact hf' ▸ hFg
  · simp [invoke, go_sem, eg]
  clear hW1
  refine (hseq (w.heap.size + 1) (fun pre W => I pre W ∧ LaidAt rec w.heap.size .ready none W) (fun pre W => ∃ c, Ix c pre W ∧ LaidAt rec w.heap.size .done (some c) W) W1
    (fun s X Y ⟨hi, hl⟩ hs => ⟨hI s X Y none hi hs (fun r e => by cases e), hl.keep (Nat.le_refl _) (only_keepsFrom hs _)⟩) ?_ ⟨I0, L0⟩ (hT0 _ hb1)).mono ?_
  · rintro pre x X hx ⟨hi, hl⟩
    have hy := run_yield (P := P) (args := encs x) hl.1 (by rw [hrec]; exact hps x)
    rw [hrec] at hy
    refine ⟨fn, _, assign, body, hy, roundIn_of_wpIn hfn (hassign _ x X _ ?_)⟩
    have hXD : w.heap.size + 1 < X.heap.size := (Array.getElem?_eq_some_iff.1 hl.1).1
    have bX := Blk.new X T (cs x)
    have kX := hKa X (.cells (cs x) T)
    have hl0 : LaidAt rec w.heap.size .ready none (X.alloc (.cells (cs x) T)) := hl.keep (Nat.le_refl _) ((KeepsOthers.alloc X _).from _)
    have hi0 : I pre (X.alloc (.cells (cs x) T)) := hI.alloc _ hi
    generalize X.alloc (.cells (cs x) T) = X' at *
    have hb := run_beginRound (P := P) hl0.1 (by rw [hrec])
    have hbusy : ({ rec .ready none with state := .busy } : Loop) = rec .busy none := by rw [hrec]
    rw [hbusy] at hb
    have hl2 : LaidAt rec w.heap.size .busy none (X'.putObj (w.heap.size + 1) (.loop (rec .busy none))) := hl0.put
    have hi2 := hI.putObj (.loop (rec .busy none)) hi0 (Nat.le_succ _) hl0.1 rfl
    have bX2 : Blk (X'.putObj (w.heap.size + 1) (.loop (rec .busy none))) X.heap.size T (cs x) := bX.keeps (.putObj _ hl0.1 rfl)
    have kX2 := hKt kX (hKp X' (w.heap.size + 1) _ (.loop (rec .busy none)) (Nat.le_succ _) hl0.1 rfl)
    refine ⟨_, hb, wpIn_mono (hbody _ pre x _ X.heap.size hx (by omega) hi2 bX2) ?_⟩
    have fin : ∀ (j : Option Code) (Y : World), KeepsFrom w.heap.size (X'.putObj (w.heap.size + 1) (.loop (rec .busy none))) Y →
        LaidAt rec w.heap.size .busy none Y ∧ (Instr.endRound (w.heap.size + 1) j).run P Y = .ok (.bool j.isNone) (Y.putObj (w.heap.size + 1) (.loop (rec (if j.isNone then .ready else .done) j))) := fun j Y hk => by
      have h2 := hl2.keep (Nat.le_refl _) hk
      refine ⟨h2, ?_⟩
      have := run_endRound (P := P) j h2.1
      rw [hrec] at this ⊢
      exact this
    have out : ∀ (c : Code) (Y : World), KeepsFrom w.heap.size (X'.putObj (w.heap.size + 1) (.loop (rec .busy none))) Y → Ix c (pre ++ [x]) Y →
        ∃ v Y', (Instr.endRound (w.heap.size + 1) (some c)).run P Y = .ok v Y' ∧ ((Ending.returned v = .returned (.bool true) ∧ (I (pre ++ [x]) Y' ∧ LaidAt rec w.heap.size .ready none Y') ∧ Kp X Y') ∨ (Ending.returned v = .returned (.bool false) ∧ ∃ c, Ix c (pre ++ [x]) Y' ∧ LaidAt rec w.heap.size .done (some c) Y')) := fun c Y hk hx => by
      obtain ⟨h2, hr⟩ := fin (some c) Y hk
      exact ⟨_, _, hr, .inr ⟨rfl, c, (hIx c).putObj _ hx (Nat.le_succ _) h2.1 rfl, h2.put⟩⟩
    intro e a3 Y hp
    cases e with
    | normal =>
      obtain ⟨hk, hkp, hi3⟩ := hp
      obtain ⟨h2, hr⟩ := fin none Y hk
      exact ⟨_, _, hr, .inl ⟨rfl, ⟨hI.putObj _ hi3 (Nat.le_succ _) h2.1 rfl, h2.put⟩, hKt kX2 (hKt hkp (hKp _ _ _ _ (Nat.le_succ _) h2.1 rfl))⟩⟩
    | ret => exact out _ Y hp.1 hp.2
    | exit id => exact out _ Y hp.1 hp.2
    | goto t => exact out _ Y hp.1 hp.2
    | panic ch => exact hp.elim
    | outgrown => exact hp.elim
  · rintro e Y ⟨⟨v, rfl⟩, ⟨hi, hl⟩ | ⟨pre, hpre, hne, c, hx, hl⟩⟩
    · have hr := run_endLoop (P := P) hl.1 (by rw [hrec]; simp)
      rw [hrec] at hr
      exact ⟨none, _, hr, hdone _ _ (Nat.le_refl _) (hI.putObj _ hi (Nat.le_succ _) hl.1 rfl) ((World.putObj_heap_other (by omega)).trans hl.2)⟩
    · have hr := run_endLoop (P := P) hl.1 (by rw [hrec]; simp)
      rw [hrec] at hr
      exact ⟨some c, _, hr, hstop _ c pre _ (Nat.le_refl _) hpre hne ((hIx c).putObj _ hx (Nat.le_succ _) hl.1 rfl) ((World.putObj_heap_other (by omega)).trans hl.2)⟩

end Go.Proofs.Ytmhbmeckdbdhpaa

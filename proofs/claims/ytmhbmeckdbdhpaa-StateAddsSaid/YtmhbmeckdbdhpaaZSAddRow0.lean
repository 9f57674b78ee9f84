/- Texts joined for the claim's sake: Words, GLaw, GNod, GTab. -/
import Derived.Test.YtmhbmeckdbdhpaaProg
import Derived.WalkKit
import Derived.WalkSpells
import Derived.WalkLawsBesides
import Derived.Below
import Derived.Laws.OwnMore
import Derived.Deep.Draws
import Derived.Laws.Rows
import Derived.RangeFuncNested
import Derived.RangeFuncWrites
import Derived.RangeFuncBound
import Derived.RangeFuncCalls
import Derived.RangeFuncLeaves
namespace Go.Proofs.Ytmhbmeckdbdhpaa
open Go.RowKit

def Blk (w : World) (g : Nat) (t : TypeId) (cs : Array Value) : Prop := w.heap[g]? = some (.cells cs t (0, 0))

section
variable {w w' : World} {g : Nat} {t : TypeId} {cs : Array Value}
theorem Blk.lt (h : Blk w g t cs) : g < w.heap.size := by
  rcases Nat.lt_or_ge g w.heap.size with hlt | hge
  · exact hlt
  · unfold Blk at h; rw [Array.getElem?_eq_none hge] at h; cases h
theorem Blk.cell (h : Blk w g t cs) (i : Nat) : w.cell? ⟨g, i, none⟩ = cs[i]? := cell_of_row w g i cs t (0, 0) h
theorem Blk.frozen (h : Blk w g t cs) (i : Nat) : w.frozen? ⟨g, i, none⟩ = false := by
  unfold Blk at h
  simp [World.frozen?, h]
theorem Blk.new (w : World) (t : TypeId) (cs : Array Value) : Blk (w.alloc (.cells cs t)) w.heap.size t cs := heap_alloc_new w _
theorem Blk.drew (h : Blk w g t cs) : Blk w.drew g t cs := h
theorem Blk.drewN (h : Blk w g t cs) (n : Nat) : Blk (w.drewN n) g t cs := h
theorem Blk.alloc (h : Blk w g t cs) (o : Obj) : Blk (w.alloc o) g t cs := (Below.heap_alloc w o g h.lt).trans h
theorem Blk.set_ (h : Blk w g t cs) (i : Nat) (u : Value) : Blk (w.setCell ⟨g, i, none⟩ u) g t (cs.setIfInBounds i u) := by
  unfold Blk at h ⊢
  simp [World.setCell, Array.getElem?_modify, h]
theorem Blk.far (h : Blk w g t cs) {p : Addr} (hp : g ≠ p.block) (u : Value) : Blk (w.setCell p u) g t cs := (Below.heap_setCell w p u g hp).trans h
theorem Blk.below {B : Nat} (h : Blk w g t cs) (hb : Below B w w') (hg : g < B) : Blk w' g t cs := (hb.block g hg).trans h
theorem Blk.grown {row : Option Nat} (h : Blk w g t cs) (hb : w.grownBy w' row) (hg : some g ≠ row) : Blk w' g t cs := (hb.block g h.lt hg).trans h
theorem Blk.kept (h : Blk w g t cs) (hb : w.grownBy w' none) : Blk w' g t cs := h.grown hb (fun e => by cases e)
theorem Blk.ne_ {g' : Nat} {t' : TypeId} {cs' : Array Value} (h : Blk w g t cs) (h' : Blk w g' t' cs') (hne : t ≠ t') : g ≠ g' := by
  rintro rfl
  unfold Blk at h h'
  rw [h] at h'
  injection h' with h'
  injection h' with _ ht
  exact hne ht
end

section
variable {a b c : World}
theorem only_refl (w : World) (row : Option Nat) : w.grownBy w row := ⟨rfl, rfl, rfl, Nat.le_refl _, fun _ _ _ => rfl⟩
theorem only_drewN {row : Option Nat} (h : a.grownBy b row) (n : Nat) : a.grownBy (b.drewN n) row := ⟨h.os, h.tape, h.output, h.size, h.block⟩
theorem only_drew {row : Option Nat} (h : a.grownBy b row) : a.grownBy b.drew row := ⟨h.os, h.tape, h.output, h.size, h.block⟩
theorem only_alloc {row : Option Nat} (h : a.grownBy b row) (o : Obj) : a.grownBy (b.alloc o) row :=
  ⟨h.os, h.tape, h.output, Nat.le_trans h.size (by simp), fun i hi hne => (Below.heap_alloc b o i (Nat.lt_of_lt_of_le hi h.size)).trans (h.block i hi hne)⟩
theorem only_setNew {row : Option Nat} (h : a.grownBy b row) {p : Addr} (hp : a.heap.size ≤ p.block) (u : Value) : a.grownBy (b.setCell p u) row :=
  ⟨h.os, h.tape, h.output, by simpa [World.setCell] using h.size, fun i hi hne => (Below.heap_setCell b p u i (by rintro rfl; omega)).trans (h.block i hi hne)⟩
theorem only_setCell {g : Nat} (h : a.grownBy b (some g)) {p : Addr} (hp : p.block = g) (u : Value) : a.grownBy (b.setCell p u) (some g) :=
  ⟨h.os, h.tape, h.output, by simpa [World.setCell] using h.size, fun i hi hne => (Below.heap_setCell b p u i (by
    rintro rfl
    exact hne (by rw [hp]))).trans (h.block i hi hne)⟩
theorem only_trans {row : Option Nat} (h : a.grownBy b row) (k : b.grownBy c row) : a.grownBy c row :=
  ⟨k.os.trans h.os, k.tape.trans h.tape, k.output.trans h.output, Nat.le_trans h.size k.size, fun i hi hne => (k.block i (Nat.lt_of_lt_of_le hi h.size) hne).trans (h.block i hi hne)⟩
/-- A step that turns one block of those that are new since 'a' turns nothing of 'a'. -/
theorem only_new {g : Nat} (h : a.grownBy b none) (k : b.grownBy c (some g)) (hg : a.heap.size ≤ g) : a.grownBy c none :=
  ⟨k.os.trans h.os, k.tape.trans h.tape, k.output.trans h.output, Nat.le_trans h.size k.size, fun i hi hne => (k.block i (Nat.lt_of_lt_of_le hi h.size) (fun e => by injection e with e; omega)).trans (h.block i hi hne)⟩
theorem below_of_only (h : a.grownBy b none) : Below a.heap.size a b := ⟨h.os, h.tape, h.output, h.size, fun k hk => h.block k hk (fun e => by cases e)⟩
theorem only_of_below (h : Below a.heap.size a b) (row : Option Nat) : a.grownBy b row := ⟨h.os, h.tape, h.output, h.size, fun i hi _ => h.block i hi⟩
end
end Go.Proofs.Ytmhbmeckdbdhpaa

namespace Go.Proofs.Ytmhbmeckdbdhpaa
open Go.RowKit

variable {F : Fence} {n : Nat} {P : Program}

/-- All cells lie as they lay. -/
structure KeepsCells (X Y : World) : Prop where
  size : X.heap.size ≤ Y.heap.size
  same : ∀ (k : Nat) (o : Obj), X.heap[k]? = some o → o.isCells = true → Y.heap[k]? = some o
theorem KeepsCells.refl (X : World) : KeepsCells X X := ⟨Nat.le_refl _, fun _ _ h _ => h⟩
theorem KeepsCells.trans {A B C : World} (h : KeepsCells A B) (k : KeepsCells B C) : KeepsCells A C := ⟨Nat.le_trans h.size k.size, fun i o hi ho => k.same i o (h.same i o hi ho) ho⟩
theorem KeepsCells.putObj {W : World} {l : Nat} {o : Obj} (o' : Obj) (h : W.heap[l]? = some o) (hc : o.isCells = false) : KeepsCells W (W.putObj l o') :=
  ⟨by simp, fun k o'' hk ho => by
    by_cases e : k = l
    · subst e; rw [h] at hk; cases hk; rw [hc] at ho; cases ho
    · exact (World.putObj_heap_other e).trans hk⟩
theorem KeepsCells.grown {X Y : World} (h : X.grownBy Y none) : KeepsCells X Y := ⟨h.size, fun k o hk _ => (h.block k (Array.getElem?_eq_some_iff.1 hk).1 (fun e => by cases e)).trans hk⟩
theorem KeepsCells.alloc (W : World) (o : Obj) : KeepsCells W (W.alloc o) := .grown (World.grownBy_alloc W o none)
theorem Blk.keeps {X Y : World} {g : Nat} {t : TypeId} {cs : Array Value} (h : Blk X g t cs) (hk : KeepsCells X Y) : Blk Y g t cs := hk.same g _ h rfl
theorem KeepsCells.cell {X Y : World} (h : KeepsCells X Y) {a : Addr} {v : Value} (hc : X.cell? a = some v) : Y.cell? a = some v := by
  unfold World.cell? at hc ⊢
  cases hx : X.heap[a.block]? with
  | none => rw [hx] at hc; simp at hc
  | some o =>
    have ho : o.isCells = true := by
      rw [hx] at hc
      cases o <;> first | rfl | (simp at hc)
    rw [h.same _ _ hx ho]
    rw [hx] at hc
    exact hc
theorem only_keepsFrom {X Y : World} (h : X.grownBy Y none) (B : Nat) : KeepsFrom B X Y := KeepsFrom.of_grownBy h (fun _ e => by cases e)

/-- What the function owes: it tells L's things, one by one; J, what its caller keeps, speaks of nothing that is laid from its call on; Kp, what a round that goes on keeps; T0, what holds ahead. -/
def Tells {α : Type} (F : Fence) (n : Nat) (P : Program) (gf : Nat) (lb : Array Value) (encs : α → Array Value) (Kp : World → World → Prop) (T0 : World → Prop) (L : List α) : Prop :=
  ∀ (l : Nat) (J Jx : List α → World → Prop) (W : World), (∀ s X Y, J s X → Below W.heap.size X Y → J s Y) →
    (∀ pre x X, pre ++ [x] <+: L → J pre X → YieldAt F (n - 1) P l (encs x) X fun e Y => (e = .returned (.bool true) ∧ J (pre ++ [x]) Y ∧ Kp X Y) ∨ (e = .returned (.bool false) ∧ Jx (pre ++ [x]) Y)) →
    J [] W → T0 W →
    CallsIn F n P gf (#[.func (.yield l) #[] #[]] ++ lb) W fun e Y => (∃ v, e = .returned v) ∧ (J L Y ∨ ∃ pre, pre <+: L ∧ pre ≠ [] ∧ Jx pre Y)

/-- What the law itself has laid: the loop's record at D + 1, the rounds' deferred calls at D. -/
def LaidAt (rec : LoopState → Option Code → Loop) (D : Nat) (s : LoopState) (p : Option Code) (W : World) : Prop :=
  W.heap[D + 1]? = some (.loop (rec s p)) ∧ W.heap[D]? = some (.deferred (some []))
theorem LaidAt.keep {rec : LoopState → Option Code → Loop} {D B : Nat} {s : LoopState} {p : Option Code} {X Y : World} (h : LaidAt rec D s p X) (hD : B ≤ D) (hk : KeepsFrom B X Y) : LaidAt rec D s p Y :=
  ⟨hk.same _ _ (by omega) h.1 rfl, hk.same _ _ hD h.2 rfl⟩
theorem LaidAt.below {rec : LoopState → Option Code → Loop} {D B : Nat} {s : LoopState} {p : Option Code} {X Y : World} (h : LaidAt rec D s p X) (hD : D + 2 ≤ B) (hk : Below B X Y) : LaidAt rec D s p Y :=
  ⟨(hk.block _ (by omega)).trans h.1, (hk.block _ (by omega)).trans h.2⟩
theorem LaidAt.put {rec : LoopState → Option Code → Loop} {D : Nat} {s s' : LoopState} {p p' : Option Code} {W : World} (h : LaidAt rec D s p W) : LaidAt rec D s' p' (W.putObj (D + 1) (.loop (rec s' p'))) :=
  ⟨World.putObj_heap_same (Array.getElem?_eq_some_iff.1 h.1).1, (World.putObj_heap_other (by omega)).trans h.2⟩
theorem below_putObj {B l : Nat} (h : B ≤ l) (W : World) (o : Obj) : Below B W (W.putObj l o) := ⟨rfl, rfl, rfl, by simp, fun k hk => World.putObj_heap_other (by omega)⟩

/-- What the caller owes. -/
theorem wpIn_rangeFunc_tells {α : Type} {g : Operand} {ps : Array Tmp} {assign body : Code} {Q : Exit → Act → World → Prop} {a : Act} {w : World}
    (hro : F.round = none) (h1 : 1 ≤ n) {gf : Nat} {lb : Array Value} (hg : a.eval g = .func (.func gf) #[] lb) (hFg : F.fn gf) (eg : ∀ args w, (callFunc gf args).run P w = .ok (.enter gf args) w)
    {encs : α → Array Value} {Kp : World → World → Prop} {T0 : World → Prop} {L : List α} (hseq : Tells F (n - 1) P gf lb encs Kp T0 L)
    (hKt : ∀ {A B C : World}, Kp A B → Kp B C → Kp A C) (hKp : ∀ (W : World) (l : Nat) (o o' : Obj), W.heap[l]? = some o → o.isCells = false → Kp W (W.putObj l o')) (hKa : ∀ (W : World) (o : Obj), Kp W (W.alloc o))
    (hps : ∀ x, (encs x).size = ps.size) (hT0 : ∀ W, Below w.heap.size w W → T0 W)
    (I : List α → World → Prop) (Ix : Code → List α → World → Prop) (hI : ∀ s X Y, I s X → Below w.heap.size X Y → I s Y) (hIx : ∀ c s X Y, Ix c s X → Below w.heap.size X Y → Ix c s Y)
    (h0 : I [] w) (T : TypeId) (cs : α → Array Value) (a₁ : α → Nat → Act)
    (hassign : ∀ (l : Nat) (x : α) (W : World) (K : Act → World → Prop), K (a₁ x W.heap.size) (W.alloc (.cells (cs x) T)) →
      assign.wpIn (F.inRound l) (n - 1 - 1) P (Exit.then K (fun _ _ _ => False)) { tmps := (ps.zip (encs x)).foldl (fun t (p, v) => t.setIfInBounds p v) a.tmps, defers := [] } W)
    (hbody : ∀ (l : Nat) (pre : List α) (x : α) (W : World) (Bx : Nat), pre ++ [x] <+: L → w.heap.size ≤ Bx → I pre W → Blk W Bx T (cs x) → body.wpIn (F.inRound l) (n - 1 - 1) P (ownPostG w.heap.size Kp I Ix (pre ++ [x]) W) (a₁ x Bx) W)
    (hdone : ∀ (D : Nat) (W : World), w.heap.size ≤ D → I L W → W.heap[D]? = some (.deferred (some [])) → Q .normal { a with defers := { target := .collected D, args := #[] } :: a.defers } W)
    (hstop : ∀ (D : Nat) (c : Code) (pre : List α) (W : World), w.heap.size ≤ D → pre <+: L → pre ≠ [] → Ix c pre W → W.heap[D]? = some (.deferred (some [])) → c.wpIn F n P Q { a with defers := { target := .collected D, args := #[] } :: a.defers } W) :
    (Code.rangeFunc g ps assign body).wpIn F n P Q a w := by
  refine wpIn_rangeFunc fun fn hfn => ?_
  rw [hro]
  obtain ⟨rec, hrec⟩ : ∃ rec : LoopState → Option Code → Loop, rec = fun st pe => { state := st, pending := pe, fn, tmps := a.tmps, params := ps, assign, body, defers := w.heap.size } := ⟨_, rfl⟩
  obtain ⟨W1, hW1⟩ : ∃ W1, (w.alloc (.deferred (some []))).alloc (.loop (rec .ready none)) = W1 := ⟨_, rfl⟩
  have L0 : LaidAt rec w.heap.size .ready none W1 := by
    rw [← hW1]
    refine ⟨?_, (Below.heap_alloc _ _ _ (by simp)).trans (World.alloc_heap_new w _)⟩
    have := World.alloc_heap_new (w.alloc (.deferred (some []))) (.loop (rec .ready none))
    rwa [World.size_alloc] at this
  have hb1 : Below w.heap.size w W1 := hW1 ▸ ((Below.refl _ _).alloc (Nat.le_refl _) _).alloc (by simp) _
  have hz1 : W1.heap.size = w.heap.size + 2 := by rw [← hW1]; simp
  have I0 : I [] W1 := hI _ _ _ h0 hb1
  refine ⟨w.heap.size + 1, [{ target := .collected w.heap.size, args := #[] }], W1, { target := .fn (.func gf) lb, args := #[.func (.yield (w.heap.size + 1)) #[] #[]] }, W1, gf,
    #[.func (.yield (w.heap.size + 1)) #[] #[]] ++ lb, W1, ?_, ?_, ?_, ?_, fun _ => h1, ?_⟩
  · rw [← hW1, hrec]
    exact run_enterLoop_outer _ _ _ _ _
  · simp only [resolve, hg]
    simp [go_sem]
  · intro f' hf'
    simp [Target.leads] at hf'
    exact hf' ▸ hFg
  · simp [invoke, go_sem, eg]
  clear hW1
  refine (hseq (w.heap.size + 1) (fun pre W => I pre W ∧ LaidAt rec w.heap.size .ready none W) (fun pre W => ∃ c, Ix c pre W ∧ LaidAt rec w.heap.size .done (some c) W) W1
    (fun s X Y ⟨hi, hl⟩ hs => ⟨hI s X Y hi (hs.mono (by omega)), hl.below (by omega) hs⟩) ?_ ⟨I0, L0⟩ (hT0 _ hb1)).mono ?_
  · rintro pre x X hx ⟨hi, hl⟩
    have hy := run_yield (P := P) (args := encs x) hl.1 (by rw [hrec]; exact hps x)
    rw [hrec] at hy
    refine ⟨fn, _, assign, body, hy, roundIn_of_wpIn hfn (hassign _ x X _ ?_)⟩
    have hXD : w.heap.size + 1 < X.heap.size := (Array.getElem?_eq_some_iff.1 hl.1).1
    have bX := Blk.new X T (cs x)
    have kX := hKa X (.cells (cs x) T)
    have hl0 : LaidAt rec w.heap.size .ready none (X.alloc (.cells (cs x) T)) := hl.keep (Nat.le_refl _) ((KeepsOthers.alloc X _).from _)
    have hi0 : I pre (X.alloc (.cells (cs x) T)) := hI _ _ _ hi ((Below.refl _ X).alloc (by omega) _)
    generalize X.alloc (.cells (cs x) T) = X' at *
    have hb := run_beginRound (P := P) hl0.1 (by rw [hrec])
    have hbusy : ({ rec .ready none with state := .busy } : Loop) = rec .busy none := by rw [hrec]
    rw [hbusy] at hb
    have hl2 : LaidAt rec w.heap.size .busy none (X'.putObj (w.heap.size + 1) (.loop (rec .busy none))) := hl0.put
    have hi2 := hI _ _ _ hi0 (below_putObj (Nat.le_succ _) X' (.loop (rec .busy none)))
    have bX2 : Blk (X'.putObj (w.heap.size + 1) (.loop (rec .busy none))) X.heap.size T (cs x) := bX.keeps (.putObj _ hl0.1 rfl)
    have kX2 := hKt kX (hKp X' (w.heap.size + 1) _ (.loop (rec .busy none)) hl0.1 rfl)
    refine ⟨_, hb, wpIn_mono (hbody _ pre x _ X.heap.size hx (by omega) hi2 bX2) ?_⟩
    have fin : ∀ (j : Option Code) (Y : World), KeepsFrom w.heap.size (X'.putObj (w.heap.size + 1) (.loop (rec .busy none))) Y →
        LaidAt rec w.heap.size .busy none Y ∧ (Instr.endRound (w.heap.size + 1) j).run P Y = .ok (.bool j.isNone) (Y.putObj (w.heap.size + 1) (.loop (rec (if j.isNone then .ready else .done) j))) := fun j Y hk => by
      have h2 := hl2.keep (Nat.le_refl _) hk
      refine ⟨h2, ?_⟩
      have := run_endRound (P := P) j h2.1
      rw [hrec] at this ⊢
      exact this
    have out : ∀ (c : Code) (Y : World), KeepsFrom w.heap.size (X'.putObj (w.heap.size + 1) (.loop (rec .busy none))) Y → Ix c (pre ++ [x]) Y →
        ∃ v Y', (Instr.endRound (w.heap.size + 1) (some c)).run P Y = .ok v Y' ∧ ((Ending.returned v = .returned (.bool true) ∧ (I (pre ++ [x]) Y' ∧ LaidAt rec w.heap.size .ready none Y') ∧ Kp X Y') ∨ (Ending.returned v = .returned (.bool false) ∧ ∃ c, Ix c (pre ++ [x]) Y' ∧ LaidAt rec w.heap.size .done (some c) Y')) := fun c Y hk hx => by
      obtain ⟨h2, hr⟩ := fin (some c) Y hk
      exact ⟨_, _, hr, .inr ⟨rfl, c, hIx _ _ _ _ hx (below_putObj (Nat.le_succ _) _ _), h2.put⟩⟩
    intro e a3 Y hp
    cases e with
    | normal =>
      obtain ⟨hk, hkp, hi3⟩ := hp
      obtain ⟨h2, hr⟩ := fin none Y hk
      exact ⟨_, _, hr, .inl ⟨rfl, ⟨hI _ _ _ hi3 (below_putObj (Nat.le_succ _) _ _), h2.put⟩, hKt kX2 (hKt hkp (hKp _ _ _ _ h2.1 rfl))⟩⟩
    | ret => exact out _ Y hp.1 hp.2
    | exit id => exact out _ Y hp.1 hp.2
    | goto t => exact out _ Y hp.1 hp.2
    | panic ch => exact hp.elim
    | outgrown => exact hp.elim
  · rintro e Y ⟨⟨v, rfl⟩, ⟨hi, hl⟩ | ⟨pre, hpre, hne, c, hx, hl⟩⟩
    · have hr := run_endLoop (P := P) hl.1 (by rw [hrec]; simp)
      rw [hrec] at hr
      exact ⟨none, _, hr, hdone _ _ (Nat.le_refl _) (hI _ _ _ hi (below_putObj (Nat.le_succ _) _ _)) ((World.putObj_heap_other (by omega)).trans hl.2)⟩
    · have hr := run_endLoop (P := P) hl.1 (by rw [hrec]; simp)
      rw [hrec] at hr
      exact ⟨some c, _, hr, hstop _ c pre _ (Nat.le_refl _) hpre hne (hIx _ _ _ _ hx (below_putObj (Nat.le_succ _) _ _)) ((World.putObj_heap_other (by omega)).trans hl.2)⟩

/-! ### Leaving with marks -/
abbrev mark (D : Nat) : Deferred := { target := .collected D, args := #[] }
/-- Blocks that are no cells are turned, all of them from B on. -/
def Shuts (B : Nat) (X Y : World) : Prop := Below B X Y ∧ KeepsCells X Y
theorem leaves_marks {fn : Func} {tmps : Array Value} {R : Ending → World → Prop} {B : Nat} : ∀ (Ds : List Nat) (W : World), Ds.Nodup → (∀ D ∈ Ds, B ≤ D ∧ W.heap[D]? = some (.deferred (some []))) →
    (∀ W', Shuts B W W' → LeavesIn F n P fn tmps R [] .returning W') → LeavesInM F n P fn tmps R (Ds.map mark) .returning W
  | [], W, _, _, h => h W ⟨Below.refl _ _, .refl _⟩
  | D :: Ds, W, hn, hd, h => by
    rw [List.nodup_cons] at hn
    have hD := hd D (List.mem_cons_self)
    refine ⟨by simp, .inl ⟨D, _, rfl, run_takeDeferred hD.2, leaves_marks Ds _ hn.2 (fun D' hD' => ⟨(hd D' (List.mem_cons_of_mem _ hD')).1, ?_⟩) (fun W' hW' => h W' ⟨(below_putObj hD.1 _ _).trans hW'.1, (KeepsCells.putObj _ hD.2 rfl).trans hW'.2⟩)⟩⟩
    exact (World.putObj_heap_other (fun e => hn.1 (by subst e; exact hD'))).trans (hd D' (List.mem_cons_of_mem _ hD')).2
theorem marks_ret {fn : Func} {tmps : Array Value} {R : Ending → World → Prop} {B : Nat} (Ds : List Nat) (W : World) (hn : Ds.Nodup) (hd : ∀ D ∈ Ds, B ≤ D ∧ W.heap[D]? = some (.deferred (some [])))
    (h : ∀ W', Shuts B W W' → ∃ v, (results fn tmps).run P W' = .ok v W' ∧ R (.returned v) W') : bodyPostM F n P fn R .ret { tmps := tmps, defers := Ds.map mark } W :=
  leaves_marks Ds W hn hd h
theorem ret_unmarked {fn : Func} {tmps : Array Value} {R : Ending → World → Prop} {W : World} {v : Value} (hr : (results fn tmps).run P W = .ok v W) (h : R (.returned v) W) : bodyPostM F n P fn R .ret { tmps := tmps, defers := [] } W := ⟨v, hr, h⟩
theorem Shuts.grown {B : Nat} {w X Y : World} (h : Shuts B X Y) (hg : w.grownBy X none) (hB : w.heap.size ≤ B) : w.grownBy Y none :=
  ⟨h.1.os.trans hg.os, h.1.tape.trans hg.tape, h.1.output.trans hg.output, Nat.le_trans hg.size h.1.size, fun i hi _ => (h.1.block i (by omega)).trans (hg.block i hi (fun e => by cases e))⟩
theorem below_only {B : Nat} {w X Y : World} (h : Below B X Y) (hg : w.grownBy X none) (hB : w.heap.size ≤ B) : w.grownBy Y none :=
  ⟨h.os.trans hg.os, h.tape.trans hg.tape, h.output.trans hg.output, Nat.le_trans hg.size h.size, fun i hi _ => (h.block i (by omega)).trans (hg.block i hi (fun e => by cases e))⟩
end Go.Proofs.Ytmhbmeckdbdhpaa

namespace Go.Proofs.Ytmhbmeckdbdhpaa
open Go.RowKit

/-- An edge (to, shift), or a type (node, offset). -/
abbrev Ed := Int × Int
structure Nd where
  kind : Int
  prio : Int
  chan : Bool
  pay : Ed
  next : List Ed

def withinB (n lo hi : Int) : Bool := decide (lo ≤ n) && decide (n ≤ hi)
def leastN (k : Int) : Int := if k = 0 then 0 else 1
def mostN (k : Int) : Int := if k = 0 then 0 else if k = 3 ∨ k = 4 then 8 else 1
def paysB (k : Int) : Bool := decide (k = 1 ∨ k = 2)
def mostP (k : Int) : Int := if k = 1 ∨ k = 2 ∨ k = 3 ∨ k = 4 then 1000 else 0
def kindB (k : Int) : Bool := withinB k 0 5
def payB (x : Nd) (pays : Bool) : Bool := if x.chan then pays else decide (x.pay = (0, 0))
def edgesL (x : Nd) : List Ed := (if x.chan then [x.pay] else []) ++ x.next
def headB (x : Nd) : Bool := kindB x.kind && withinB x.next.length (leastN x.kind) (mostN x.kind) && withinB x.prio 0 (mostP x.kind) && payB x (paysB x.kind)
def shiftB (e : Ed) : Bool := withinB e.2 0 1000
def shapeB (x : Nd) : Bool := headB x && (edgesL x).all shiftB
def nodeB (n : Nat) (i : Int) : Bool := withinB i 0 ((n : Int) - 1)
def inB (n : Nat) (e : Ed) : Bool := nodeB n e.1
/-- What is wrong with a node by itself: 0, 7 or 8. -/
def illN (n : Nat) (x : Nd) : Int := if shapeB x then (if (edgesL x).all (inB n) then 0 else 8) else 7
def firstIll (n : Nat) : List Nd → Nat → Int × Int
  | [], _ => (0, 0)
  | x :: xs, k => if illN n x = 0 then firstIll n xs (k + 1) else ((k : Int), illN n x)

def nodeAt (xs : List Nd) (i : Int) : Option Nd := if 0 ≤ i then xs[i.toNat]? else none
def onlyNext (x : Nd) : Option Ed := if x.kind = 5 then (match x.next with | [e] => some e | _ => none) else none
def stepT (t e : Ed) : Ed := (e.1, wrap64 (t.2 + e.2))
/-- The way of a type, as far as the table is long. -/
def wayL (xs : List Nd) : Nat → Ed → List Ed
  | 0, _ => []
  | f + 1, t => match nodeAt xs t.1 with
    | none => []
    | some x => t :: (match onlyNext x with | some e => wayL xs f (stepT t e) | none => [])
def isAl (xs : List Nd) (t : Ed) : Bool := match nodeAt xs t.1 with | some x => decide (x.kind = 5) | none => false
def pickL (xs : List Nd) : List Ed → Ed
  | [] => (-1, 0)
  | t :: ts => if isAl xs t then pickL xs ts else t
def resolveL (xs : List Nd) (t : Ed) : Ed := pickL xs (wayL xs xs.length t)
/-- Whether the way of node i comes to nothing. -/
def lostB (xs : List Nd) (i : Nat) : Bool := (wayL xs xs.length ((i : Int), 0)).all (isAl xs)
/-- From node k on, f nodes. -/
def firstLost (xs : List Nd) : Nat → Nat → Int
  | 0, _ => -1
  | f + 1, k => if lostB xs k then (k : Int) else firstLost xs f (k + 1)
def checkL (xs : List Nd) : Int × Int :=
  if xs.length = 0 then (-1, 2)
  else if 64 < xs.length then (-1, 4)
  else if (firstIll xs.length xs 0).2 = 0 then
    (if firstLost xs xs.length 0 < 0 then (-1, 0) else (firstLost xs xs.length 0, 9))
  else firstIll xs.length xs 0

theorem nodeAt_some {xs : List Nd} {i : Int} {x : Nd} (h : nodeAt xs i = some x) : 0 ≤ i ∧ i < xs.length ∧ xs[i.toNat]? = some x := by
  unfold nodeAt at h
  by_cases hi : 0 ≤ i
  · rw [if_pos hi] at h
    have := (List.getElem?_eq_some_iff.1 h).1
    exact ⟨hi, by omega, h⟩
  · rw [if_neg hi] at h; cases h
theorem nodeAt_none {xs : List Nd} {i : Int} (h : nodeAt xs i = none) : nodeB xs.length i = false := by
  unfold nodeAt at h
  by_cases hi : 0 ≤ i
  · rw [if_pos hi] at h
    have := List.getElem?_eq_none_iff.1 h
    simp [nodeB, withinB]
    omega
  · simp [nodeB, withinB]; omega
theorem nodeB_true {n : Nat} {i : Int} : nodeB n i = true ↔ 0 ≤ i ∧ i < n := by
  simp [nodeB, withinB]; omega
theorem nodeAt_nat {xs : List Nd} {i : Nat} : nodeAt xs (i : Int) = xs[i]? := by
  unfold nodeAt
  rw [if_pos (by omega)]
  simp
theorem nodeAt_of {xs : List Nd} {i : Int} (h : nodeB xs.length i = true) : ∃ x, nodeAt xs i = some x ∧ xs[i.toNat]? = some x := by
  have := nodeB_true.1 h
  unfold nodeAt
  rw [if_pos this.1]
  have hl : i.toNat < xs.length := by omega
  exact ⟨xs[i.toNat], List.getElem?_eq_getElem hl, List.getElem?_eq_getElem hl⟩
theorem pickL_nil_of_all {xs : List Nd} {L : List Ed} (h : L.all (isAl xs) = true) : pickL xs L = (-1, 0) := by
  induction L with
  | nil => rfl
  | cons t L ih =>
    simp only [List.all_cons, Bool.and_eq_true] at h
    simp only [pickL, h.1, if_true]
    exact ih h.2
theorem pickL_at {xs : List Nd} {pre rest : List Ed} {t : Ed} (h : pre.all (isAl xs) = true) (ht : isAl xs t = false) : pickL xs (pre ++ t :: rest) = t := by
  induction pre with
  | nil => simp [pickL, ht]
  | cons s pre ih =>
    simp only [List.all_cons, Bool.and_eq_true] at h
    simp only [List.cons_append, pickL, h.1, if_true]
    exact ih h.2
end Go.Proofs.Ytmhbmeckdbdhpaa

namespace Go.Proofs.Ytmhbmeckdbdhpaa
open Go.RowKit

def Keeps (w w' : World) : Prop := ∀ (a : Addr) (v : Value), w.cell? a = some v → w'.cell? a = some v
theorem Keeps.refl (w : World) : Keeps w w := fun _ _ h => h
theorem Keeps.trans {a b c : World} (h : Keeps a b) (k : Keeps b c) : Keeps a c := fun p v hp => k p v (h p v hp)
theorem KeepsCells.keeps {w w' : World} (h : KeepsCells w w') : Keeps w w' := fun _ _ hc => h.cell hc
theorem Keeps.grown {w w' : World} (h : w.grownBy w' none) : Keeps w w' := (KeepsCells.grown h).keeps
theorem Keeps.alloc (w : World) (o : Obj) : Keeps w (w.alloc o) := (KeepsCells.alloc w o).keeps
theorem Keeps.below {w w' : World} (h : Below w.heap.size w w') : Keeps w w' := fun a v hc => by
  have hlt : a.block < w.heap.size := by
    rcases Nat.lt_or_ge a.block w.heap.size with hl | hl
    · exact hl
    · unfold World.cell? at hc
      rw [Array.getElem?_eq_none hl] at hc
      simp at hc
  rw [h.cell hlt]; exact hc
theorem cell_lt {w : World} {a : Addr} {v : Value} (hc : w.cell? a = some v) : a.block < w.heap.size := by
  rcases Nat.lt_or_ge a.block w.heap.size with hl | hl
  · exact hl
  · unfold World.cell? at hc
    rw [Array.getElem?_eq_none hl] at hc
    simp at hc
theorem Keeps.setNew {w w' : World} (h : Keeps w w') {p : Addr} (hp : w.heap.size ≤ p.block) (u : Value) : Keeps w (w'.setCell p u) := fun a v hc => by
  have hl := cell_lt hc
  rw [World.cell?_setCell_other w' p a u (fun e => by subst e; omega)]
  exact h a v hc
theorem Keeps.drew {w w' : World} (h : Keeps w w') : Keeps w w'.drew := h

abbrev edV (e : Ed) : Value := .agg #[.int .i64 e.1, .int .i64 e.2]
abbrev edCells (e : Ed) : Array Value := #[.int .i64 e.1, .int .i64 e.2]
abbrev ndCells (x : Nd) (v : Value) : Array Value := #[.int .i64 x.kind, .int .i64 x.prio, .bool x.chan, .int .i64 x.pay.1, .int .i64 x.pay.2, v]
abbrev ndV (x : Nd) (v : Value) : Value := .agg #[.int .i64 x.kind, .int .i64 x.prio, .bool x.chan, .int .i64 x.pay.1, .int .i64 x.pay.2, v]

/-- A slice value that reads as a list of edges. -/
def Edges (w : World) (v : Value) (es : List Ed) : Prop := ∃ (A : Option Addr) (c : Nat), v = .slice A es.length c ∧ es.length ≤ 9223372036854775807 ∧
  (es ≠ [] → ∃ b off, A = some ⟨b, off, none⟩ ∧ ∀ i e, es[i]? = some e → w.cell? ⟨b, off + i * 2, none⟩ = some (.int .i64 e.1) ∧ w.cell? ⟨b, off + i * 2 + 1, none⟩ = some (.int .i64 e.2))
theorem Edges.keep {w w' : World} {v : Value} {es : List Ed} (h : Edges w v es) (hk : Keeps w w') : Edges w' v es := by
  obtain ⟨A, c, h1, hl, h2⟩ := h
  refine ⟨A, c, h1, hl, fun hn => ?_⟩
  obtain ⟨b, off, h3, h4⟩ := h2 hn
  exact ⟨b, off, h3, fun i e he => ⟨hk _ _ (h4 i e he).1, hk _ _ (h4 i e he).2⟩⟩
theorem Edges.nil_ (w : World) : Edges w (.slice none 0 0) [] := ⟨none, 0, rfl, by simp, fun h => absurd rfl h⟩

/-- A node's six cells. -/
def NdAt (w : World) (b off : Nat) (x : Nd) : Prop := ∃ v, Edges w v x.next ∧ w.cell? ⟨b, off, none⟩ = some (.int .i64 x.kind) ∧ w.cell? ⟨b, off + 1, none⟩ = some (.int .i64 x.prio) ∧ w.cell? ⟨b, off + 2, none⟩ = some (.bool x.chan) ∧
  w.cell? ⟨b, off + 3, none⟩ = some (.int .i64 x.pay.1) ∧ w.cell? ⟨b, off + 4, none⟩ = some (.int .i64 x.pay.2) ∧ w.cell? ⟨b, off + 5, none⟩ = some v
theorem NdAt.keep {w w' : World} {b off : Nat} {x : Nd} (h : NdAt w b off x) (hk : Keeps w w') : NdAt w' b off x := by
  obtain ⟨v, h0, h1, h2, h3, h4, h5, h6⟩ := h
  exact ⟨v, h0.keep hk, hk _ _ h1, hk _ _ h2, hk _ _ h3, hk _ _ h4, hk _ _ h5, hk _ _ h6⟩

/-- A slice value that reads as a table. -/
def Tbl (w : World) (v : Value) (xs : List Nd) : Prop := ∃ (A : Option Addr) (c : Nat), v = .slice A xs.length c ∧
  (xs ≠ [] → ∃ b off, A = some ⟨b, off, none⟩ ∧ ∀ i x, xs[i]? = some x → NdAt w b (off + i * 6) x)
theorem Tbl.keep {w w' : World} {v : Value} {xs : List Nd} (h : Tbl w v xs) (hk : Keeps w w') : Tbl w' v xs := by
  obtain ⟨A, c, h1, h2⟩ := h
  refine ⟨A, c, h1, fun hn => ?_⟩
  obtain ⟨b, off, h3, h4⟩ := h2 hn
  exact ⟨b, off, h3, fun i x he => (h4 i x he).keep hk⟩
theorem Tbl.nil_ (w : World) : Tbl w (.slice none 0 0) [] := ⟨none, 0, rfl, fun h => absurd rfl h⟩
end Go.Proofs.Ytmhbmeckdbdhpaa

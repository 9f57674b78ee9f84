/- Texts joined for the claim's sake: OLaw, Rng. -/
import Derived.Test.YtmhbmeckdbdhpaaZSAddRow0
import Derived.RangeFuncNested
import Derived.RangeFuncWrites
import Derived.RangeFuncBound
import Derived.RangeFuncCalls
import Derived.RangeFuncLeaves
namespace Go.Proofs.Ytmhbmeckdbdhpaa
open Go.RowKit

variable {F : Fence} {n : Nat} {P : Program}

/-- What the caller owes, where the loop's variables lie in no block. -/
theorem wpIn_rangeFunc_tellsP {α : Type} {g : Operand} {ps : Array Tmp} {assign body : Code} {Q : Exit → Act → World → Prop} {a : Act} {w : World}
    (hro : F.round = none) (h1 : 1 ≤ n) {gf : Nat} {lb : Array Value} (hg : a.eval g = .func (.func gf) #[] lb) (hFg : F.fn gf) (eg : ∀ args w, (callFunc gf args).run P w = .ok (.enter gf args) w)
    {encs : α → Array Value} {Kp : World → World → Prop} {T0 : World → Prop} {L : List α} (hseq : Tells F (n - 1) P gf lb encs Kp T0 L)
    (hKt : ∀ {A B C : World}, Kp A B → Kp B C → Kp A C) (hKp : ∀ (W : World) (l : Nat) (o o' : Obj), W.heap[l]? = some o → o.isCells = false → Kp W (W.putObj l o'))
    (hps : ∀ x, (encs x).size = ps.size) (hT0 : ∀ W, Below w.heap.size w W → T0 W)
    (I : List α → World → Prop) (Ix : Code → List α → World → Prop) (hI : ∀ s X Y, I s X → Below w.heap.size X Y → I s Y) (hIx : ∀ c s X Y, Ix c s X → Below w.heap.size X Y → Ix c s Y)
    (h0 : I [] w) (a₁ : α → Act)
    (hassign : ∀ (l : Nat) (x : α) (W : World) (K : Act → World → Prop), K (a₁ x) W →
      assign.wpIn (F.inRound l) (n - 1 - 1) P (Exit.then K (fun _ _ _ => False)) { tmps := (ps.zip (encs x)).foldl (fun t (p, v) => t.setIfInBounds p v) a.tmps, defers := [] } W)
    (hbody : ∀ (l : Nat) (pre : List α) (x : α) (W : World), pre ++ [x] <+: L → w.heap.size ≤ W.heap.size → I pre W → body.wpIn (F.inRound l) (n - 1 - 1) P (ownPostG w.heap.size Kp I Ix (pre ++ [x]) W) (a₁ x) W)
    (hdone : ∀ (D : Nat) (W : World), w.heap.size ≤ D → I L W → W.heap[D]? = some (.deferred (some [])) → Q .normal { a with defers := { target := .collected D, args := #[] } :: a.defers } W)
    (hstop : ∀ (D : Nat) (c : Code) (pre : List α) (W : World), w.heap.size ≤ D → pre <+: L → pre ≠ [] → Ix c pre W → W.heap[D]? = some (.deferred (some [])) → c.wpIn F n P Q { a with defers := { target := .collected D, args := #[] } :: a.defers } W) :
    (Code.rangeFunc g ps assign body).wpIn F n P Q a w := by
  refine wpIn_rangeFunc fun fn hfn => ?_
  rw [hro]
  obtain ⟨rec, hrec⟩ : ∃ rec : LoopState → Option Code → Loop, rec = fun st pe => { state := st, pending := pe, fn, tmps := a.tmps, params := ps, assign, body, defers := w.heap.size } := ⟨_, rfl⟩
  obtain ⟨W1, hW1⟩ : ∃ W1, (w.alloc (.deferred (some []))).alloc (.loop (rec .ready none)) = W1 := ⟨_, rfl⟩
  have L0 : LaidAt rec w.heap.size .ready none W1 := by
    rw [← hW1]
    refine ⟨?_, (Below.heap_alloc _ _ _ (by simp)).trans (World.alloc_heap_new w _)⟩
    have := World.alloc_heap_new (w.alloc (.deferred (some []))) (.loop (rec .ready none))
    rwa [World.size_alloc] at this
  have hb1 : Below w.heap.size w W1 := hW1 ▸ ((Below.refl _ _).alloc (Nat.le_refl _) _).alloc (by simp) _
  have hz1 : W1.heap.size = w.heap.size + 2 := by rw [← hW1]; simp
  have I0 : I [] W1 := hI _ _ _ h0 hb1
  refine ⟨w.heap.size + 1, [{ target := .collected w.heap.size, args := #[] }], W1, { target := .fn (.func gf) lb, args := #[.func (.yield (w.heap.size + 1)) #[] #[]] }, W1, gf,
    #[.func (.yield (w.heap.size + 1)) #[] #[]] ++ lb, W1, ?_, ?_, ?_, ?_, fun _ => h1, ?_⟩
  · rw [← hW1, hrec]
    exact run_enterLoop_outer _ _ _ _ _
  · simp only [resolve, hg]
    simp [go_sem]
  · intro f' hf'
    simp [Target.leads] at hf'
    exact hf' ▸ hFg
  · simp [invoke, go_sem, eg]
  clear hW1
  refine (hseq (w.heap.size + 1) (fun pre W => I pre W ∧ LaidAt rec w.heap.size .ready none W) (fun pre W => ∃ c, Ix c pre W ∧ LaidAt rec w.heap.size .done (some c) W) W1
    (fun s X Y ⟨hi, hl⟩ hs => ⟨hI s X Y hi (hs.mono (by omega)), hl.below (by omega) hs⟩) ?_ ⟨I0, L0⟩ (hT0 _ hb1)).mono ?_
  · rintro pre x X hx ⟨hi, hl⟩
    have hy := run_yield (P := P) (args := encs x) hl.1 (by rw [hrec]; exact hps x)
    rw [hrec] at hy
    refine ⟨fn, _, assign, body, hy, roundIn_of_wpIn hfn (hassign _ x X _ ?_)⟩
    have hXD : w.heap.size + 1 < X.heap.size := (Array.getElem?_eq_some_iff.1 hl.1).1
    have hl0 := hl
    have hi0 := hi
    have hb := run_beginRound (P := P) hl0.1 (by rw [hrec])
    have hbusy : ({ rec .ready none with state := .busy } : Loop) = rec .busy none := by rw [hrec]
    rw [hbusy] at hb
    have hl2 : LaidAt rec w.heap.size .busy none (X.putObj (w.heap.size + 1) (.loop (rec .busy none))) := hl0.put
    have hi2 := hI _ _ _ hi0 (below_putObj (Nat.le_succ _) X (.loop (rec .busy none)))
    have kX2 := hKp X (w.heap.size + 1) _ (.loop (rec .busy none)) hl0.1 rfl
    refine ⟨_, hb, wpIn_mono (hbody _ pre x _ hx (by simp; omega) hi2) ?_⟩
    have fin : ∀ (j : Option Code) (Y : World), KeepsFrom w.heap.size (X.putObj (w.heap.size + 1) (.loop (rec .busy none))) Y →
        LaidAt rec w.heap.size .busy none Y ∧ (Instr.endRound (w.heap.size + 1) j).run P Y = .ok (.bool j.isNone) (Y.putObj (w.heap.size + 1) (.loop (rec (if j.isNone then .ready else .done) j))) := fun j Y hk => by
      have h2 := hl2.keep (Nat.le_refl _) hk
      refine ⟨h2, ?_⟩
      have := run_endRound (P := P) j h2.1
      rw [hrec] at this ⊢
      exact this
    have out : ∀ (c : Code) (Y : World), KeepsFrom w.heap.size (X.putObj (w.heap.size + 1) (.loop (rec .busy none))) Y → Ix c (pre ++ [x]) Y →
        ∃ v Y', (Instr.endRound (w.heap.size + 1) (some c)).run P Y = .ok v Y' ∧ ((Ending.returned v = .returned (.bool true) ∧ (I (pre ++ [x]) Y' ∧ LaidAt rec w.heap.size .ready none Y') ∧ Kp X Y') ∨ (Ending.returned v = .returned (.bool false) ∧ ∃ c, Ix c (pre ++ [x]) Y' ∧ LaidAt rec w.heap.size .done (some c) Y')) := fun c Y hk hx => by
      obtain ⟨h2, hr⟩ := fin (some c) Y hk
      exact ⟨_, _, hr, .inr ⟨rfl, c, hIx _ _ _ _ hx (below_putObj (Nat.le_succ _) _ _), h2.put⟩⟩
    intro e a3 Y hp
    cases e with
    | normal =>
      obtain ⟨hk, hkp, hi3⟩ := hp
      obtain ⟨h2, hr⟩ := fin none Y hk
      exact ⟨_, _, hr, .inl ⟨rfl, ⟨hI _ _ _ hi3 (below_putObj (Nat.le_succ _) _ _), h2.put⟩, hKt kX2 (hKt hkp (hKp _ _ _ _ h2.1 rfl))⟩⟩
    | ret => exact out _ Y hp.1 hp.2
    | exit id => exact out _ Y hp.1 hp.2
    | goto t => exact out _ Y hp.1 hp.2
    | panic ch => exact hp.elim
    | outgrown => exact hp.elim
  · rintro e Y ⟨⟨v, rfl⟩, ⟨hi, hl⟩ | ⟨pre, hpre, hne, c, hx, hl⟩⟩
    · have hr := run_endLoop (P := P) hl.1 (by rw [hrec]; simp)
      rw [hrec] at hr
      exact ⟨none, _, hr, hdone _ _ (Nat.le_refl _) (hI _ _ _ hi (below_putObj (Nat.le_succ _) _ _)) ((World.putObj_heap_other (by omega)).trans hl.2)⟩
    · have hr := run_endLoop (P := P) hl.1 (by rw [hrec]; simp)
      rw [hrec] at hr
      exact ⟨some c, _, hr, hstop _ c pre _ (Nat.le_refl _) hpre hne (hIx _ _ _ _ hx (below_putObj (Nat.le_succ _) _ _)) ((World.putObj_heap_other (by omega)).trans hl.2)⟩

end Go.Proofs.Ytmhbmeckdbdhpaa

namespace Go.Proofs.Ytmhbmeckdbdhpaa
open Go.RowKit

variable {F : Fence} {n : Nat} {P : Program}

/-- What the function owes: Sp, its own steps; T, what it keeps between two rounds; Tm, what holds as it hands x over; S, what has come when it ends by itself. -/
def Hands {α : Type} (F : Fence) (n : Nat) (P : Program) (gf : Nat) (lb : Array Value) (encs : α → Array Value) (Sp : World → World → Prop) (T : List α → World → Prop) (Tm : List α → α → World → Prop) (S : List α → Prop) : Prop :=
  ∀ (l : Nat) (J Jx : List α → World → Prop) (W : World), (∀ s X Y, J s X → Sp X Y → J s Y) →
    (∀ pre x X, J pre X → Tm pre x X → YieldAt F (n - 1) P l (encs x) X fun e Y => (e = .returned (.bool true) ∧ J (pre ++ [x]) Y ∧ T (pre ++ [x]) Y) ∨ (e = .returned (.bool false) ∧ Jx (pre ++ [x]) Y)) →
    J [] W → T [] W →
    CallsIn F n P gf (#[.func (.yield l) #[] #[]] ++ lb) W fun e Y => (∃ v, e = .returned v) ∧ ((∃ xs, S xs ∧ J xs Y ∧ T xs Y) ∨ (∃ xs, Jx xs Y))

/-- What the law itself has laid: the loop's record at D + 1, the rounds' deferred calls at D. -/
def Laid2 (rec : LoopState → Option Code → Loop) (D : Nat) (s : LoopState) (p : Option Code) (W : World) : Prop :=
  W.heap[D + 1]? = some (.loop (rec s p)) ∧ W.heap[D]? = some (.deferred (some []))
theorem Laid2.keep {rec : LoopState → Option Code → Loop} {D B : Nat} {s : LoopState} {p : Option Code} {X Y : World} (h : Laid2 rec D s p X) (hD : B ≤ D) (hk : KeepsFrom B X Y) : Laid2 rec D s p Y :=
  ⟨hk.same _ _ (by omega) h.1 rfl, hk.same _ _ hD h.2 rfl⟩
theorem Laid2.put {rec : LoopState → Option Code → Loop} {D : Nat} {s s' : LoopState} {p p' : Option Code} {W : World} (h : Laid2 rec D s p W) : Laid2 rec D s' p' (W.putObj (D + 1) (.loop (rec s' p'))) :=
  ⟨World.putObj_heap_same (Array.getElem?_eq_some_iff.1 h.1).1, (World.putObj_heap_other (by omega)).trans h.2⟩
theorem own_put2 {β : Type} {B : Nat} {I : β → World → Prop} (hI : OwnFrom B I) {rec : LoopState → Option Code → Loop} {D : Nat} {st : LoopState} {p : Option Code} {W : World} (hD : B ≤ D) (h : Laid2 rec D st p W) {s : β} (hs : I s W) (o : Obj) : I s (W.putObj (D + 1) o) :=
  hI.putObj o hs (by omega) h.1 rfl

/-- What the caller owes. -/
theorem wpIn_rangeFunc_hands {α : Type} {g : Operand} {ps : Array Tmp} {assign body : Code} {Q : Exit → Act → World → Prop} {a : Act} {w : World}
    (hro : F.round = none) (h1 : 1 ≤ n) {gf : Nat} {lb : Array Value} (hg : a.eval g = .func (.func gf) #[] lb) (hFg : F.fn gf) (eg : ∀ args w, (callFunc gf args).run P w = .ok (.enter gf args) w)
    {encs : α → Array Value} {Sp : World → World → Prop} {T : List α → World → Prop} {Tm : List α → α → World → Prop} {S : List α → Prop} (hseq : Hands F (n - 1) P gf lb encs Sp T Tm S)
    (hSp : ∀ X Y, Sp X Y → KeepsFrom w.heap.size X Y) (hps : ∀ x, (encs x).size = ps.size)
    (hT : OwnFrom w.heap.size T) (hTm : ∀ x, OwnFrom w.heap.size (fun pre W => Tm pre x W))
    (I : List α → World → Prop) (Ix : Code → List α → World → Prop) (hI : OwnFrom w.heap.size I) (hIx : ∀ c, OwnFrom w.heap.size (Ix c)) (hIs : ∀ s X Y, I s X → Sp X Y → I s Y)
    (h0 : I [] w) (t0 : T [] w) (a₁ : α → Act)
    (hassign : ∀ (l : Nat) (x : α) (W : World) (K : Act → World → Prop), K (a₁ x) W →
      assign.wpIn (F.inRound l) (n - 1 - 1) P (Exit.then K (fun _ _ _ => False)) { tmps := (ps.zip (encs x)).foldl (fun t (p, v) => t.setIfInBounds p v) a.tmps, defers := [] } W)
    (hbody : ∀ (l : Nat) (pre : List α) (x : α) (W : World), I pre W → Tm pre x W → body.wpIn (F.inRound l) (n - 1 - 1) P (ownPostG w.heap.size (fun _ _ => True) (fun xs W => I xs W ∧ T xs W) Ix (pre ++ [x]) W) (a₁ x) W)
    (hdone : ∀ (D : Nat) (xs : List α) (W : World), w.heap.size ≤ D → S xs → I xs W → T xs W → W.heap[D]? = some (.deferred (some [])) → Q .normal { a with defers := { target := .collected D, args := #[] } :: a.defers } W)
    (hstop : ∀ (D : Nat) (c : Code) (xs : List α) (W : World), w.heap.size ≤ D → Ix c xs W → W.heap[D]? = some (.deferred (some [])) → c.wpIn F n P Q { a with defers := { target := .collected D, args := #[] } :: a.defers } W) :
    (Code.rangeFunc g ps assign body).wpIn F n P Q a w := by
  refine wpIn_rangeFunc fun fn hfn => ?_
  rw [hro]
  obtain ⟨rec, hrec⟩ : ∃ rec : LoopState → Option Code → Loop, rec = fun st pe => { state := st, pending := pe, fn, tmps := a.tmps, params := ps, assign, body, defers := w.heap.size } := ⟨_, rfl⟩
  obtain ⟨W1, hW1⟩ : ∃ W1, (w.alloc (.deferred (some []))).alloc (.loop (rec .ready none)) = W1 := ⟨_, rfl⟩
  have L0 : Laid2 rec w.heap.size .ready none W1 := by
    rw [← hW1]
    refine ⟨?_, (Below.heap_alloc _ _ _ (by simp)).trans (World.alloc_heap_new w _)⟩
    have := World.alloc_heap_new (w.alloc (.deferred (some []))) (.loop (rec .ready none))
    rwa [World.size_alloc] at this
  have I0 : I [] W1 := hW1 ▸ hI.alloc (.loop (rec .ready none)) (hI.alloc (.deferred (some [])) h0)
  have T0 : T [] W1 := hW1 ▸ hT.alloc (.loop (rec .ready none)) (hT.alloc (.deferred (some [])) t0)
  refine ⟨w.heap.size + 1, [{ target := .collected w.heap.size, args := #[] }], W1, { target := .fn (.func gf) lb, args := #[.func (.yield (w.heap.size + 1)) #[] #[]] }, W1, gf,
    #[.func (.yield (w.heap.size + 1)) #[] #[]] ++ lb, W1, ?_, ?_, ?_, ?_, fun _ => h1, ?_⟩
  · rw [← hW1, hrec]
    exact run_enterLoop_outer _ _ _ _ _
  · simp only [resolve, hg]
    simp [go_sem]
  · intro f' hf'
    simp [Target.leads] at hf'
    exact hf' ▸ hFg
  · simp [invoke, go_sem, eg]
  clear hW1
  refine (hseq (w.heap.size + 1) (fun pre W => I pre W ∧ Laid2 rec w.heap.size .ready none W) (fun pre W => ∃ c, Ix c pre W ∧ Laid2 rec w.heap.size .done (some c) W) W1
    (fun s X Y ⟨hi, hl⟩ hs => ⟨hIs s X Y hi hs, hl.keep (Nat.le_refl _) (hSp X Y hs)⟩) ?_ ⟨I0, L0⟩ T0).mono ?_
  · rintro pre x X ⟨hi, hl⟩ hm
    have hy := run_yield (P := P) (args := encs x) hl.1 (by rw [hrec]; exact hps x)
    have hb := run_beginRound (P := P) hl.1 (by rw [hrec])
    have hbusy : ({ rec .ready none with state := .busy } : Loop) = rec .busy none := by rw [hrec]
    rw [hbusy] at hb
    have hl2 : Laid2 rec w.heap.size .busy none (X.putObj (w.heap.size + 1) (.loop (rec .busy none))) := hl.put
    have hi2 := own_put2 hI (Nat.le_refl _) hl hi (.loop (rec .busy none))
    have hm2 : Tm pre x (X.putObj (w.heap.size + 1) (.loop (rec .busy none))) := own_put2 (hTm x) (Nat.le_refl _) hl hm (.loop (rec .busy none))
    rw [hrec] at hy
    refine ⟨fn, _, assign, body, hy, roundIn_of_wpIn hfn (hassign _ x X _ ⟨_, hb, wpIn_mono (hbody _ pre x _ hi2 hm2) ?_⟩)⟩
    have fin : ∀ (j : Option Code) (Y : World), KeepsFrom w.heap.size (X.putObj (w.heap.size + 1) (.loop (rec .busy none))) Y →
        Laid2 rec w.heap.size .busy none Y ∧ (Instr.endRound (w.heap.size + 1) j).run P Y = .ok (.bool j.isNone) (Y.putObj (w.heap.size + 1) (.loop (rec (if j.isNone then .ready else .done) j))) := fun j Y hk => by
      have h2 := hl2.keep (Nat.le_refl _) hk
      refine ⟨h2, ?_⟩
      have := run_endRound (P := P) j h2.1
      rw [hrec] at this ⊢
      exact this
    have out : ∀ (c : Code) (Y : World), KeepsFrom w.heap.size (X.putObj (w.heap.size + 1) (.loop (rec .busy none))) Y → Ix c (pre ++ [x]) Y →
        ∃ v Y', (Instr.endRound (w.heap.size + 1) (some c)).run P Y = .ok v Y' ∧ ((Ending.returned v = .returned (.bool true) ∧ (I (pre ++ [x]) Y' ∧ Laid2 rec w.heap.size .ready none Y') ∧ T (pre ++ [x]) Y') ∨ (Ending.returned v = .returned (.bool false) ∧ ∃ c, Ix c (pre ++ [x]) Y' ∧ Laid2 rec w.heap.size .done (some c) Y')) := fun c Y hk hx => by
      obtain ⟨h2, hr⟩ := fin (some c) Y hk
      exact ⟨_, _, hr, .inr ⟨rfl, c, own_put2 (hIx c) (Nat.le_refl _) h2 hx _, h2.put⟩⟩
    intro e a3 Y hp
    cases e with
    | normal =>
      obtain ⟨hk, _, hi3, ht3⟩ := hp
      obtain ⟨h2, hr⟩ := fin none Y hk
      exact ⟨_, _, hr, .inl ⟨rfl, ⟨own_put2 hI (Nat.le_refl _) h2 hi3 _, h2.put⟩, own_put2 hT (Nat.le_refl _) h2 ht3 _⟩⟩
    | ret => exact out _ Y hp.1 hp.2
    | exit id => exact out _ Y hp.1 hp.2
    | goto t => exact out _ Y hp.1 hp.2
    | panic ch => exact hp.elim
    | outgrown => exact hp.elim
  · rintro e Y ⟨⟨v, rfl⟩, ⟨xs, hS, ⟨hi, hl⟩, ht⟩ | ⟨xs, c, hx, hl⟩⟩
    · have hr := run_endLoop (P := P) hl.1 (by rw [hrec]; simp)
      rw [hrec] at hr
      exact ⟨none, _, hr, hdone _ xs _ (Nat.le_refl _) hS (own_put2 hI (Nat.le_refl _) hl hi _) (own_put2 hT (Nat.le_refl _) hl ht _) ((World.putObj_heap_other (by omega)).trans hl.2)⟩
    · have hr := run_endLoop (P := P) hl.1 (by rw [hrec]; simp)
      rw [hrec] at hr
      exact ⟨some c, _, hr, hstop _ c xs _ (Nat.le_refl _) (own_put2 (hIx c) (Nat.le_refl _) hl hx _) ((World.putObj_heap_other (by omega)).trans hl.2)⟩
end Go.Proofs.Ytmhbmeckdbdhpaa

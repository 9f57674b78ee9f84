/- Texts joined for the claim's sake: Rng, DHalf. -/
import Derived.RangeFuncNested
import Derived.RangeFuncWrites
import Derived.RangeFuncBound
import Derived.RangeFuncCalls
import Derived.RangeFuncLeaves
import Derived.Test.YtmhbmeckdbdhpaaZSKnwRow28
import Derived.WalkKit
import Derived.OwnWalkIn
import Derived.TacticsInMore
import Derived.LoopNIn
import Derived.LoopIn
namespace Go.Proofs.Ytmhbmeckdbdhpaa
open Go.RowKit

variable {F : Fence} {n : Nat} {P : Program}

/-- What the function owes: Sp, its own steps; T, what it keeps between two rounds; Tm, what holds as it hands x over; S, what has come when it ends by itself. -/
def Hands {α : Type} (F : Fence) (n : Nat) (P : Program) (gf : Nat) (lb : Array Value) (encs : α → Array Value) (Sp : World → World → Prop) (T : List α → World → Prop) (Tm : List α → α → World → Prop) (S : List α → Prop) : Prop :=
  ∀ (l : Nat) (J Jx : List α → World → Prop) (W : World), (∀ s X Y, J s X → Sp X Y → J s Y) →
    (∀ pre x X, J pre X → Tm pre x X → YieldAt F (n - 1) P l (encs x) X fun e Y => (e = .returned (.bool true) ∧ J (pre ++ [x]) Y ∧ T (pre ++ [x]) Y) ∨ (e = .returned (.bool false) ∧ Jx (pre ++ [x]) Y)) →
    J [] W → T [] W →
    CallsIn F n P gf (#[.func (.yield l) #[] #[]] ++ lb) W fun e Y => (∃ v, e = .returned v) ∧ ((∃ xs, S xs ∧ J xs Y ∧ T xs Y) ∨ (∃ xs, Jx xs Y))

/-- What the law itself has laid: the loop's record at D + 1, the rounds' deferred calls at D. -/
def Laid2 (rec : LoopState → Option Code → Loop) (D : Nat) (s : LoopState) (p : Option Code) (W : World) : Prop :=
  W.heap[D + 1]? = some (.loop (rec s p)) ∧ W.heap[D]? = some (.deferred (some []))
theorem Laid2.keep {rec : LoopState → Option Code → Loop} {D B : Nat} {s : LoopState} {p : Option Code} {X Y : World} (h : Laid2 rec D s p X) (hD : B ≤ D) (hk : KeepsFrom B X Y) : Laid2 rec D s p Y :=
  ⟨hk.same _ _ (by omega) h.1 rfl, hk.same _ _ hD h.2 rfl⟩
theorem Laid2.put {rec : LoopState → Option Code → Loop} {D : Nat} {s s' : LoopState} {p p' : Option Code} {W : World} (h : Laid2 rec D s p W) : Laid2 rec D s' p' (W.putObj (D + 1) (.loop (rec s' p'))) :=
  ⟨World.putObj_heap_same (Array.getElem?_eq_some_iff.1 h.1).1, (World.putObj_heap_other (by omega)).trans h.2⟩
theorem own_put2 {β : Type} {B : Nat} {I : β → World → Prop} (hI : OwnFrom B I) {rec : LoopState → Option Code → Loop} {D : Nat} {st : LoopState} {p : Option Code} {W : World} (hD : B ≤ D) (h : Laid2 rec D st p W) {s : β} (hs : I s W) (o : Obj) : I s (W.putObj (D + 1) o) :=
  hI.putObj o hs (by omega) h.1 rfl

/-- What the caller owes. -/
theorem wpIn_rangeFunc_hands {α : Type} {g : Operand} {ps : Array Tmp} {assign body : Code} {Q : Exit → Act → World → Prop} {a : Act} {w : World}
    (hro : F.round = none) (h1 : 1 ≤ n) {gf : Nat} {lb : Array Value} (hg : a.eval g = .func (.func gf) #[] lb) (hFg : F.fn gf) (eg : ∀ args w, (callFunc gf args).run P w = .ok (.enter gf args) w)
    {encs : α → Array Value} {Sp : World → World → Prop} {T : List α → World → Prop} {Tm : List α → α → World → Prop} {S : List α → Prop} (hseq : Hands F (n - 1) P gf lb encs Sp T Tm S)
    (hSp : ∀ X Y, Sp X Y → KeepsFrom w.heap.size X Y) (hps : ∀ x, (encs x).size = ps.size)
    (hT : OwnFrom w.heap.size T) (hTm : ∀ x, OwnFrom w.heap.size (fun pre W => Tm pre x W))
    (I : List α → World → Prop) (Ix : Code → List α → World → Prop) (hI : OwnFrom w.heap.size I) (hIx : ∀ c, OwnFrom w.heap.size (Ix c)) (hIs : ∀ s X Y, I s X → Sp X Y → I s Y)
    (h0 : I [] w) (t0 : T [] w) (a₁ : α → Act)
    (hassign : ∀ (l : Nat) (x : α) (W : World) (K : Act → World → Prop), K (a₁ x) W →
      assign.wpIn (F.inRound l) (n - 1 - 1) P (Exit.then K (fun _ _ _ => False)) { tmps := (ps.zip (encs x)).foldl (fun t (p, v) => t.setIfInBounds p v) a.tmps, defers := [] } W)
    (hbody : ∀ (l : Nat) (pre : List α) (x : α) (W : World), I pre W → Tm pre x W → body.wpIn (F.inRound l) (n - 1 - 1) P (ownPostG w.heap.size (fun _ _ => True) (fun xs W => I xs W ∧ T xs W) Ix (pre ++ [x]) W) (a₁ x) W)
    (hdone : ∀ (D : Nat) (xs : List α) (W : World), w.heap.size ≤ D → S xs → I xs W → T xs W → W.heap[D]? = some (.deferred (some [])) → Q .normal { a with defers := { target := .collected D, args := #[] } :: a.defers } W)
    (hstop : ∀ (D : Nat) (c : Code) (xs : List α) (W : World), w.heap.size ≤ D → Ix c xs W → W.heap[D]? = some (.deferred (some [])) → c.wpIn F n P Q { a with defers := { target := .collected D, args := #[] } :: a.defers } W) :
    (Code.rangeFunc g ps assign body).wpIn F n P Q a w := by
  refine wpIn_rangeFunc fun fn hfn => ?_
  rw [hro]
  obtain ⟨rec, hrec⟩ : ∃ rec : LoopState → Option Code → Loop, rec = fun st pe => { state := st, pending := pe, fn, tmps := a.tmps, params := ps, assign, body, defers := w.heap.size } := ⟨_, rfl⟩
  obtain ⟨W1, hW1⟩ : ∃ W1, (w.alloc (.deferred (some []))).alloc (.loop (rec .ready none)) = W1 := ⟨_, rfl⟩
  have L0 : Laid2 rec w.heap.size .ready none W1 := by
    rw [← hW1]
    refine ⟨?_, (Below.heap_alloc _ _ _ (by simp)).trans (World.alloc_heap_new w _)⟩
    have := World.alloc_heap_new (w.alloc (.deferred (some []))) (.loop (rec .ready none))
    rwa [World.size_alloc] at this
  have I0 : I [] W1 := hW1 ▸ hI.alloc (.loop (rec .ready none)) (hI.alloc (.deferred (some [])) h0)
  have T0 : T [] W1 := hW1 ▸ hT.alloc (.loop (rec .ready none)) (hT.alloc (.deferred (some [])) t0)
  refine ⟨w.heap.size + 1, [{ target := .collected w.heap.size, args := #[] }], W1, { target := .fn (.func gf) lb, args := #[.func (.yield (w.heap.size + 1)) #[] #[]] }, W1, gf,
    #[.func (.yield (w.heap.size + 1)) #[] #[]] ++ lb, W1, ?_, ?_, ?_, ?_, fun _ => h1, ?_⟩
  · rw [← hW1, hrec]
    exact run_enterLoop_outer _ _ _ _ _
  · simp only [resolve, hg]
    simp [go_sem]
  · intro f' hf'
    simp [Target.leads] at hf'
    exact hf' ▸ hFg
  · simp [invoke, go_sem, eg]
  clear hW1
  refine (hseq (w.heap.size + 1) (fun pre W => I pre W ∧ Laid2 rec w.heap.size .ready none W) (fun pre W => ∃ c, Ix c pre W ∧ Laid2 rec w.heap.size .done (some c) W) W1
    (fun s X Y ⟨hi, hl⟩ hs => ⟨hIs s X Y hi hs, hl.keep (Nat.le_refl _) (hSp X Y hs)⟩) ?_ ⟨I0, L0⟩ T0).mono ?_
  · rintro pre x X ⟨hi, hl⟩ hm
    have hy := run_yield (P := P) (args := encs x) hl.1 (by rw [hrec]; exact hps x)
    have hb := run_beginRound (P := P) hl.1 (by rw [hrec])
    have hbusy : ({ rec .ready none with state := .busy } : Loop) = rec .busy none := by rw [hrec]
    rw [hbusy] at hb
    have hl2 : Laid2 rec w.heap.size .busy none (X.putObj (w.heap.size + 1) (.loop (rec .busy none))) := hl.put
    have hi2 := own_put2 hI (Nat.le_refl _) hl hi (.loop (rec .busy none))
    have hm2 : Tm pre x (X.putObj (w.heap.size + 1) (.loop (rec .busy none))) := own_put2 (hTm x) (Nat.le_refl _) hl hm (.loop (rec .busy none))
    rw [hrec] at hy
    refine ⟨fn, _, assign, body, hy, roundIn_of_wpIn hfn (hassign _ x X _ ⟨_, hb, wpIn_mono (hbody _ pre x _ hi2 hm2) ?_⟩)⟩
    have fin : ∀ (j : Option Code) (Y : World), KeepsFrom w.heap.size (X.putObj (w.heap.size + 1) (.loop (rec .busy none))) Y →
        Laid2 rec w.heap.size .busy none Y ∧ (Instr.endRound (w.heap.size + 1) j).run P Y = .ok (.bool j.isNone) (Y.putObj (w.heap.size + 1) (.loop (rec (if j.isNone then .ready else .done) j))) := fun j Y hk => by
      have h2 := hl2.keep (Nat.le_refl _) hk
      refine ⟨h2, ?_⟩
      have := run_endRound (P := P) j h2.1
      rw [hrec] at this ⊢
      exact this
    have out : ∀ (c : Code) (Y : World), KeepsFrom w.heap.size (X.putObj (w.heap.size + 1) (.loop (rec .busy none))) Y → Ix c (pre ++ [x]) Y →
        ∃ v Y', (Instr.endRound (w.heap.size + 1) (some c)).run P Y = .ok v Y' ∧ ((Ending.returned v = .returned (.bool true) ∧ (I (pre ++ [x]) Y' ∧ Laid2 rec w.heap.size .ready none Y') ∧ T (pre ++ [x]) Y') ∨ (Ending.returned v = .returned (.bool false) ∧ ∃ c, Ix c (pre ++ [x]) Y' ∧ Laid2 rec w.heap.size .done (some c) Y')) := fun c Y hk hx => by
      obtain ⟨h2, hr⟩ := fin (some c) Y hk
      exact ⟨_, _, hr, .inr ⟨rfl, c, own_put2 (hIx c) (Nat.le_refl _) h2 hx _, h2.put⟩⟩
    intro e a3 Y hp
    cases e with
    | normal =>
      obtain ⟨hk, _, hi3, ht3⟩ := hp
      obtain ⟨h2, hr⟩ := fin none Y hk
      exact ⟨_, _, hr, .inl ⟨rfl, ⟨own_put2 hI (Nat.le_refl _) h2 hi3 _, h2.put⟩, own_put2 hT (Nat.le_refl _) h2 ht3 _⟩⟩
    | ret => exact out _ Y hp.1 hp.2
    | exit id => exact out _ Y hp.1 hp.2
    | goto t => exact out _ Y hp.1 hp.2
    | panic ch => exact hp.elim
    | outgrown => exact hp.elim
  · rintro e Y ⟨⟨v, rfl⟩, ⟨xs, hS, ⟨hi, hl⟩, ht⟩ | ⟨xs, c, hx, hl⟩⟩
    · have hr := run_endLoop (P := P) hl.1 (by rw [hrec]; simp)
      rw [hrec] at hr
      exact ⟨none, _, hr, hdone _ xs _ (Nat.le_refl _) hS (own_put2 hI (Nat.le_refl _) hl hi _) (own_put2 hT (Nat.le_refl _) hl ht _) ((World.putObj_heap_other (by omega)).trans hl.2)⟩
    · have hr := run_endLoop (P := P) hl.1 (by rw [hrec]; simp)
      rw [hrec] at hr
      exact ⟨some c, _, hr, hstop _ c xs _ (Nat.le_refl _) (own_put2 (hIx c) (Nat.le_refl _) hl hx _) ((World.putObj_heap_other (by omega)).trans hl.2)⟩
end Go.Proofs.Ytmhbmeckdbdhpaa

namespace Go.Proofs.Ytmhbmeckdbdhpaa
open Go.RowKit Go.Shelf
attribute [local go_sem] Oper.semAt_some

/-- The kinds as they are, and their duals. -/
abbrev row0 : Array Value := #[.int .i64 0, .int .i64 1, .int .i64 2, .int .i64 3, .int .i64 4, .int .i64 5]
abbrev row1 : Array Value := #[.int .i64 0, .int .i64 2, .int .i64 1, .int .i64 4, .int .i64 3, .int .i64 5]
abbrev rows2 : Array Value := #[.int .i64 0, .int .i64 1, .int .i64 2, .int .i64 3, .int .i64 4, .int .i64 5, .int .i64 0, .int .i64 2, .int .i64 1, .int .i64 4, .int .i64 3, .int .i64 5]
theorem halves_any (N : Nat) (w : World) : Calls Try.prog 66 #[.int .i64 (N : Int)] w fun e w' => e = .returned (.func (.func 74) #[] #[.pointer (some ⟨w.heap.size + 1, 0, none⟩), .pointer (some ⟨w.heap.size, 0, none⟩)]) ∧ w' = (w.alloc (.cells #[.int .i64 (N : Int)] 3)).alloc (.cells rows2 140) := by
  have hmf : ∀ (fn : Fn) (first cap : Array Value) (w : World), (Instr.makeFunc fn first cap).run Try.prog w = .ok (.func fn first cap) w := fun _ _ _ _ => rfl
  go_enter Try.func66, Try.ntmps66
  go_wp2
  go_ret
  exact ⟨by simp, rfl⟩

/-- What is handed over: a half's row, how much further. -/
def hEnc (x : Nat × Nat) : Array Value := #[turnV x.1 x.2]
def hT (bk bn N : Nat) (_ : List (Nat × Nat)) (W : World) : Prop := Blk W bk 140 rows2 ∧ Blk W bn 3 #[.int .i64 (N : Int)]
def hTm (bk bn N : Nat) (pre : List (Nat × Nat)) (x : Nat × Nat) (W : World) : Prop := hT bk bn N pre W ∧ ((pre.length = 0 ∧ Blk W x.1 139 row0 ∧ Blk W x.2 3 #[.int .i64 ((0 : Nat) : Int)]) ∨ (pre.length = 1 ∧ Blk W x.1 139 row1 ∧ Blk W x.2 3 #[.int .i64 (N : Int)]))

set_option maxRecDepth 100000 in
set_option maxHeartbeats 2000000 in
theorem halves_hands (bk bn N : Nat) (hN : N ≤ 1000) :
    Hands Fence.wide 2 Try.prog 74 #[.pointer (some ⟨bk, 0, none⟩), .pointer (some ⟨bn, 0, none⟩)] hEnc (fun X Y => X.grownBy Y none) (hT bk bn N) (hTm bk bn N) (fun xs => xs.length = 2) := fun l J Jx W hJ hY h0 ⟨hb, hn⟩ => by
  refine callsIn_of_wp Try.func74 rfl trivial ?_ rfl
  simp only [Try.ntmps74, List.size_toArray, List.length_cons, List.length_nil, Nat.reduceAdd, Nat.reduceSub, Array.replicate_succ, Array.replicate_zero, List.push_toArray, List.append_toArray, List.nil_append, List.cons_append]
  have hi0 : ∀ w, (Instr.index 140 (.agg #[.int .i64 0, .int .i64 1, .int .i64 2, .int .i64 3, .int .i64 4, .int .i64 5, .int .i64 0, .int .i64 2, .int .i64 1, .int .i64 4, .int .i64 3, .int .i64 5]) (.int .i64 0)).run Try.prog w = .ok (.agg #[.int .i64 0, .int .i64 1, .int .i64 2, .int .i64 3, .int .i64 4, .int .i64 5]) w := fun w => by kernel_rfl
  have hi1 : ∀ w, (Instr.index 140 (.agg #[.int .i64 0, .int .i64 1, .int .i64 2, .int .i64 3, .int .i64 4, .int .i64 5, .int .i64 0, .int .i64 2, .int .i64 1, .int .i64 4, .int .i64 3, .int .i64 5]) (.int .i64 1)).run Try.prog w = .ok (.agg #[.int .i64 0, .int .i64 2, .int .i64 1, .int .i64 4, .int .i64 3, .int .i64 5]) w := fun w => by kernel_rfl
  have HB := Lib.hid hb
  have HN := Lib.hid hn
  have HY := Lib.hid hY
  have HJ := Lib.hid hJ
  have H0 := Lib.hid h0
  have c0 := hb.cell 0
  have c1 := hb.cell 1
  have c2 := hb.cell 2
  have c3 := hb.cell 3
  have c4 := hb.cell 4
  have c5 := hb.cell 5
  have c6 := hb.cell 6
  have c7 := hb.cell 7
  have c8 := hb.cell 8
  have c9 := hb.cell 9
  have c10 := hb.cell 10
  have c11 := hb.cell 11
  clear hb hn hY hJ h0
  gi_wp2_with fail
  gi_loopw [7] (fun i wr => ∃ xs : List (Nat × Nat), xs.length ≤ 2 ∧ i = .int .i64 (xs.length : Int) ∧ J xs wr ∧ hT bk bn N xs wr) (fun i _ => 2 - (intOf i).toNat)
  case atStart => exact ⟨[], by decide, rfl, H0.out, HB.out, HN.out⟩
  case round =>
    obtain ⟨xs, hk, rfl, hj, ht⟩ := hrel
    obtain ⟨hb, hn⟩ := ht
    have n0 := hn.cell 0
    have hbk := hb.lt
    have hbn := hn.lt
    have h3 : xs.length = 0 ∨ xs.length = 1 ∨ xs.length = 2 := by omega
    rcases h3 with h3 | h3 | h3
    · rw [h3]
      have hgr : wr.grownBy (((wr.alloc (.cells #[.int .i64 0, .int .i64 1, .int .i64 2, .int .i64 3, .int .i64 4, .int .i64 5] 139)).alloc (.cells #[.int .i64 0, .int .i64 1, .int .i64 2, .int .i64 3, .int .i64 4, .int .i64 5] 139)).alloc (.cells #[.int .i64 0] 3)) none := only_alloc (only_alloc (only_alloc (only_refl _ _) _) _) _
      obtain ⟨fn, tmps, assign, body, hy, hR⟩ := HY.out xs (wr.heap.size + 1, wr.heap.size + 1 + 1) (((wr.alloc (.cells #[.int .i64 0, .int .i64 1, .int .i64 2, .int .i64 3, .int .i64 4, .int .i64 5] 139)).alloc (.cells #[.int .i64 0, .int .i64 1, .int .i64 2, .int .i64 3, .int .i64 4, .int .i64 5] 139)).alloc (.cells #[.int .i64 0] 3)) (HJ.out _ _ _ hj hgr)
        ⟨⟨hb.kept hgr, hn.kept hgr⟩, .inl ⟨h3, (blk_at (by simp) _ _).alloc _, blk_at (by simp) _ _⟩⟩
      simp only [hEnc] at hy
      have H3 := Lib.hid h3
      clear hj h3 hk HB HN H0 hgr
      gi_wp2_with (refine ⟨trivial, ?_⟩; gi_at_call 75; go_must (refine (callsIn_wide.2 (turner_any #[.int .i64 0, .int .i64 1, .int .i64 2, .int .i64 3, .int .i64 4, .int .i64 5] 0 _ ⟨_, _, _, _, _, _, rfl⟩)).mono ?_; rintro e w' ⟨rfl, rfl⟩))
      refine hR.mono ?_
      rintro e W3 (⟨rfl, hJ3, hT3⟩ | ⟨rfl, hJ3⟩)
      · have HJ3 := Lib.hid hJ3
        have HT3 := Lib.hid hT3
        clear hJ3 hT3 hy hR
        gi_wp2_with fail
        go_roundw
        case rel => exact ⟨xs ++ [(wr.heap.size + 1, wr.heap.size + 1 + 1)], by rw [List.length_append, H3.out, List.length_singleton]; decide, by rw [List.length_append, H3.out]; rfl, HJ3.out, HT3.out⟩
        case measure => simp [intOf]
      · have HX := Lib.hid hJ3
        clear hJ3 hy hR
        gi_wp2_with fail
        refine bodyPost_ret (results_none rfl _ _ _) rfl ?_
        exact ⟨⟨_, rfl⟩, .inr ⟨_, HX.out⟩⟩
    · rw [h3]
      have hgr : wr.grownBy (((wr.alloc (.cells #[.int .i64 0, .int .i64 2, .int .i64 1, .int .i64 4, .int .i64 3, .int .i64 5] 139)).alloc (.cells #[.int .i64 0, .int .i64 2, .int .i64 1, .int .i64 4, .int .i64 3, .int .i64 5] 139)).alloc (.cells #[.int .i64 (N : Int)] 3)) none := only_alloc (only_alloc (only_alloc (only_refl _ _) _) _) _
      obtain ⟨fn, tmps, assign, body, hy, hR⟩ := HY.out xs (wr.heap.size + 1, wr.heap.size + 1 + 1) (((wr.alloc (.cells #[.int .i64 0, .int .i64 2, .int .i64 1, .int .i64 4, .int .i64 3, .int .i64 5] 139)).alloc (.cells #[.int .i64 0, .int .i64 2, .int .i64 1, .int .i64 4, .int .i64 3, .int .i64 5] 139)).alloc (.cells #[.int .i64 (N : Int)] 3)) (HJ.out _ _ _ hj hgr)
        ⟨⟨hb.kept hgr, hn.kept hgr⟩, .inr ⟨h3, (blk_at (by simp) _ _).alloc _, blk_at (by simp) _ _⟩⟩
      simp only [hEnc] at hy
      have H3 := Lib.hid h3
      clear hj h3 hk HB HN H0 hgr
      gi_wp2_with (refine ⟨trivial, ?_⟩; gi_at_call 75; go_must (refine (callsIn_wide.2 (turner_any #[.int .i64 0, .int .i64 2, .int .i64 1, .int .i64 4, .int .i64 3, .int .i64 5] (N : Int) _ ⟨_, _, _, _, _, _, rfl⟩)).mono ?_; rintro e w' ⟨rfl, rfl⟩))
      refine hR.mono ?_
      rintro e W3 (⟨rfl, hJ3, hT3⟩ | ⟨rfl, hJ3⟩)
      · have HJ3 := Lib.hid hJ3
        have HT3 := Lib.hid hT3
        clear hJ3 hT3 hy hR
        gi_wp2_with fail
        go_roundw
        case rel => exact ⟨xs ++ [(wr.heap.size + 1, wr.heap.size + 1 + 1)], by rw [List.length_append, H3.out, List.length_singleton]; decide, by rw [List.length_append, H3.out]; rfl, HJ3.out, HT3.out⟩
        case measure => simp [intOf]
      · have HX := Lib.hid hJ3
        clear hJ3 hy hR
        gi_wp2_with fail
        refine bodyPost_ret (results_none rfl _ _ _) rfl ?_
        exact ⟨⟨_, rfl⟩, .inr ⟨_, HX.out⟩⟩
    · rw [h3]
      have HX : Hid (J xs wr) := hj
      have HT : Hid (hT bk bn N xs wr) := Lib.hid ⟨hb, hn⟩
      have H3 := Lib.hid h3
      clear hj hb hn h3 hk HB HN H0
      gi_wp2_with fail
      go_end0
      exact ⟨⟨_, rfl⟩, .inl ⟨xs, H3.out, HX.out, HT.out⟩⟩
end Go.Proofs.Ytmhbmeckdbdhpaa

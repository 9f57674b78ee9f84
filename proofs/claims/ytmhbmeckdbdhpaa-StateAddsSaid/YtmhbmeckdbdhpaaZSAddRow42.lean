/- Texts joined for the claim's sake: DMat, BTl. -/
import Derived.Test.YtmhbmeckdbdhpaaZSAddRow41
import Derived.Test.YtmhbmeckdbdhpaaZSAddRow4
import Derived.Test.YtmhbmeckdbdhpaaZSAddRow20
import Derived.Deep.CutBlock
import Derived.Deep.CutRange
import Derived.Deep.QuietTactic
import Derived.BigQuiet
import Derived.Test.YtmhbmeckdbdhpaaZSAddRow17
namespace Go.Proofs.Ytmhbmeckdbdhpaa
open Go.RowKit Go.Shelf

set_option maxHeartbeats 400000 in
theorem dmate_eq (n m : Int) (w : World) (h0 : -1000000000 ≤ n) (h1 : n ≤ 1000000000) (h2 : -9223372036854775808 ≤ m) (h3 : m ≤ 9223372036854775807) : Calls Try.prog 34 #[.int .i64 n, .int .i64 m] w fun e w' => e = .returned (.int .i64 (mateA n m)) ∧ w = w' := by
  obtain ⟨r, hr⟩ : ∃ r, mateA n m = r := ⟨_, rfl⟩
  rw [hr]
  have HR := Lib.hid hr
  clear hr
  by_cases c0 : n < 1
  · have e : mateA n m = -1 := by unfold mateA; rw [if_pos (by omega)]
    have HE := Lib.hid e
    clear e
    go_enter Try.func34, Try.ntmps34
    go_wp2_with fail
    go_ret
    exact ⟨by rw [← HR.out, HE.out]; rfl, rfl⟩
  · have c0' : 1 ≤ n := by omega
    by_cases c1 : m < 0
    · have e : mateA n m = -1 := by unfold mateA; rw [if_pos (by omega)]
      have HE := Lib.hid e
      clear e
      go_enter Try.func34, Try.ntmps34
      go_wp2_with fail
      go_ret
      exact ⟨by rw [← HR.out, HE.out]; rfl, rfl⟩
    · have c1' : 0 ≤ m := by omega
      by_cases c2 : 2 * n ≤ m
      · have e : mateA n m = -1 := by unfold mateA; rw [if_pos (by omega)]
        have HE := Lib.hid e
        clear e
        have c2' : 2 * n - 1 < m := by omega
        go_enter Try.func34, Try.ntmps34
        go_wp2_with fail
        go_ret
        exact ⟨by rw [← HR.out, HE.out]; rfl, rfl⟩
      · have c2' : m ≤ 2 * n - 1 := by omega
        by_cases c3 : m < n
        · have e : mateA n m = m + n := mate_low c0' c1' c3
          have HE := Lib.hid e
          clear e
          go_enter Try.func34, Try.ntmps34
          go_wp2_with fail
          go_ret
          exact ⟨by rw [← HR.out, HE.out, Int.add_comm m n]; rfl, rfl⟩
        · have c3' : n ≤ m := by omega
          have e : mateA n m = m - n := mate_high c0' c3' (by omega)
          have HE := Lib.hid e
          clear e
          go_enter Try.func34, Try.ntmps34
          go_wp2_with fail
          go_ret
          exact ⟨by rw [← HR.out, HE.out]; rfl, rfl⟩

end Go.Proofs.Ytmhbmeckdbdhpaa

namespace Go.Proofs.Ytmhbmeckdbdhpaa
open Go.RowKit

variable {F : Fence} {n : Nat} {P : Program}

/-- What S names stays as it is; of the rest, what is of none of these types. -/
structure KS (S : Nat → Prop) (ts : List TypeId) (X Y : World) : Prop where
  size : X.heap.size ≤ Y.heap.size
  low : ∀ k, S k → k < X.heap.size → Y.heap[k]? = X.heap[k]?
  typ : ∀ k t cs, Blk X k t cs → t ∉ ts → Blk Y k t cs
section
variable {S : Nat → Prop} {ts : List TypeId}
theorem KS.refl (X : World) : KS S ts X X := ⟨Nat.le_refl _, fun _ _ _ => rfl, fun _ _ _ h _ => h⟩
theorem KS.trans {X Y Z : World} (h : KS S ts X Y) (k : KS S ts Y Z) : KS S ts X Z :=
  ⟨Nat.le_trans h.size k.size, fun i hi hx => (k.low i hi (Nat.lt_of_lt_of_le hx h.size)).trans (h.low i hi hx), fun i t cs hb ht => k.typ i t cs (h.typ i t cs hb ht) ht⟩
theorem KS.grown {X Y : World} (h : X.grownBy Y none) : KS S ts X Y := ⟨h.size, fun k _ hk => h.block k hk (fun e => by cases e), fun _ _ _ hb _ => hb.kept h⟩
theorem KS.alloc (X : World) (o : Obj) : KS S ts X (X.alloc o) := .grown (World.grownBy_alloc X o none)
theorem KS.putObj (X : World) (l : Nat) (o o' : Obj) (hl : ¬ S l) (ho : X.heap[l]? = some o) (hc : o.isCells = false) : KS S ts X (X.putObj l o') :=
  ⟨by simp, fun k hk _ => World.putObj_heap_other (fun e => hl (by rw [← e]; exact hk)), fun k t cs hb _ => hb.keeps (.putObj o' ho hc)⟩
/-- A turn of one block that S doesn't name, of one of the types. -/
theorem KS.row {X Y : World} {row : Option Nat} (h : X.grownBy Y row) (hr : ∀ g, row = some g → ¬ S g ∧ ∃ t cs, Blk X g t cs ∧ t ∈ ts) : KS S ts X Y :=
  ⟨h.size, fun k hk hx => h.block k hx (fun e => (hr k e.symm).1 hk), fun k t cs hb ht => hb.grown h (fun e => by
    obtain ⟨_, t', cs', hb', ht'⟩ := hr k e.symm
    unfold Blk at hb hb'
    rw [hb] at hb'
    cases hb'
    exact ht ht')⟩
theorem KS.cell {X Y : World} (h : KS S ts X Y) {a : Addr} {v : Value} (ha : S a.block) (hc : X.cell? a = some v) : Y.cell? a = some v := by
  have hlt : a.block < X.heap.size := by
    rcases Nat.lt_or_ge a.block X.heap.size with hl | hl
    · exact hl
    · unfold World.cell? at hc
      rw [Array.getElem?_eq_none hl] at hc
      simp at hc
  rw [World.cell?_of_block (h.low _ ha hlt)]
  exact hc
theorem KS.blk {X Y : World} (h : KS S ts X Y) {k : Nat} {t : TypeId} {cs : Array Value} (hk : S k) (hb : Blk X k t cs) : Blk Y k t cs := (h.low k hk hb.lt).trans hb
end

/-- What the caller owes, where the loop's variables lie in no block. -/
theorem wpIn_rangeFunc_toldP {α : Type} {g : Operand} {ps : Array Tmp} {assign body : Code} {Q : Exit → Act → World → Prop} {a : Act} {w : World}
    (hro : F.round = none) (h1 : 1 ≤ n) {gf : Nat} {lb : Array Value} (hg : a.eval g = .func (.func gf) #[] lb) (hFg : F.fn gf) (eg : ∀ args w, (callFunc gf args).run P w = .ok (.enter gf args) w)
    {encs : α → Array Value} {Kp : World → World → Prop} {T0 : World → Prop} {L : List α} (hseq : TellsO F (n - 1) P gf lb encs Kp T0 L)
    (hKt : ∀ {A B C : World}, Kp A B → Kp B C → Kp A C) (hKp : ∀ (W : World) (l : Nat) (o o' : Obj), w.heap.size ≤ l → W.heap[l]? = some o → o.isCells = false → Kp W (W.putObj l o'))
    (hps : ∀ x, (encs x).size = ps.size) (hT0 : ∀ W, Below w.heap.size w W → T0 W)
    (I : List α → World → Prop) (Ix : Code → List α → World → Prop) (hI : OwnFrom w.heap.size I) (hIx : ∀ c, OwnFrom w.heap.size (Ix c))
    (h0 : I [] w) (a₁ : α → Act)
    (hassign : ∀ (l : Nat) (x : α) (W : World) (K : Act → World → Prop), K (a₁ x) W →
      assign.wpIn (F.inRound l) (n - 1 - 1) P (Exit.then K (fun _ _ _ => False)) { tmps := (ps.zip (encs x)).foldl (fun t (p, v) => t.setIfInBounds p v) a.tmps, defers := [] } W)
    (hbody : ∀ (l : Nat) (pre : List α) (x : α) (W : World), pre ++ [x] <+: L → w.heap.size ≤ W.heap.size → I pre W → body.wpIn (F.inRound l) (n - 1 - 1) P (ownPostG w.heap.size Kp I Ix (pre ++ [x]) W) (a₁ x) W)
    (hdone : ∀ (D : Nat) (W : World), w.heap.size ≤ D → I L W → W.heap[D]? = some (.deferred (some [])) → Q .normal { a with defers := { target := .collected D, args := #[] } :: a.defers } W)
    (hstop : ∀ (D : Nat) (c : Code) (pre : List α) (W : World), w.heap.size ≤ D → pre <+: L → pre ≠ [] → Ix c pre W → W.heap[D]? = some (.deferred (some [])) → c.wpIn F n P Q { a with defers := { target := .collected D, args := #[] } :: a.defers } W) :
    (Code.rangeFunc g ps assign body).wpIn F n P Q a w := by
  refine wpIn_rangeFunc fun fn hfn => ?_
  rw [hro]
  obtain ⟨rec, hrec⟩ : ∃ rec : LoopState → Option Code → Loop, rec = fun st pe => { state := st, pending := pe, fn, tmps := a.tmps, params := ps, assign, body, defers := w.heap.size } := ⟨_, rfl⟩
  obtain ⟨W1, hW1⟩ : ∃ W1, (w.alloc (.deferred (some []))).alloc (.loop (rec .ready none)) = W1 := ⟨_, rfl⟩
  have L0 : LaidAt rec w.heap.size .ready none W1 := by
    rw [← hW1]
    refine ⟨?_, (Below.heap_alloc _ _ _ (by simp)).trans (World.alloc_heap_new w _)⟩
    have := World.alloc_heap_new (w.alloc (.deferred (some []))) (.loop (rec .ready none))
    rwa [World.size_alloc] at this
  have hb1 : Below w.heap.size w W1 := hW1 ▸ ((Below.refl _ _).alloc (Nat.le_refl _) _).alloc (by simp) _
  have hz1 : W1.heap.size = w.heap.size + 2 := by rw [← hW1]; simp
  have I0 : I [] W1 := hW1 ▸ hI.alloc (.loop (rec .ready none)) (hI.alloc (.deferred (some [])) h0)
  refine ⟨w.heap.size + 1, [{ target := .collected w.heap.size, args := #[] }], W1, { target := .fn (.func gf) lb, args := #[.func (.yield (w.heap.size + 1)) #[] #[]] }, W1, gf,
    #[.func (.yield (w.heap.size + 1)) #[] #[]] ++ lb, W1, ?_, ?_, ?_, ?_, fun _ => h1, ?_⟩
  · rw [← hW1, hrec]
    exact run_enterLoop_outer _ _ _ _ _
  · simp only [resolve, hg]
    simp [go_sem]
  · intro f' hf'
    simp [Target.leads] at hf'
    exact hf' ▸ hFg
  · simp [invoke, go_sem, eg]
  clear hW1
  refine (hseq (w.heap.size + 1) (fun pre W => I pre W ∧ LaidAt rec w.heap.size .ready none W) (fun pre W => ∃ c, Ix c pre W ∧ LaidAt rec w.heap.size .done (some c) W) W1
    (fun s X Y ⟨hi, hl⟩ hs => ⟨hI s X Y none hi hs (fun r e => by cases e), hl.keep (Nat.le_refl _) (only_keepsFrom hs _)⟩) ?_ ⟨I0, L0⟩ (hT0 _ hb1)).mono ?_
  · rintro pre x X hx ⟨hi, hl⟩
    have hy := run_yield (P := P) (args := encs x) hl.1 (by rw [hrec]; exact hps x)
    rw [hrec] at hy
    refine ⟨fn, _, assign, body, hy, roundIn_of_wpIn hfn (hassign _ x X _ ?_)⟩
    have hXD : w.heap.size + 1 < X.heap.size := (Array.getElem?_eq_some_iff.1 hl.1).1
    have hl0 := hl
    have hi0 := hi
    have hb := run_beginRound (P := P) hl0.1 (by rw [hrec])
    have hbusy : ({ rec .ready none with state := .busy } : Loop) = rec .busy none := by rw [hrec]
    rw [hbusy] at hb
    have hl2 : LaidAt rec w.heap.size .busy none (X.putObj (w.heap.size + 1) (.loop (rec .busy none))) := hl0.put
    have hi2 := hI.putObj (.loop (rec .busy none)) hi0 (Nat.le_succ _) hl0.1 rfl
    have kX2 := hKp X (w.heap.size + 1) _ (.loop (rec .busy none)) (Nat.le_succ _) hl0.1 rfl
    refine ⟨_, hb, wpIn_mono (hbody _ pre x _ hx (by simp; omega) hi2) ?_⟩
    have fin : ∀ (j : Option Code) (Y : World), KeepsFrom w.heap.size (X.putObj (w.heap.size + 1) (.loop (rec .busy none))) Y →
        LaidAt rec w.heap.size .busy none Y ∧ (Instr.endRound (w.heap.size + 1) j).run P Y = .ok (.bool j.isNone) (Y.putObj (w.heap.size + 1) (.loop (rec (if j.isNone then .ready else .done) j))) := fun j Y hk => by
      have h2 := hl2.keep (Nat.le_refl _) hk
      refine ⟨h2, ?_⟩
      have := run_endRound (P := P) j h2.1
      rw [hrec] at this ⊢
      exact this
    have out : ∀ (c : Code) (Y : World), KeepsFrom w.heap.size (X.putObj (w.heap.size + 1) (.loop (rec .busy none))) Y → Ix c (pre ++ [x]) Y →
        ∃ v Y', (Instr.endRound (w.heap.size + 1) (some c)).run P Y = .ok v Y' ∧ ((Ending.returned v = .returned (.bool true) ∧ (I (pre ++ [x]) Y' ∧ LaidAt rec w.heap.size .ready none Y') ∧ Kp X Y') ∨ (Ending.returned v = .returned (.bool false) ∧ ∃ c, Ix c (pre ++ [x]) Y' ∧ LaidAt rec w.heap.size .done (some c) Y')) := fun c Y hk hx => by
      obtain ⟨h2, hr⟩ := fin (some c) Y hk
      exact ⟨_, _, hr, .inr ⟨rfl, c, (hIx c).putObj _ hx (Nat.le_succ _) h2.1 rfl, h2.put⟩⟩
    intro e a3 Y hp
    cases e with
    | normal =>
      obtain ⟨hk, hkp, hi3⟩ := hp
      obtain ⟨h2, hr⟩ := fin none Y hk
      exact ⟨_, _, hr, .inl ⟨rfl, ⟨hI.putObj _ hi3 (Nat.le_succ _) h2.1 rfl, h2.put⟩, hKt kX2 (hKt hkp (hKp _ _ _ _ (Nat.le_succ _) h2.1 rfl))⟩⟩
    | ret => exact out _ Y hp.1 hp.2
    | exit id => exact out _ Y hp.1 hp.2
    | goto t => exact out _ Y hp.1 hp.2
    | panic ch => exact hp.elim
    | outgrown => exact hp.elim
  · rintro e Y ⟨⟨v, rfl⟩, ⟨hi, hl⟩ | ⟨pre, hpre, hne, c, hx, hl⟩⟩
    · have hr := run_endLoop (P := P) hl.1 (by rw [hrec]; simp)
      rw [hrec] at hr
      exact ⟨none, _, hr, hdone _ _ (Nat.le_refl _) (hI.putObj _ hi (Nat.le_succ _) hl.1 rfl) ((World.putObj_heap_other (by omega)).trans hl.2)⟩
    · have hr := run_endLoop (P := P) hl.1 (by rw [hrec]; simp)
      rw [hrec] at hr
      exact ⟨some c, _, hr, hstop _ c pre _ (Nat.le_refl _) hpre hne ((hIx c).putObj _ hx (Nat.le_succ _) hl.1 rfl) ((World.putObj_heap_other (by omega)).trans hl.2)⟩

end Go.Proofs.Ytmhbmeckdbdhpaa

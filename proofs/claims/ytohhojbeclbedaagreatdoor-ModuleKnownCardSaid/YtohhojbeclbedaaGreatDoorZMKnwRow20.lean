/- Texts joined for the claim's sake: RngB, GLaw, SecP, SecL, SecK. -/
import Derived.Test.YtohhojbeclbedaaGreatDoorZMKnwRow13
import Derived.RangeFuncNested
import Derived.RangeFuncWrites
import Derived.RangeFuncBound
import Derived.RangeFuncCalls
import Derived.RangeFuncLeaves
import Derived.Test.YtohhojbeclbedaaGreatDoorZMKnwRow0
import Derived.Test.YtohhojbeclbedaaGreatDoorZMKnwRow19
namespace Go.Proofs.YtohhojbeclbedaaGreatDoor
open Go.RowKit

variable {F : Fence} {n : Nat} {P : Program}

/-- What the caller owes. -/
theorem wpIn_rangeFunc_handsB {α : Type} {g : Operand} {ps : Array Tmp} {assign body : Code} {Q : Exit → Act → World → Prop} {a : Act} {w : World}
    (hro : F.round = none) (h1 : 1 ≤ n) {gf : Nat} {lb : Array Value} (hg : a.eval g = .func (.func gf) #[] lb) (hFg : F.fn gf) (eg : ∀ args w, (callFunc gf args).run P w = .ok (.enter gf args) w)
    {encs : α → Array Value} {Sp : World → World → Prop} {T : List α → World → Prop} {Tm : List α → α → World → Prop} {S : List α → World → Prop} (hseq : HandsW F (n - 1) P gf lb encs Sp T Tm S)
    (hSp : ∀ X Y, Sp X Y → KeepsFrom w.heap.size X Y) (hps : ∀ x, (encs x).size = ps.size)
    (hT : OwnFrom w.heap.size T) (hS : OwnFrom w.heap.size S) (hTm : ∀ x, OwnFrom w.heap.size (fun pre W => Tm pre x W))
    (I : List α → World → Prop) (Ix : Code → List α → World → Prop) (hI : OwnFrom w.heap.size I) (hIx : ∀ c, OwnFrom w.heap.size (Ix c)) (hIs : ∀ s X Y, I s X → Sp X Y → I s Y)
    (h0 : I [] w) (t0 : T [] w) (bt : TypeId) (bc : α → Array Value) (a₁ : α → Nat → Act)
    (hassign : ∀ (l : Nat) (x : α) (W : World) (K : Act → World → Prop), K (a₁ x W.heap.size) (W.alloc (.cells (bc x) bt)) →
      assign.wpIn (F.inRound l) (n - 1 - 1) P (Exit.then K (fun _ _ _ => False)) { tmps := (ps.zip (encs x)).foldl (fun t (p, v) => t.setIfInBounds p v) a.tmps, defers := [] } W)
    (hbody : ∀ (l : Nat) (pre : List α) (x : α) (W : World) (b : Nat), I pre W → Tm pre x W → w.heap.size ≤ b → Blk W b bt (bc x) → body.wpIn (F.inRound l) (n - 1 - 1) P (ownPostG w.heap.size (fun _ _ => True) (fun xs W => I xs W ∧ T xs W) Ix (pre ++ [x]) W) (a₁ x b) W)
    (hdone : ∀ (D : Nat) (xs : List α) (W : World), w.heap.size ≤ D → S xs W → I xs W → W.heap[D]? = some (.deferred (some [])) → Q .normal { a with defers := { target := .collected D, args := #[] } :: a.defers } W)
    (hstop : ∀ (D : Nat) (c : Code) (xs : List α) (W : World), w.heap.size ≤ D → Ix c xs W → W.heap[D]? = some (.deferred (some [])) → c.wpIn F n P Q { a with defers := { target := .collected D, args := #[] } :: a.defers } W) :
    (Code.rangeFunc g ps assign body).wpIn F n P Q a w := by
  refine wpIn_rangeFunc fun fn hfn => ?_
  rw [hro]
  obtain ⟨rec, hrec⟩ : ∃ rec : LoopState → Option Code → Loop, rec = fun st pe => { state := st, pending := pe, fn, tmps := a.tmps, params := ps, assign, body, defers := w.heap.size } := ⟨_, rfl⟩
  obtain ⟨W1, hW1⟩ : ∃ W1, (w.alloc (.deferred (some []))).alloc (.loop (rec .ready none)) = W1 := ⟨_, rfl⟩
  have L0 : Laid2 rec w.heap.size .ready none W1 := by
    rw [← hW1]
    refine ⟨?_, (Below.heap_alloc _ _ _ (by simp)).trans (World.alloc_heap_new w _)⟩
    have := World.alloc_heap_new (w.alloc (.deferred (some []))) (.loop (rec .ready none))
    rwa [World.size_alloc] at this
  have I0 : I [] W1 := hW1 ▸ hI.alloc (.loop (rec .ready none)) (hI.alloc (.deferred (some [])) h0)
  have T0 : T [] W1 := hW1 ▸ hT.alloc (.loop (rec .ready none)) (hT.alloc (.deferred (some [])) t0)
  refine ⟨w.heap.size + 1, [{ target := .collected w.heap.size, args := #[] }], W1, { target := .fn (.func gf) lb, args := #[.func (.yield (w.heap.size + 1)) #[] #[]] }, W1, gf,
    #[.func (.yield (w.heap.size + 1)) #[] #[]] ++ lb, W1, ?_, ?_, ?_, ?_, fun _ => h1, ?_⟩
  · rw [← hW1, hrec]
    exact run_enterLoop_outer _ _ _ _ _
  · simp only [resolve, hg]
    simp [go_sem]
  · intro f' hf'
    simp [Target.leads] at hf'
    exact hf' ▸ hFg
  · simp [invoke, go_sem, eg]
  clear hW1
  refine (hseq (w.heap.size + 1) (fun pre W => I pre W ∧ Laid2 rec w.heap.size .ready none W) (fun pre W => ∃ c, Ix c pre W ∧ Laid2 rec w.heap.size .done (some c) W) W1
    (fun s X Y ⟨hi, hl⟩ hs => ⟨hIs s X Y hi hs, hl.keep (Nat.le_refl _) (hSp X Y hs)⟩) ?_ ⟨I0, L0⟩ T0).mono ?_
  · rintro pre x X ⟨hi, hl⟩ hm
    have hy := run_yield (P := P) (args := encs x) hl.1 (by rw [hrec]; exact hps x)
    have hga : X.grownBy (X.alloc (.cells (bc x) bt)) none := only_alloc (only_refl _ _) _
    have hla := hl.keep (Nat.le_refl _) ((KeepsOthers.of_grownBy hga (fun j o e _ => by cases e)).from _)
    have hia := hI.alloc (.cells (bc x) bt) hi
    have hma := (hTm x).alloc (.cells (bc x) bt) hm
    have hbk := Blk.new X bt (bc x)
    have hDX : w.heap.size ≤ X.heap.size := by have := (Array.getElem?_eq_some_iff.1 hl.2).1; omega
    generalize hXa : X.alloc (.cells (bc x) bt) = Xa at hla hia hma hbk
    have hb := run_beginRound (P := P) hla.1 (by rw [hrec])
    have hbusy : ({ rec .ready none with state := .busy } : Loop) = rec .busy none := by rw [hrec]
    rw [hbusy] at hb
    have hl2 : Laid2 rec w.heap.size .busy none (Xa.putObj (w.heap.size + 1) (.loop (rec .busy none))) := hla.put
    have hi2 := own_put2 hI (Nat.le_refl _) hla hia (.loop (rec .busy none))
    have hm2 : Tm pre x (Xa.putObj (w.heap.size + 1) (.loop (rec .busy none))) := own_put2 (hTm x) (Nat.le_refl _) hla hma (.loop (rec .busy none))
    have hbk2 : Blk (Xa.putObj (w.heap.size + 1) (.loop (rec .busy none))) X.heap.size bt (bc x) :=
      hbk.own (grownBy_putObj' Xa (w.heap.size + 1) _) (fun r e => by injection e with e; subst e; exact ⟨_, hla.1, rfl⟩)
    rw [hrec] at hy
    refine ⟨fn, _, assign, body, hy, roundIn_of_wpIn hfn (hassign _ x X _ ?_)⟩
    rw [hXa]
    refine ⟨_, hb, wpIn_mono (hbody _ pre x _ _ hi2 hm2 hDX hbk2) ?_⟩
    have fin : ∀ (j : Option Code) (Y : World), KeepsFrom w.heap.size (Xa.putObj (w.heap.size + 1) (.loop (rec .busy none))) Y →
        Laid2 rec w.heap.size .busy none Y ∧ (Instr.endRound (w.heap.size + 1) j).run P Y = .ok (.bool j.isNone) (Y.putObj (w.heap.size + 1) (.loop (rec (if j.isNone then .ready else .done) j))) := fun j Y hk => by
      have h2 := hl2.keep (Nat.le_refl _) hk
      refine ⟨h2, ?_⟩
      have := run_endRound (P := P) j h2.1
      rw [hrec] at this ⊢
      exact this
    have out : ∀ (c : Code) (Y : World), KeepsFrom w.heap.size (Xa.putObj (w.heap.size + 1) (.loop (rec .busy none))) Y → Ix c (pre ++ [x]) Y →
        ∃ v Y', (Instr.endRound (w.heap.size + 1) (some c)).run P Y = .ok v Y' ∧ ((Ending.returned v = .returned (.bool true) ∧ (I (pre ++ [x]) Y' ∧ Laid2 rec w.heap.size .ready none Y') ∧ T (pre ++ [x]) Y') ∨ (Ending.returned v = .returned (.bool false) ∧ ∃ c, Ix c (pre ++ [x]) Y' ∧ Laid2 rec w.heap.size .done (some c) Y')) := fun c Y hk hx => by
      obtain ⟨h2, hr⟩ := fin (some c) Y hk
      exact ⟨_, _, hr, .inr ⟨rfl, c, own_put2 (hIx c) (Nat.le_refl _) h2 hx _, h2.put⟩⟩
    intro e a3 Y hp
    cases e with
    | normal =>
      obtain ⟨hk, _, hi3, ht3⟩ := hp
      obtain ⟨h2, hr⟩ := fin none Y hk
      exact ⟨_, _, hr, .inl ⟨rfl, ⟨own_put2 hI (Nat.le_refl _) h2 hi3 _, h2.put⟩, own_put2 hT (Nat.le_refl _) h2 ht3 _⟩⟩
    | ret => exact out _ Y hp.1 hp.2
    | exit id => exact out _ Y hp.1 hp.2
    | goto t => exact out _ Y hp.1 hp.2
    | panic ch => exact hp.elim
    | outgrown => exact hp.elim
  · rintro e Y ⟨⟨v, rfl⟩, ⟨xs, hs, hi, hl⟩ | ⟨xs, c, hx, hl⟩⟩
    · have hr := run_endLoop (P := P) hl.1 (by rw [hrec]; simp)
      rw [hrec] at hr
      exact ⟨none, _, hr, hdone _ xs _ (Nat.le_refl _) (own_put2 hS (Nat.le_refl _) hl hs _) (own_put2 hI (Nat.le_refl _) hl hi _) ((World.putObj_heap_other (by omega)).trans hl.2)⟩
    · have hr := run_endLoop (P := P) hl.1 (by rw [hrec]; simp)
      rw [hrec] at hr
      exact ⟨some c, _, hr, hstop _ c xs _ (Nat.le_refl _) (own_put2 (hIx c) (Nat.le_refl _) hl hx _) ((World.putObj_heap_other (by omega)).trans hl.2)⟩
end Go.Proofs.YtohhojbeclbedaaGreatDoor

namespace Go.Proofs.YtohhojbeclbedaaGreatDoor
open Go.RowKit

variable {F : Fence} {n : Nat} {P : Program}

/-- All cells lie as they lay. -/
structure KeepsCells (X Y : World) : Prop where
  size : X.heap.size ≤ Y.heap.size
  same : ∀ (k : Nat) (o : Obj), X.heap[k]? = some o → o.isCells = true → Y.heap[k]? = some o
theorem KeepsCells.refl (X : World) : KeepsCells X X := ⟨Nat.le_refl _, fun _ _ h _ => h⟩
theorem KeepsCells.trans {A B C : World} (h : KeepsCells A B) (k : KeepsCells B C) : KeepsCells A C := ⟨Nat.le_trans h.size k.size, fun i o hi ho => k.same i o (h.same i o hi ho) ho⟩
theorem KeepsCells.putObj {W : World} {l : Nat} {o : Obj} (o' : Obj) (h : W.heap[l]? = some o) (hc : o.isCells = false) : KeepsCells W (W.putObj l o') :=
  ⟨by simp, fun k o'' hk ho => by
    by_cases e : k = l
    · subst e; rw [h] at hk; cases hk; rw [hc] at ho; cases ho
    · exact (World.putObj_heap_other e).trans hk⟩
theorem KeepsCells.grown {X Y : World} (h : X.grownBy Y none) : KeepsCells X Y := ⟨h.size, fun k o hk _ => (h.block k (Array.getElem?_eq_some_iff.1 hk).1 (fun e => by cases e)).trans hk⟩
theorem KeepsCells.alloc (W : World) (o : Obj) : KeepsCells W (W.alloc o) := .grown (World.grownBy_alloc W o none)
theorem Blk.keeps {X Y : World} {g : Nat} {t : TypeId} {cs : Array Value} (h : Blk X g t cs) (hk : KeepsCells X Y) : Blk Y g t cs := hk.same g _ h rfl
theorem KeepsCells.cell {X Y : World} (h : KeepsCells X Y) {a : Addr} {v : Value} (hc : X.cell? a = some v) : Y.cell? a = some v := by
  unfold World.cell? at hc ⊢
  cases hx : X.heap[a.block]? with
  | none => rw [hx] at hc; simp at hc
  | some o =>
    have ho : o.isCells = true := by
      rw [hx] at hc
      cases o <;> first | rfl | (simp at hc)
    rw [h.same _ _ hx ho]
    rw [hx] at hc
    exact hc
/-- What the law itself has laid: the loop's record at D + 1, the rounds' deferred calls at D. -/
def LaidAt (rec : LoopState → Option Code → Loop) (D : Nat) (s : LoopState) (p : Option Code) (W : World) : Prop :=
  W.heap[D + 1]? = some (.loop (rec s p)) ∧ W.heap[D]? = some (.deferred (some []))
theorem LaidAt.keep {rec : LoopState → Option Code → Loop} {D B : Nat} {s : LoopState} {p : Option Code} {X Y : World} (h : LaidAt rec D s p X) (hD : B ≤ D) (hk : KeepsFrom B X Y) : LaidAt rec D s p Y :=
  ⟨hk.same _ _ (by omega) h.1 rfl, hk.same _ _ hD h.2 rfl⟩
theorem LaidAt.below {rec : LoopState → Option Code → Loop} {D B : Nat} {s : LoopState} {p : Option Code} {X Y : World} (h : LaidAt rec D s p X) (hD : D + 2 ≤ B) (hk : Below B X Y) : LaidAt rec D s p Y :=
  ⟨(hk.block _ (by omega)).trans h.1, (hk.block _ (by omega)).trans h.2⟩
theorem LaidAt.put {rec : LoopState → Option Code → Loop} {D : Nat} {s s' : LoopState} {p p' : Option Code} {W : World} (h : LaidAt rec D s p W) : LaidAt rec D s' p' (W.putObj (D + 1) (.loop (rec s' p'))) :=
  ⟨World.putObj_heap_same (Array.getElem?_eq_some_iff.1 h.1).1, (World.putObj_heap_other (by omega)).trans h.2⟩
theorem below_putObj {B l : Nat} (h : B ≤ l) (W : World) (o : Obj) : Below B W (W.putObj l o) := ⟨rfl, rfl, rfl, by simp, fun k hk => World.putObj_heap_other (by omega)⟩

/-! ### Leaving with marks -/
abbrev mark (D : Nat) : Deferred := { target := .collected D, args := #[] }
/-- Blocks that are no cells are turned, all of them from B on. -/
def Shuts (B : Nat) (X Y : World) : Prop := Below B X Y ∧ KeepsCells X Y
theorem leaves_marks {fn : Func} {tmps : Array Value} {R : Ending → World → Prop} {B : Nat} : ∀ (Ds : List Nat) (W : World), Ds.Nodup → (∀ D ∈ Ds, B ≤ D ∧ W.heap[D]? = some (.deferred (some []))) →
    (∀ W', Shuts B W W' → LeavesIn F n P fn tmps R [] .returning W') → LeavesInM F n P fn tmps R (Ds.map mark) .returning W
  | [], W, _, _, h => h W ⟨Below.refl _ _, .refl _⟩
  | D :: Ds, W, hn, hd, h => by
    rw [List.nodup_cons] at hn
    have hD := hd D (List.mem_cons_self)
    refine ⟨by simp, .inl ⟨D, _, rfl, run_takeDeferred hD.2, leaves_marks Ds _ hn.2 (fun D' hD' => ⟨(hd D' (List.mem_cons_of_mem _ hD')).1, ?_⟩) (fun W' hW' => h W' ⟨(below_putObj hD.1 _ _).trans hW'.1, (KeepsCells.putObj _ hD.2 rfl).trans hW'.2⟩)⟩⟩
    exact (World.putObj_heap_other (fun e => hn.1 (by subst e; exact hD'))).trans (hd D' (List.mem_cons_of_mem _ hD')).2
theorem marks_ret {fn : Func} {tmps : Array Value} {R : Ending → World → Prop} {B : Nat} (Ds : List Nat) (W : World) (hn : Ds.Nodup) (hd : ∀ D ∈ Ds, B ≤ D ∧ W.heap[D]? = some (.deferred (some [])))
    (h : ∀ W', Shuts B W W' → ∃ v, (results fn tmps).run P W' = .ok v W' ∧ R (.returned v) W') : bodyPostM F n P fn R .ret { tmps := tmps, defers := Ds.map mark } W :=
  leaves_marks Ds W hn hd h
theorem ret_unmarked {fn : Func} {tmps : Array Value} {R : Ending → World → Prop} {W : World} {v : Value} (hr : (results fn tmps).run P W = .ok v W) (h : R (.returned v) W) : bodyPostM F n P fn R .ret { tmps := tmps, defers := [] } W := ⟨v, hr, h⟩
theorem Shuts.grown {B : Nat} {w X Y : World} (h : Shuts B X Y) (hg : w.grownBy X none) (hB : w.heap.size ≤ B) : w.grownBy Y none :=
  ⟨h.1.os.trans hg.os, h.1.tape.trans hg.tape, h.1.output.trans hg.output, Nat.le_trans hg.size h.1.size, fun i hi _ => (h.1.block i (by omega)).trans (hg.block i hi (fun e => by cases e))⟩
end Go.Proofs.YtohhojbeclbedaaGreatDoor

namespace Go.Proofs.YtohhojbeclbedaaGreatDoor
open Go.RowKit

theorem St.perm {w0 w : World} {rs rs' : List RD} {fs : List FD} (h : St w0 w rs fs) (hp : rs.Perm rs') : St w0 w rs' fs :=
  ⟨h.err, h.err0, h.step, fun r hr => h.rdr r (hp.mem_iff.2 hr), (hp.map RD.g).nodup_iff.1 h.apart, h.flt⟩

theorem arr_size : (Tryz.prog.info? 55).map (·.size) = some 3 := by kernel_rfl
/-- Three cells are set. -/
theorem set3 {w0 W : World} {rs : List RD} {fs : List FD} {i : Nat} {u1 u2 u3 : Value} (h : St w0 W rs fs) (hi : w0.heap.size ≤ i) (hb : Blk W i 55 #[u1, u2, u3]) (v1 v2 v3 : Value) :
    Blk (((W.setCell ⟨i, 0, none⟩ v1).setCell ⟨i, 1, none⟩ v2).setCell ⟨i, 2, none⟩ v3) i 55 #[v1, v2, v3] ∧ St w0 (((W.setCell ⟨i, 0, none⟩ v1).setCell ⟨i, 1, none⟩ v2).setCell ⟨i, 2, none⟩ v3) rs fs :=
  ⟨((hb.set_ 0 v1).set_ 1 v2).set_ 2 v3, h.turn (only_setCell (only_setCell (only_setCell (only_refl W _) (p := ⟨i, 0, none⟩) rfl v1) (p := ⟨i, 1, none⟩) rfl v2) (p := ⟨i, 2, none⟩) rfl v3) hi hb (by decide) (by decide) (by decide)⟩
theorem split_results {tmps : Array Value} {W : World} {b : Nat} {v1 v2 v3 u : Value} (hp : tmps.getD 2 undef = .pointer (some ⟨b, 0, none⟩)) (h3 : tmps.getD 3 undef = u) (hb : Blk W b 55 #[v1, v2, v3]) :
    (results Tryz.f16 tmps).run Tryz.prog W = .ok (.tuple #[.agg #[v1, v2, v3], u]) W := by
  have hp' : tmps[2]?.getD undef = .pointer (some ⟨b, 0, none⟩) := by simpa using hp
  have h3' : tmps[3]?.getD undef = u := by simpa using h3
  simp [results, Tryz.results16, hp', h3', asAddr, run_loadVar_row W b _ 55 _ _ _ hb Tryz.underlying55 rfl arr_size]

/-- Within Split: its own blocks. -/
structure SpB (n0 g rb : Nat) (u v1 v2 v3 : Value) (W : World) : Prop where
  lt : n0 + 2 ≤ g
  gr : g < rb
  b0 : Blk W n0 55 #[.pointer none, .pointer none, .pointer none]
  bx : Blk W (n0 + 1) 55 #[v1, v2, v3]
  br : Blk W rb 54 #[u]
  bf : Blk W (rb + 1) 101 #[.func (.func 51) #[] #[.pointer (some ⟨rb, 0, none⟩)], .func (.func 53) #[] #[.pointer (some ⟨rb, 0, none⟩), .pointer (some ⟨n0 + 1, 0, none⟩)], .func (.func 55) #[] #[.pointer (some ⟨rb, 0, none⟩)]]
section
variable {n0 g rb : Nat} {u v1 v2 v3 : Value} {w W W' : World} {b : List UInt8}
theorem SpB.at_g (h : SpB n0 g rb u v1 v2 v3 W) (hg : W.grownBy W' (some g)) : SpB n0 g rb u v1 v2 v3 W' := by
  have h1 := h.lt
  have h2 := h.gr
  refine ⟨h1, h2, h.b0.grown hg ?_, h.bx.grown hg ?_, h.br.grown hg ?_, h.bf.grown hg ?_⟩ <;> (intro e; injection e with e; omega)
theorem SpB.new (h : SpB n0 g rb u v1 v2 v3 W) (hg : W.grownBy W' none) : SpB n0 g rb u v1 v2 v3 W' :=
  ⟨h.lt, h.gr, h.b0.kept hg, h.bx.kept hg, h.br.kept hg, h.bf.kept hg⟩
theorem SpB.keep (h : SpB n0 g rb u v1 v2 v3 W) (hk : Keep W g (n0 + 1) W') {u1 u2 u3 : Value} (hx : Blk W' (n0 + 1) 55 #[u1, u2, u3]) : SpB n0 g rb u u1 u2 u3 W' := by
  have h1 := h.lt
  have h2 := h.gr
  exact ⟨h1, h2, hk _ _ _ (by omega) (by omega) h.b0, hx, hk _ _ _ (by omega) (by omega) h.br, hk _ _ _ (by omega) (by omega) h.bf⟩

/-- The fault of a step of Split. -/
def SpF (w : World) (b : List UInt8) (n0 : Nat) (fb : Nat) (W : World) : Prop :=
  ∃ c y, SplitFault b c y ∧ St w W [] [⟨fb, c, y⟩] ∧ Blk W n0 55 #[.pointer none, .pointer none, .pointer none]
theorem St.only_fault {w0 : World} {rs : List RD} {fb : Nat} {c y : Int} (s : St w0 w rs []) (hg : w0.grownBy W none) (he : ErrType W) (hf : Flt W fb c y) : St w0 W [] [⟨fb, c, y⟩] :=
  ⟨he, s.err0, hg, by simp, by simp, fun f hm => by simp only [List.mem_singleton] at hm; subst hm; exact hf⟩

set_option maxRecDepth 100000 in
set_option maxHeartbeats 2000000 in
theorem s1_any (h : SpB n0 g rb (.pointer (some ⟨g, 0, none⟩)) v1 v2 v3 W) (s : St w W [⟨g, b, 0, 0⟩] []) :
    Calls Tryz.prog 51 #[.pointer (some ⟨rb, 0, none⟩)] W (Stp (fun W' => HeadOk b ∧ SpB n0 g rb (.pointer (some ⟨g, 0, none⟩)) v1 v2 v3 W' ∧ St w W' [⟨g, b, 5, 0⟩] []) (SpF w b n0)) := by
  have HT : Calls Tryz.prog 52 #[.pointer (some ⟨g, 0, none⟩)] W (Stp (fun W' => HeadOk b ∧ SpB n0 g rb (.pointer (some ⟨g, 0, none⟩)) v1 v2 v3 W' ∧ St w W' [⟨g, b, 5, 0⟩] []) (SpF w b n0)) := by
    rcases head_or b with ⟨i, hi⟩ | hh
    · refine (takeHead_fault s.head i hi).mono fun _ _ ⟨fb, h1, h2, h3, a, h4⟩ => .inr ⟨fb, h1, 6, i, .head i hi, ?_, (h.at_g h3).b0⟩
      have hm := s.move h3 h4
      exact hm.only_fault hm.step hm.err h2
    · exact (takeHead_ok s.head hh).mono fun _ _ ⟨h1, h2, h3⟩ => .inl ⟨h1, hh, h.at_g h2, s.move h2 h3⟩
  have c0 := h.br.cell 0
  clear h s
  go_enter Tryz.func51, Tryz.ntmps51
  go_wp2_with fail
  refine HT.mono ?_
  rintro e W' (⟨rfl, hr⟩ | ⟨fb, rfl, hf⟩)
  · go_wp2_with fail
    go_ret
    exact .inl ⟨rfl, hr⟩
  · go_wp2_with fail
    go_ret
    exact .inr ⟨fb, rfl, hf⟩

/-- What the second step leaves. -/
def SpR (w : World) (b : List UInt8) (n0 g rb : Nat) (W : World) : Prop :=
  ∃ (x : Parts) (a q1 q2 q3 : Nat), Three b x a ∧ SpB n0 g rb (.pointer (some ⟨g, 0, none⟩)) (.pointer (some ⟨q1, 0, none⟩)) (.pointer (some ⟨q2, 0, none⟩)) (.pointer (some ⟨q3, 0, none⟩)) W ∧
    St w W [⟨g, b, a, 0⟩, ⟨q3, cut b x.p3 x.n3, 0, x.p3⟩, ⟨q2, cut b x.p2 x.n2, 0, x.p2⟩, ⟨q1, cut b x.p1 x.n1, 0, x.p1⟩] []
set_option maxRecDepth 100000 in
set_option maxHeartbeats 2000000 in
theorem s2_any (h : SpB n0 g rb (.pointer (some ⟨g, 0, none⟩)) (.pointer none) (.pointer none) (.pointer none) W) (hh : HeadOk b) (s : St w W [⟨g, b, 5, 0⟩] []) (hn : w.heap.size ≤ n0 + 1) :
    Calls Tryz.prog 53 #[.pointer (some ⟨rb, 0, none⟩), .pointer (some ⟨n0 + 1, 0, none⟩)] W (Stp (SpR w b n0 g rb) (SpF w b n0)) := by
  have HT := takeSections_any s hh h.bx hn
  have c0 := h.br.cell 0
  have hl := h.lt
  go_enter Tryz.func53, Tryz.ntmps53
  go_wp2_with fail
  refine HT.mono ?_
  rintro e W' (⟨rfl, x, a, q1, q2, q3, h3, hs, hx, hk⟩ | ⟨fb, c, y, rfl, hf, hs, hk⟩)
  · have HR : Hid (SpR w b n0 g rb W') := ⟨x, a, q1, q2, q3, h3, h.keep hk hx, hs⟩
    clear h h3 hs hx hk
    go_wp2_with fail
    go_ret
    exact .inl ⟨rfl, HR.out⟩
  · have HR : Hid (SpF w b n0 fb W') := ⟨c, y, hf, hs, hk _ _ _ (by omega) (by omega) h.b0⟩
    clear h hs hk hf
    go_wp2_with fail
    go_ret
    exact .inr ⟨fb, rfl, HR.out⟩

/-- What the third step leaves. -/
def SpE (w : World) (b : List UInt8) (n0 g rb : Nat) (W : World) : Prop :=
  ∃ (x : Parts) (q1 q2 q3 : Nat), SplitOk b x ∧ SpB n0 g rb (.pointer (some ⟨g, 0, none⟩)) (.pointer (some ⟨q1, 0, none⟩)) (.pointer (some ⟨q2, 0, none⟩)) (.pointer (some ⟨q3, 0, none⟩)) W ∧
    St w W [⟨q1, cut b x.p1 x.n1, 0, x.p1⟩, ⟨q2, cut b x.p2 x.n2, 0, x.p2⟩, ⟨q3, cut b x.p3 x.n3, 0, x.p3⟩] []
set_option maxRecDepth 100000 in
set_option maxHeartbeats 2000000 in
theorem s3_any (h : SpR w b n0 g rb W) :
    Calls Tryz.prog 55 #[.pointer (some ⟨rb, 0, none⟩)] W (Stp (SpE w b n0 g rb) (SpF w b n0)) := by
  obtain ⟨x, a, q1, q2, q3, h3, hb, hs⟩ := h
  have HT : Calls Tryz.prog 47 #[.pointer (some ⟨g, 0, none⟩)] W (Stp (SpE w b n0 g rb) (SpF w b n0)) := by
    have hle := hs.head.le
    by_cases ha : a = b.length
    · refine (end_ok hs.head ha).mono fun _ _ ⟨h1, h2⟩ => .inl ⟨h1, x, q1, q2, q3, ⟨h3.head, h3.s1, h3.s2, h3.s3, by rw [← h3.at_, ha]⟩, hb.new h2, ?_⟩
      exact (hs.none_ h2).tail.perm (List.reverse_perm [(⟨q1, cut b x.p1 x.n1, 0, x.p1⟩ : RD), ⟨q2, cut b x.p2 x.n2, 0, x.p2⟩, ⟨q3, cut b x.p3 x.n3, 0, x.p3⟩])
    · have hle' : a ≤ b.length := hle
      refine (end_long hs.head (show a < b.length by omega)).mono fun _ _ ⟨fb, h1, h2, _, h4⟩ => .inr ⟨fb, h1, 4, (a : Int), ?_, ?_, (hb.new h4).b0⟩
      · have := SplitFault.more x h3.head h3.s1 h3.s2 h3.s3 (by rw [← h3.at_]; omega)
        rw [← h3.at_] at this
        exact this
      · have hm := hs.none_ h4
        exact hm.only_fault hm.step hm.err (by simpa using h2)
  have c0 := hb.br.cell 0
  clear hb hs h3
  go_enter Tryz.func55, Tryz.ntmps55
  go_wp2_with fail
  refine HT.mono ?_
  rintro e W' (⟨rfl, hr⟩ | ⟨fb, rfl, hf⟩)
  · go_wp2_with fail
    go_ret
    exact .inl ⟨rfl, hr⟩
  · go_wp2_with fail
    go_ret
    exact .inr ⟨fb, rfl, hf⟩
end

/-- What Split answers, and what it leaves. -/
def Splits (b : List UInt8) (w : World) (e : Ending) (w' : World) : Prop :=
  (∃ (x : Parts) (q1 q2 q3 : Nat), SplitOk b x ∧ e = .returned (.tuple #[.agg #[.pointer (some ⟨q1, 0, none⟩), .pointer (some ⟨q2, 0, none⟩), .pointer (some ⟨q3, 0, none⟩)], .nilIface]) ∧
    St w w' [⟨q1, cut b x.p1 x.n1, 0, x.p1⟩, ⟨q2, cut b x.p2 x.n2, 0, x.p2⟩, ⟨q3, cut b x.p3 x.n3, 0, x.p3⟩] []) ∨
  (∃ fb c y, SplitFault b c y ∧ e = .returned (.tuple #[.agg #[.pointer none, .pointer none, .pointer none], .iface 94 (.pointer (some ⟨fb, 0, none⟩))]) ∧ St w w' [] [⟨fb, c, y⟩])

set_option maxRecDepth 100000 in
set_option maxHeartbeats 2000000 in
theorem split_any (t : ByteArray) (ht : t.size ≤ 4611686018427387904) (w : World) (hE : ErrType w) :
    Calls Tryz.prog 16 #[.string t] w (Splits t.data.toList w) := by
  have hmf : ∀ (fn : Fn) (first cap : Array Value) (w : World), (Instr.makeFunc fn first cap).run Tryz.prog w = .ok (.func fn first cap) w := fun _ _ _ _ => rfl
  have HN := fun W => newReader_any t W ht
  clear ht
  generalize t.data.toList = b at *
  go_enter Tryz.func16, Tryz.ntmps16
  go_wp2_with fail
  refine (HN _).mono ?_
  clear HN
  rintro e W1 ⟨g, rfl, h1, h2, h3⟩
  have hz : ((w.alloc (.cells #[.pointer none, .pointer none, .pointer none] 55)).alloc (.cells #[.pointer none, .pointer none, .pointer none] 55)).heap.size = w.heap.size + 2 := by simp
  have g0 : w.grownBy ((w.alloc (.cells #[.pointer none, .pointer none, .pointer none] 55)).alloc (.cells #[.pointer none, .pointer none, .pointer none] 55)) none := only_alloc (only_alloc (only_refl _ _) _) _
  have S0 := ((St.start hE).none_ g0).new h1 h2 h3
  have B0 := ((Blk.new w 55 #[.pointer none, .pointer none, .pointer none]).alloc (.cells #[.pointer none, .pointer none, .pointer none] 55)).kept h2
  have BX := (Blk.new' (n := w.heap.size + 1) (w := w.alloc (.cells #[.pointer none, .pointer none, .pointer none] 55)) (by simp) 55 #[.pointer none, .pointer none, .pointer none]).kept h2
  rw [hz] at h1
  have hgl := h3.lt
  clear h2 h3 g0 hz hE
  have HB : SpB w.heap.size g W1.heap.size (.pointer (some ⟨g, 0, none⟩)) (.pointer none) (.pointer none) (.pointer none) ((W1.alloc (.cells #[.pointer (some ⟨g, 0, none⟩)] 54)).alloc (.cells #[.func (.func 51) #[] #[.pointer (some ⟨W1.heap.size, 0, none⟩)], .func (.func 53) #[] #[.pointer (some ⟨W1.heap.size, 0, none⟩), .pointer (some ⟨w.heap.size + 1, 0, none⟩)], .func (.func 55) #[] #[.pointer (some ⟨W1.heap.size, 0, none⟩)]] 101)) :=
    ⟨h1, hgl, (B0.alloc _).alloc _, (BX.alloc _).alloc _, (Blk.new W1 _ _).alloc _, Blk.new' (by simp) _ _⟩
  have HS := S0.none_ (only_alloc (only_alloc (only_refl W1 none) (.cells #[.pointer (some ⟨g, 0, none⟩)] 54)) (.cells #[.func (.func 51) #[] #[.pointer (some ⟨W1.heap.size, 0, none⟩)], .func (.func 53) #[] #[.pointer (some ⟨W1.heap.size, 0, none⟩), .pointer (some ⟨w.heap.size + 1, 0, none⟩)], .func (.func 55) #[] #[.pointer (some ⟨W1.heap.size, 0, none⟩)]] 101))
  clear B0 BX S0
  go_wp2_with fail
  refine (first_split HB.bf (s1_any HB HS) (fun V1 ⟨hh, b1, k1⟩ => ⟨b1.bf, s2_any b1 hh k1 (by omega)⟩) (fun V2 k2 => ⟨by obtain ⟨_, _, _, _, _, _, b2, _⟩ := k2; exact b2.bf, s3_any k2⟩)).mono ?_
  clear HB HS
  rintro e V (⟨rfl, x, q1, q2, q3, hx, hb, hs⟩ | ⟨fb, rfl, c, y, hf, hs, hb⟩)
  · have b0 := hb.b0
    have bx := hb.bx
    have H1 := Lib.hid (set3 hs (Nat.le_refl _) b0 (.pointer (some ⟨q1, 0, none⟩)) (.pointer (some ⟨q2, 0, none⟩)) (.pointer (some ⟨q3, 0, none⟩)))
    have hx1 := Lib.hid hx
    have k0 := b0.cell 0
    have k1 := b0.cell 1
    have k2 := b0.cell 2
    have f0 := b0.frozen 0
    have f1 := b0.frozen 1
    have f2 := b0.frozen 2
    have x0 := bx.cell 0
    have x1 := bx.cell 1
    have x2 := bx.cell 2
    clear hb hs hx b0 bx
    go_wp2_with fail
    exact bodyPost_ret (split_results rfl rfl H1.out.1) rfl (.inl ⟨x, q1, q2, q3, hx1.out, rfl, H1.out.2⟩)
  · have H1 := Lib.hid (set3 hs (Nat.le_refl _) hb (.pointer none) (.pointer none) (.pointer none))
    have hf1 := Lib.hid hf
    have k0 := hb.cell 0
    have k1 := hb.cell 1
    have k2 := hb.cell 2
    have f0 := hb.frozen 0
    have f1 := hb.frozen 1
    have f2 := hb.frozen 2
    clear hs hf hb
    go_wp2_with fail
    exact bodyPost_ret (split_results rfl rfl H1.out.1) rfl (.inr ⟨fb, c, y, hf1.out, rfl, H1.out.2⟩)
end Go.Proofs.YtohhojbeclbedaaGreatDoor

namespace Go.Proofs.YtohhojbeclbedaaGreatDoor
open Go.RowKit

set_option maxRecDepth 100000 in
set_option maxHeartbeats 2000000 in
theorem join_long (t1 t2 t3 : ByteArray) (h : 65536 < t1.size ∨ 65536 < t2.size ∨ 65536 < t3.size) (w : World) :
    Calls Tryz.prog 19 #[.agg #[.string t1, .string t2, .string t3]] w fun e w' => e = .returned (.tuple #[.string ⟨#[]⟩, .int .i64 4]) ∧ w.grownBy w' none := by
  have a1 : (0 : Int) ≤ (t1.size : Int) := by omega
  have a2 : (0 : Int) ≤ (t2.size : Int) := by omega
  have a3 : (0 : Int) ≤ (t3.size : Int) := by omega
  have hd : 65536 < (t1.size : Int) ∨ ((t1.size : Int) ≤ 65536 ∧ 65536 < (t2.size : Int)) ∨ ((t1.size : Int) ≤ 65536 ∧ (t2.size : Int) ≤ 65536 ∧ 65536 < (t3.size : Int)) := by omega
  have i0 := at3_0 t1 t2 t3
  have i1 := at3_1 t1 t2 t3
  have i2 := at3_2 t1 t2 t3
  clear h
  obtain ⟨z1, e1⟩ : ∃ z : Int, (t1.size : Int) = z := ⟨_, rfl⟩
  obtain ⟨z2, e2⟩ : ∃ z : Int, (t2.size : Int) = z := ⟨_, rfl⟩
  obtain ⟨z3, e3⟩ : ∃ z : Int, (t3.size : Int) = z := ⟨_, rfl⟩
  rw [e1, e2, e3] at hd
  rw [e1] at a1
  rw [e2] at a2
  rw [e3] at a3
  go_enter Tryz.func19, Tryz.ntmps19
  rcases hd with h1 | ⟨h1, h2⟩ | ⟨h1, h2, h3⟩
  · go_wp2_with fail
    refine wp_loop_rounds 4 ?_
    rw [rounds_succ]
    go_wp2_with fail
    go_ret2
    exact ⟨rfl, only_alloc (only_refl _ _) _⟩
  · go_wp2_with fail
    refine wp_loop_rounds 4 ?_
    rw [rounds_succ]
    go_wp2_with fail
    rw [rounds_succ]
    go_wp2_with fail
    go_ret2
    exact ⟨rfl, only_alloc (only_refl _ _) _⟩
  · go_wp2_with fail
    refine wp_loop_rounds 4 ?_
    rw [rounds_succ]
    go_wp2_with fail
    rw [rounds_succ]
    go_wp2_with fail
    rw [rounds_succ]
    go_wp2_with fail
    go_ret2
    exact ⟨rfl, only_alloc (only_refl _ _) _⟩

end Go.Proofs.YtohhojbeclbedaaGreatDoor

namespace Go.Proofs.YtohhojbeclbedaaGreatDoor
open Go.RowKit

theorem sev_0 : sev 0 = [0] := by rw [sev_lt (by omega)]; rfl
theorem sev_1 : sev 1 = [1] := by rw [sev_lt (by omega)]; rfl
theorem sev_2 : sev 2 = [2] := by rw [sev_lt (by omega)]; rfl
end Go.Proofs.YtohhojbeclbedaaGreatDoor

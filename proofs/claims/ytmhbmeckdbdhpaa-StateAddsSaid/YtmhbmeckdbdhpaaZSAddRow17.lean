/- Texts joined for the claim's sake: VLaw, CWf. -/
import Derived.Test.YtmhbmeckdbdhpaaZSAddRow0
import Derived.RangeFuncFrom
import Derived.Test.YtmhbmeckdbdhpaaZSAddRow11
import Derived.Test.YtmhbmeckdbdhpaaZSAddRow9
namespace Go.Proofs.Ytmhbmeckdbdhpaa
open Go.RowKit

variable {F : Fence} {n : Nat} {P : Program}

/-- What lies below B stays as it is; of the rest, what is of none of these types. -/
structure KB (B : Nat) (ts : List TypeId) (X Y : World) : Prop where
  size : X.heap.size ≤ Y.heap.size
  low : ∀ k, k < B → k < X.heap.size → Y.heap[k]? = X.heap[k]?
  typ : ∀ k t cs, Blk X k t cs → t ∉ ts → Blk Y k t cs
theorem KB.refl (B : Nat) (ts : List TypeId) (X : World) : KB B ts X X := ⟨Nat.le_refl _, fun _ _ _ => rfl, fun _ _ _ h _ => h⟩
theorem KB.trans {B : Nat} {ts : List TypeId} {X Y Z : World} (h : KB B ts X Y) (k : KB B ts Y Z) : KB B ts X Z :=
  ⟨Nat.le_trans h.size k.size, fun i hi hx => (k.low i hi (Nat.lt_of_lt_of_le hx h.size)).trans (h.low i hi hx), fun i t cs hb ht => k.typ i t cs (h.typ i t cs hb ht) ht⟩
theorem KB.grown {B : Nat} {ts : List TypeId} {X Y : World} (h : X.grownBy Y none) : KB B ts X Y := ⟨h.size, fun k _ hk => h.block k hk (fun e => by cases e), fun _ _ _ hb _ => hb.kept h⟩
theorem KB.alloc {B : Nat} {ts : List TypeId} (X : World) (o : Obj) : KB B ts X (X.alloc o) := .grown (World.grownBy_alloc X o none)
theorem KB.putObj {B : Nat} {ts : List TypeId} (X : World) (l : Nat) (o o' : Obj) (hl : B ≤ l) (ho : X.heap[l]? = some o) (hc : o.isCells = false) : KB B ts X (X.putObj l o') :=
  ⟨by simp, fun k hk _ => World.putObj_heap_other (by omega), fun k t cs hb _ => hb.keeps (.putObj o' ho hc)⟩
/-- Where it lies below B, or of another type. -/
theorem KB.row {B : Nat} {ts : List TypeId} {X Y : World} {row : Option Nat} (h : X.grownBy Y row) (hr : ∀ g, row = some g → B ≤ g ∧ ∃ t cs, Blk X g t cs ∧ t ∈ ts) : KB B ts X Y :=
  ⟨h.size, fun k hk hx => h.block k hx (fun e => by have := (hr k e.symm).1; omega), fun k t cs hb ht => hb.grown h (fun e => by
    obtain ⟨_, t', cs', hb', ht'⟩ := hr k e.symm
    unfold Blk at hb hb'
    rw [hb] at hb'
    cases hb'
    exact ht ht')⟩
theorem KB.keep {B : Nat} {ts : List TypeId} {X Y : World} (h : KB B ts X Y) {a : Addr} {v : Value} (ha : a.block < B) (hc : X.cell? a = some v) : Y.cell? a = some v := by
  have hlt : a.block < X.heap.size := by
    rcases Nat.lt_or_ge a.block X.heap.size with hl | hl
    · exact hl
    · unfold World.cell? at hc
      rw [Array.getElem?_eq_none hl] at hc
      simp at hc
  rw [World.cell?_of_block (h.low _ ha hlt)]
  exact hc

/-- What the function owes: it tells L's things, one by one; J, what its caller keeps, stays as boxes are made; Kp, what a round that goes on keeps; T0, what holds ahead. -/
def TellsO {α : Type} (F : Fence) (n : Nat) (P : Program) (gf : Nat) (lb : Array Value) (encs : α → Array Value) (Kp : World → World → Prop) (T0 : World → Prop) (L : List α) : Prop :=
  ∀ (l : Nat) (J Jx : List α → World → Prop) (W : World), (∀ s X Y, J s X → X.grownBy Y none → J s Y) →
    (∀ pre x X, pre ++ [x] <+: L → J pre X → YieldAt F (n - 1) P l (encs x) X fun e Y => (e = .returned (.bool true) ∧ J (pre ++ [x]) Y ∧ Kp X Y) ∨ (e = .returned (.bool false) ∧ Jx (pre ++ [x]) Y)) →
    J [] W → T0 W →
    CallsIn F n P gf (#[.func (.yield l) #[] #[]] ++ lb) W fun e Y => (∃ v, e = .returned v) ∧ (J L Y ∨ ∃ pre, pre <+: L ∧ pre ≠ [] ∧ Jx pre Y)

/-- What the caller owes. -/
theorem wpIn_rangeFunc_told {α : Type} {g : Operand} {ps : Array Tmp} {assign body : Code} {Q : Exit → Act → World → Prop} {a : Act} {w : World}
    (hro : F.round = none) (h1 : 1 ≤ n) {gf : Nat} {lb : Array Value} (hg : a.eval g = .func (.func gf) #[] lb) (hFg : F.fn gf) (eg : ∀ args w, (callFunc gf args).run P w = .ok (.enter gf args) w)
    {encs : α → Array Value} {Kp : World → World → Prop} {T0 : World → Prop} {L : List α} (hseq : TellsO F (n - 1) P gf lb encs Kp T0 L)
    (hKt : ∀ {A B C : World}, Kp A B → Kp B C → Kp A C) (hKp : ∀ (W : World) (l : Nat) (o o' : Obj), w.heap.size ≤ l → W.heap[l]? = some o → o.isCells = false → Kp W (W.putObj l o')) (hKa : ∀ (W : World) (o : Obj), Kp W (W.alloc o))
    (hps : ∀ x, (encs x).size = ps.size) (hT0 : ∀ W, Below w.heap.size w W → T0 W)
    (I : List α → World → Prop) (Ix : Code → List α → World → Prop) (hI : OwnFrom w.heap.size I) (hIx : ∀ c, OwnFrom w.heap.size (Ix c))
    (h0 : I [] w) (T : TypeId) (cs : α → Array Value) (a₁ : α → Nat → Act)
    (hassign : ∀ (l : Nat) (x : α) (W : World) (K : Act → World → Prop), K (a₁ x W.heap.size) (W.alloc (.cells (cs x) T)) →
      assign.wpIn (F.inRound l) (n - 1 - 1) P (Exit.then K (fun _ _ _ => False)) { tmps := (ps.zip (encs x)).foldl (fun t (p, v) => t.setIfInBounds p v) a.tmps, defers := [] } W)
    (hbody : ∀ (l : Nat) (pre : List α) (x : α) (W : World) (Bx : Nat), pre ++ [x] <+: L → w.heap.size ≤ Bx → I pre W → Blk W Bx T (cs x) → body.wpIn (F.inRound l) (n - 1 - 1) P (ownPostG w.heap.size Kp I Ix (pre ++ [x]) W) (a₁ x Bx) W)
    (hdone : ∀ (D : Nat) (W : World), w.heap.size ≤ D → I L W → W.heap[D]? = some (.deferred (some [])) → Q .normal { a with defers := { target := .collected D, args := #[] } :: a.defers } W)
    (hstop : ∀ (D : Nat) (c : Code) (pre : List α) (W : World), w.heap.size ≤ D → pre <+: L → pre ≠ [] → Ix c pre W → W.heap[D]? = some (.deferred (some [])) → c.wpIn F n P Q { a with defers := { target := .collected D, args := #[] } :: a.defers } W) :
    (Code.rangeFunc g ps assign body).wpIn F n P Q a w := by
  refine wpIn_rangeFunc fun fn hfn => ?_
  rw [hro]
  obtain ⟨rec, hrec⟩ : ∃ rec : LoopState → Option Code → Loop, rec = fun st pe => { state := st, pending := pe, fn, tmps := a.tmps, params := ps, assign, body, defers := w.heap.size } := ⟨_, rfl⟩
  obtain ⟨W1, hW1⟩ : ∃ W1, (w.alloc (.deferred (some []))).alloc (.loop (rec .ready none)) = W1 := ⟨_, rfl⟩
  have L0 : LaidAt rec w.heap.size .ready none W1 := by
    rw [← hW1]
    refine ⟨?_, (Below.heap_alloc _ _ _ (by simp)).trans (World.alloc_heap_new w _)⟩
    have := World.alloc_heap_new (w.alloc (.deferred (some []))) (.loop (rec .ready none))
    rwa [World.size_alloc] at this
  have hb1 : Below w.heap.size w W1 := hW1 ▸ ((Below.refl _ _).alloc (Nat.le_refl _) _).alloc (by simp) _
  have hz1 : W1.heap.size = w.heap.size + 2 := by rw [← hW1]; simp
  have I0 : I [] W1 := hW1 ▸ hI.alloc (.loop (rec .ready none)) (hI.alloc (.deferred (some [])) h0)
  refine ⟨w.heap.size + 1, [{ target := .collected w.heap.size, args := #[] }], W1, { target := .fn (.func gf) lb, args := #[.func (.yield (w.heap.size + 1)) #[] #[]] }, W1, gf,
    #[.func (.yield (w.heap.size + 1)) #[] #[]] ++ lb, W1, ?_, ?_, ?_, ?_, fun _ => h1, ?_⟩
  · rw [← hW1, hrec]
    exact run_enterLoop_outer _ _ _ _ _
  · simp only [resolve, hg]
    simp [go_sem]
  · intro f' hf'
    simp [Target.leads] at hf'
    exact hf' ▸ hFg
  · simp [invoke, go_sem, eg]
  clear hW1
  refine (hseq (w.heap.size + 1) (fun pre W => I pre W ∧ LaidAt rec w.heap.size .ready none W) (fun pre W => ∃ c, Ix c pre W ∧ LaidAt rec w.heap.size .done (some c) W) W1
    (fun s X Y ⟨hi, hl⟩ hs => ⟨hI s X Y none hi hs (fun r e => by cases e), hl.keep (Nat.le_refl _) (only_keepsFrom hs _)⟩) ?_ ⟨I0, L0⟩ (hT0 _ hb1)).mono ?_
  · rintro pre x X hx ⟨hi, hl⟩
    have hy := run_yield (P := P) (args := encs x) hl.1 (by rw [hrec]; exact hps x)
    rw [hrec] at hy
    refine ⟨fn, _, assign, body, hy, roundIn_of_wpIn hfn (hassign _ x X _ ?_)⟩
    have hXD : w.heap.size + 1 < X.heap.size := (Array.getElem?_eq_some_iff.1 hl.1).1
    have bX := Blk.new X T (cs x)
    have kX := hKa X (.cells (cs x) T)
    have hl0 : LaidAt rec w.heap.size .ready none (X.alloc (.cells (cs x) T)) := hl.keep (Nat.le_refl _) ((KeepsOthers.alloc X _).from _)
    have hi0 : I pre (X.alloc (.cells (cs x) T)) := hI.alloc _ hi
    generalize X.alloc (.cells (cs x) T) = X' at *
    have hb := run_beginRound (P := P) hl0.1 (by rw [hrec])
    have hbusy : ({ rec .ready none with state := .busy } : Loop) = rec .busy none := by rw [hrec]
    rw [hbusy] at hb
    have hl2 : LaidAt rec w.heap.size .busy none (X'.putObj (w.heap.size + 1) (.loop (rec .busy none))) := hl0.put
    have hi2 := hI.putObj (.loop (rec .busy none)) hi0 (Nat.le_succ _) hl0.1 rfl
    have bX2 : Blk (X'.putObj (w.heap.size + 1) (.loop (rec .busy none))) X.heap.size T (cs x) := bX.keeps (.putObj _ hl0.1 rfl)
    have kX2 := hKt kX (hKp X' (w.heap.size + 1) _ (.loop (rec .busy none)) (Nat.le_succ _) hl0.1 rfl)
    refine ⟨_, hb, wpIn_mono (hbody _ pre x _ X.heap.size hx (by omega) hi2 bX2) ?_⟩
    have fin : ∀ (j : Option Code) (Y : World), KeepsFrom w.heap.size (X'.putObj (w.heap.size + 1) (.loop (rec .busy none))) Y →
        LaidAt rec w.heap.size .busy none Y ∧ (Instr.endRound (w.heap.size + 1) j).run P Y = .ok (.bool j.isNone) (Y.putObj (w.heap.size + 1) (.loop (rec (if j.isNone then .ready else .done) j))) := fun j Y hk => by
      have h2 := hl2.keep (Nat.le_refl _) hk
      refine ⟨h2, ?_⟩
      have := run_endRound (P := P) j h2.1
      rw [hrec] at this ⊢
      exact this
    have out : ∀ (c : Code) (Y : World), KeepsFrom w.heap.size (X'.putObj (w.heap.size + 1) (.loop (rec .busy none))) Y → Ix c (pre ++ [x]) Y →
        ∃ v Y', (Instr.endRound (w.heap.size + 1) (some c)).run P Y = .ok v Y' ∧ ((Ending.returned v = .returned (.bool true) ∧ (I (pre ++ [x]) Y' ∧ LaidAt rec w.heap.size .ready none Y') ∧ Kp X Y') ∨ (Ending.returned v = .returned (.bool false) ∧ ∃ c, Ix c (pre ++ [x]) Y' ∧ LaidAt rec w.heap.size .done (some c) Y')) := fun c Y hk hx => by
      obtain ⟨h2, hr⟩ := fin (some c) Y hk
      exact ⟨_, _, hr, .inr ⟨rfl, c, (hIx c).putObj _ hx (Nat.le_succ _) h2.1 rfl, h2.put⟩⟩
    intro e a3 Y hp
    cases e with
    | normal =>
      obtain ⟨hk, hkp, hi3⟩ := hp
      obtain ⟨h2, hr⟩ := fin none Y hk
      exact ⟨_, _, hr, .inl ⟨rfl, ⟨hI.putObj _ hi3 (Nat.le_succ _) h2.1 rfl, h2.put⟩, hKt kX2 (hKt hkp (hKp _ _ _ _ (Nat.le_succ _) h2.1 rfl))⟩⟩
    | ret => exact out _ Y hp.1 hp.2
    | exit id => exact out _ Y hp.1 hp.2
    | goto t => exact out _ Y hp.1 hp.2
    | panic ch => exact hp.elim
    | outgrown => exact hp.elim
  · rintro e Y ⟨⟨v, rfl⟩, ⟨hi, hl⟩ | ⟨pre, hpre, hne, c, hx, hl⟩⟩
    · have hr := run_endLoop (P := P) hl.1 (by rw [hrec]; simp)
      rw [hrec] at hr
      exact ⟨none, _, hr, hdone _ _ (Nat.le_refl _) (hI.putObj _ hi (Nat.le_succ _) hl.1 rfl) ((World.putObj_heap_other (by omega)).trans hl.2)⟩
    · have hr := run_endLoop (P := P) hl.1 (by rw [hrec]; simp)
      rw [hrec] at hr
      exact ⟨some c, _, hr, hstop _ c pre _ (Nat.le_refl _) hpre hne ((hIx c).putObj _ hx (Nat.le_succ _) hl.1 rfl) ((World.putObj_heap_other (by omega)).trans hl.2)⟩

end Go.Proofs.Ytmhbmeckdbdhpaa

namespace Go.Proofs.Ytmhbmeckdbdhpaa
open Go.RowKit

section
variable {L : List Nd}
theorem root_at {i : Nat} (hL : TW L) (hi : i < L.length) : ∃ (m : Nat) (y : Nd) (s : Int), L[m]? = some y ∧ y.kind ≠ 5 ∧ 0 ≤ s ∧ s ≤ 64000 ∧ rootL L i = m ∧ prioL L i = (if y.kind = 0 then 0 else y.prio + s) ∧ ∀ o, -1000000000 ≤ o → o ≤ 1000000000 → resolveL L ((i : Int), o) = ((m : Int), s + o) := by
  obtain ⟨m, y, s, hy, h5, s0, s1, hr⟩ := hL.root (i : Int) (by omega) (by omega)
  have h0 := hr 0 (by omega) (by omega)
  rw [Int.add_zero] at h0
  have e1 : rootL L i = m := by unfold rootL; rw [h0]; rfl
  exact ⟨m, y, s, hy, h5, s0, s1, e1, by unfold prioL; rw [e1, hy, h0], hr⟩
theorem roots_live (hL : TW L) : ∀ x ∈ rootsL L, liveB L x = true := by
  intro x hx
  unfold rootsL at hx
  obtain ⟨i, hi, rfl⟩ := List.mem_map.1 hx
  obtain ⟨m, y, s, hy, h5, _, _, e1, _⟩ := root_at hL (List.mem_range.1 hi)
  rw [e1]
  exact live_of hy h5
theorem cls_num (hL : TW L) : Cls (fun a b => apL L a b = false) (rootsL L) (numL L).1 (numL L).2 :=
  cls_of (D := fun a => liveB L a = true) (apL_alike _) _ _ rfl (roots_live hL)
theorem roots_len (L : List Nd) : (rootsL L).length = L.length := by unfold rootsL; simp
theorem num_len (hL : TW L) : (numL L).2.length = L.length := (cls_num hL).len.trans (roots_len L)
theorem root_get (L : List Nd) {i : Nat} (hi : i < L.length) : (rootsL L)[i]? = some (rootL L i) := by unfold rootsL; simp [hi]
theorem cls_le (A : Nat → Nat → Bool) : ∀ (rs : List Nat) (p : List Nat × List Nat), (rs.foldl (clsStep A) p).1.length ≤ p.1.length + rs.length
  | [], p => by simp
  | x :: rs, p => by
    have h := cls_le A rs (clsStep A p x)
    have h1 : (clsStep A p x).1.length ≤ p.1.length + 1 := by
      unfold clsStep
      split
      · simp
      · dsimp only; omega
    rw [List.foldl_cons, List.length_cons]
    omega
theorem first_le (L : List Nd) : (numL L).1.length ≤ L.length := by
  have h := cls_le (apL L) (rootsL L) ([], [])
  rw [roots_len, List.length_nil, Nat.zero_add] at h
  exact h
theorem num_lt (hL : TW L) (h0 : 0 < L.length) (j : Nat) : (numL L).2.getD j 0 < (numL L).1.length := by
  have h := cls_num hL
  rw [List.getD_eq_getElem?_getD]
  cases hj : (numL L).2[j]? with
  | some c => exact h.lt hj
  | none =>
    obtain ⟨c, hc⟩ : ∃ c, (numL L).2[0]? = some c := ⟨_, List.getElem?_eq_getElem (by rw [num_len hL]; exact h0)⟩
    have := h.lt hc
    show 0 < _
    omega
end
theorem wf_clsT (xs : List Nd) : Wf (clsT xs) := by
  unfold clsT
  by_cases h0 : (orderL xs).2 = 0
  · rw [if_pos h0]
    have hK := (ord_of h0).ok
    have hL := tw_two hK
    have hlen := twoL_len xs
    have hpos := hK.pos
    have hle := hK.le
    generalize twoL xs = L at *
    have hp : 0 < L.length := by omega
    have hf := first_le L
    have hcl : ∀ x ∈ (numL L).1.map (clsN L xs.length (numL L).2), (x.next = [] ∧ x.chan = false) ∨ ∃ y, y ∈ L ∧ x.next = y.next.map (linkL L (numL L).2 y) ∧ x.chan = y.chan ∧ (y.chan = true → x.pay = linkL L (numL L).2 y y.pay) := by
      intro x hx
      obtain ⟨m, _, rfl⟩ := List.mem_map.1 hx
      unfold clsN
      cases hm : L[m]? with
      | none => exact .inl ⟨rfl, rfl⟩
      | some y => exact .inr ⟨y, List.mem_of_getElem? hm, rfl, rfl, fun e => if_pos e⟩
    have hlk : ∀ y e, 0 ≤ (linkL L (numL L).2 y e).1 ∧ (linkL L (numL L).2 y e).1 < (((numL L).1.map (clsN L xs.length (numL L).2)).length : Int) := fun y e => by
      rw [List.length_map]
      unfold linkL
      dsimp only
      have := num_lt hL hp (placeL L y e).1
      omega
    refine ⟨?_, ?_, ?_, ?_, ?_, ?_, ?_⟩
    · dsimp only; rw [List.length_map, List.length_map, List.length_range, num_len hL]
    · intro c hc
      dsimp only at hc ⊢
      obtain ⟨d, hd, rfl⟩ := List.mem_map.1 hc
      obtain ⟨i, hi⟩ := List.mem_iff_getElem?.1 hd
      have := (cls_num hL).lt hi
      rw [List.length_map]
      show 0 ≤ (d : Int) ∧ (d : Int) < _
      omega
    · intro x hx e he
      rcases hcl x hx with ⟨h1, _⟩ | ⟨y, _, h1, _⟩
      · rw [h1] at he; cases he
      · rw [h1] at he
        obtain ⟨f, _, rfl⟩ := List.mem_map.1 he
        exact hlk y f
    · intro x hx hc
      rcases hcl x hx with ⟨_, h1⟩ | ⟨y, _, _, h1, h2⟩
      · rw [h1] at hc; cases hc
      · rw [h2 (by rw [← h1]; exact hc)]
        exact hlk y y.pay
    · dsimp only; rw [List.length_map]; omega
    · dsimp only; rw [List.length_map, num_len hL]; omega
    · intro x hx
      rcases hcl x hx with ⟨h1, _⟩ | ⟨y, hy, h1, _⟩
      · rw [h1]; simp
      · rw [h1, List.length_map]
        have := (hL.good y hy).2.2
        omega
  · rw [if_neg h0]
    exact ⟨rfl, fun c h => (by cases h), fun x h => (by cases h), fun x h => (by cases h), by simp, by simp, fun x h => (by cases h)⟩
end Go.Proofs.Ytmhbmeckdbdhpaa

/- Texts joined for the claim's sake: MOwF, MPtL. -/
import Derived.Test.YtohhojbeclbedaaGreatDoorZMKnwRow28
import Derived.Test.YtohhojbeclbedaaGreatDoorZMKnwRow32
import Derived.Test.YtohhojbeclbedaaGreatDoorZMKnwRow38
namespace Go.Proofs.YtohhojbeclbedaaGreatDoor
open Go.RowKit

/-- A list that a call makes, beside blocks T that others turn: css are its things' cells. -/
structure OQ {α : Type} (E : Enc α) (sz : Nat) (t : TypeId) (base : Nat) (T : Nat → Prop) (W : World) (v : Value) (xs : List α) (css : List (Array Value)) : Prop where
  row : W.ownsRow base t sz v xs.length (css.flatMap Array.toList)
  len : css.length = xs.length
  sizes : ∀ cs ∈ css, cs.size = sz
  el : ∀ (i : Nat) (x : α) (cs : Array Value), xs[i]? = some x → css[i]? = some cs → E (fun k => ¬ T k ∧ some k ≠ v.ownBlock) W x cs
  ap : ∀ k, v.ownBlock = some k → ¬ T k
section
variable {α : Type} {E : Enc α} {sz : Nat} {t : TypeId} {base : Nat} {T T' : Nat → Prop} {W W' : World} {v : Value} {xs : List α} {css : List (Array Value)}
theorem OQ.nil_ (E : Enc α) (sz : Nat) (t : TypeId) (base : Nat) (T : Nat → Prop) (W : World) : OQ E sz t base T W (.slice none 0 0) [] [] :=
  ⟨World.ownsRow_nil _ _ _ _, rfl, (fun cs h => by cases h), (fun i x cs h => by simp at h), (fun k h => by simp [Value.ownBlock] at h)⟩
theorem OQ.turn (hE : E.Ok sz) (h : OQ E sz t base T W v xs css) (ht : Turn T W W') (hT : ∀ k, k < W.heap.size → ¬ T k → ¬ T' k) : OQ E sz t base T' W' v xs css := by
  refine ⟨own_turn h.row ht h.ap, h.len, h.sizes, fun i x cs h1 h2 => ?_, fun k hk => hT k (World.ownsRow.lt h.row k hk).2 (h.ap k hk)⟩
  have e1 := hE.more (S' := fun k => (¬ T' k ∧ some k ≠ v.ownBlock) ∧ ¬ T k) (h.el i x cs h1 h2) (fun b hb hl => ⟨⟨hT b hl hb.1, hb.2⟩, hb.1⟩)
  exact hE.more (hE.kept e1 (KeptS.of_turn ht (fun b hb => hb.2))) (fun b hb _ => hb.1)
theorem OQ.none_ (hE : E.Ok sz) (h : OQ E sz t base T W v xs css) (hg : W.grownBy W' none) : OQ E sz t base T W' v xs css := h.turn hE (Turn.none_ hg) (fun _ _ h => h)
theorem OQ.list (hE : E.Ok sz) (h : OQ E sz t base T W v xs css) : ListA E sz (fun k => ¬ T k) W v xs := by
  rcases h.row.2 with ⟨rfl, hn⟩ | ⟨g, cap, cur, rfl, hb, hh, hn, hm, _, _⟩
  · obtain rfl : xs = [] := List.length_eq_zero_iff.1 hn
    exact ListA.nil_ _ _
  · refine ⟨some ⟨g, 0, none⟩, cap, rfl, hn, by unfold maxLen at hm; omega, fun _ => ⟨g, 0, rfl, h.ap g rfl, fun i x hx => ?_⟩⟩
    have hi : i < css.length := by rw [h.len]; exact (List.getElem?_eq_some_iff.1 hx).1
    obtain ⟨cs, hcs⟩ : ∃ cs, css[i]? = some cs := ⟨_, List.getElem?_eq_getElem hi⟩
    refine ⟨cs, hE.more (h.el i x cs hx hcs) (fun b hb _ => hb.1), fun j u hu => ?_⟩
    have := World.ownsRow.cells h.row (g := g) rfl (i * sz + j) u (flat_at css h.sizes i cs hcs j u hu)
    rw [addr_M, Nat.zero_add] at this
    rw [Nat.zero_add]
    exact this
end

/-! ### What few makes -/
/-! ### As a list is made -/
theorem grown_ownM {w W W' : World} {v : Value} (h : w.grownBy W none) (hr : ∀ g, v.ownBlock = some g → w.heap.size ≤ g) (hg : W.grownBy W' v.ownBlock) : w.grownBy W' none := by
  cases hb : v.ownBlock with
  | none => rw [hb] at hg; exact only_trans h hg
  | some g => rw [hb] at hg; exact only_new h hg (hr g hb)
/-- A list that is made, thing by thing, in a box's cell: since wK the box alone was turned. -/
structure FQ {α : Type} (E : Enc α) (sz : Nat) (t ty : TypeId) (N : Nat) (w wK : World) (bo : Nat) (c : Array Value) (v : Value) (xs : List α) (css : List (Array Value)) (W : World) : Prop where
  hN : N ≤ w.heap.size
  ht : Turn (fun k => k = bo) wK W
  g : w.grownBy W none
  gk : w.grownBy wK none
  hb : w.heap.size ≤ bo
  lt : bo < wK.heap.size
  o : Blk W bo ty c
  q : OQ E sz t wK.heap.size (fun k => N ≤ k ∧ k < wK.heap.size) W v xs css
section
variable {α : Type} {E : Enc α} {sz bo N : Nat} {t ty : TypeId} {w wK W W1 W2 : World} {c : Array Value} {v : Value} {xs : List α} {css : List (Array Value)}
theorem FQ.start (hN : N ≤ w.heap.size) (h : w.grownBy wK none) (hb : w.heap.size ≤ bo) (ho : Blk wK bo ty c) : FQ E sz t ty N w wK bo c (.slice none 0 0) [] [] wK :=
  ⟨hN, ⟨rfl, rfl, rfl, Nat.le_refl _, fun _ _ _ => rfl⟩, h, h, hb, ho.lt, ho, OQ.nil_ _ _ _ _ _ _⟩
theorem FQ.keep (hE : E.Ok sz) (h : FQ E sz t ty N w wK bo c v xs css W) (hg : W.grownBy W1 none) : FQ E sz t ty N w wK bo c v xs css W1 :=
  ⟨h.hN, h.ht.then_ (Turn.none_ hg) (fun _ _ hk => hk), only_trans h.g hg, h.gk, h.hb, h.lt, h.o.kept hg, h.q.none_ hE hg⟩
theorem FQ.own (h : FQ E sz t ty N w wK bo c v xs css W) : ∀ k, v.ownBlock = some k → wK.heap.size ≤ k := fun k hk => (World.ownsRow.lt h.q.row k hk).1
theorem FQ.size (h : FQ E sz t ty N w wK bo c v xs css W) : wK.heap.size ≤ W.heap.size := h.ht.size
/-- What lay in memory lies there, far from what is made. -/
theorem FQ.old {β : Type} {F : Enc β} {s2 : Nat} (hF : F.Ok s2) (h0 : 0 < s2) (h : FQ E sz t ty N w wK bo c v xs css W) {u : Value} {ys : List β} (hl : ListA F s2 (fun b => b < N) w u ys) :
    ListA F s2 (fun k => ¬ (N ≤ k ∧ k < wK.heap.size) ∧ some k ≠ v.ownBlock) W u ys :=
  (hl.kept hF (KeptS.none_ h.g)).more hF h0 fun b hb _ => ⟨fun e => by
    have hb' : b < N := hb
    omega, fun e => by
    have := h.own b e.symm
    have := h.gk.size
    have := h.hN
    have hb' : b < N := hb
    omega⟩
/-- One thing more. -/
theorem FQ.next (hE : E.Ok sz) (h : FQ E sz t ty N w wK bo c v xs css W) (hg : W.grownBy W1 none) {v2 : Value} {ys : List α} {dss : List (Array Value)} (hot : OQ E sz t wK.heap.size (fun k => N ≤ k ∧ k < wK.heap.size) W2 v2 ys dss) (hgr : W1.grownBy W2 v.ownBlock) (j : Nat) :
    Blk W2 bo ty c ∧ FQ E sz t ty N w wK bo (c.setIfInBounds j v2) v2 ys dss (W2.setCell ⟨bo, j, none⟩ v2) := by
  have hW1 := h.keep hE hg
  have hb2 : Blk W2 bo ty c := hW1.o.grown hgr (fun e => by
    have := hW1.own bo e.symm
    have := h.lt
    omega)
  have hset : W2.grownBy (W2.setCell ⟨bo, j, none⟩ v2) (some bo) := only_setCell (only_refl _ _) rfl _
  refine ⟨hb2, h.hN, ?_, ?_, h.gk, h.hb, h.lt, hb2.set_ j v2, ?_⟩
  · have t1 : Turn (fun k => k = bo) wK W2 := by
      refine ⟨hgr.os.trans hW1.ht.os, hgr.tape.trans hW1.ht.tape, hgr.output.trans hW1.ht.output, Nat.le_trans hW1.ht.size hgr.size, fun i hi hn => ?_⟩
      have hi1 : i < W1.heap.size := Nat.lt_of_lt_of_le hi hW1.ht.size
      rw [hgr.block i hi1 (fun e => by
        have := hW1.own i e.symm
        omega)]
      exact hW1.ht.block i hi hn
    exact t1.then_ (Turn.of_only hset (fun k e => by injection e with e; exact e.symm)) (fun _ _ hk => hk)
  · have g2 : w.grownBy W2 none := grown_ownM hW1.g (fun k e => by
      have := hW1.own k e
      have := h.gk.size
      omega) hgr
    exact only_new g2 hset h.hb
  · exact hot.turn hE (Turn.of_only hset (S := fun k => N ≤ k ∧ k < wK.heap.size) (fun k e => by
      injection e with e
      subst e
      exact ⟨Nat.le_trans h.hN h.hb, h.lt⟩)) (fun _ _ hk => hk)
/-- What was made. -/
theorem FQ.done (hE : E.Ok sz) (h : FQ E sz t ty N w wK bo c v xs css W) : ListA E sz (fun k => ¬ (N ≤ k ∧ k < wK.heap.size)) W v xs := h.q.list hE
end
end Go.Proofs.YtohhojbeclbedaaGreatDoor

namespace Go.Proofs.YtohhojbeclbedaaGreatDoor
open Go.RowKit

end Go.Proofs.YtohhojbeclbedaaGreatDoor

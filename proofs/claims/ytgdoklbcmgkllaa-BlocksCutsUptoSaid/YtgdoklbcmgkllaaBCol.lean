/- blocks: slices.Collect over goes, slices.Clone; Targets, Goes. -/
import Derived.Test.YtgdoklbcmgkllaaBGb
namespace Go.Proofs.Ytgdoklbcmgkllaa
open Go.RowKit Go.Shelf
attribute [local go_sem] Oper.semAt_some

/-- A code's own goes, in its boxes. -/
structure GoB (Bc Bn : Nat) (v : Value) (cs : List Bi) (i : Nat) (w0 W : World) : Prop where
  cd : CodeA w0 v cs
  gr : w0.grownBy W none
  bc : Blk W Bc 22 #[v]
  bi : Blk W Bn 3 #[.int .i64 (i : Int)]
theorem blk_atB {W : World} {g : Nat} (h : W.heap.size = g) (T : TypeId) (cs : Array Value) : Blk (W.alloc (.cells cs T)) g T cs := h ▸ Blk.new W T cs
theorem goesN_length {cs : List Bi} {i : Nat} (hl : ∀ x ∈ cs, x.2.length ≤ 1048576) : (goesN cs i).length ≤ 1048577 := by
  unfold goesN
  cases hx : cs[i]? with
  | none => simp
  | some x =>
    show (goesX i x).length ≤ _
    have := hl x (List.mem_of_getElem? hx)
    unfold goesX tgtL
    rw [List.length_append]
    split <;> split <;> simp <;> omega
/-- A slice's copy, of a call's own. -/
theorem clone_any (v : Value) (l : List Int) (w : World) (hI : IntsA (fun k => k < w.heap.size) w v l) (hl : l.length ≤ 1000000000) :
    Calls Try.prog 22 #[v] w fun e w' => ∃ v', e = .returned v' ∧ BOwn w.heap.size w' v' l ∧ w.grownBy w' none := by
  obtain ⟨A, c, rfl, hA⟩ := id hI
  have HI := Lib.hid hI
  have HL := Lib.hid hl
  have he1 : ∀ (w : World) (a : Addr) (n c : Nat), (binOp .eql 24 (.slice (some a) n c) (.slice none 0 0)).run Try.prog w = .ok (.bool false) w := fun _ _ _ _ => rfl
  have he0 : ∀ (w : World) (n c : Nat), (binOp .eql 24 (.slice none n c) (.slice none 0 0)).run Try.prog w = .ok (.bool true) w := fun _ _ _ => rfl
  cases A with
  | none =>
    have hl0 : l = [] := by
      cases l with
      | nil => rfl
      | cons z l => obtain ⟨b, off, e, _⟩ := hA (by simp); cases e
    subst hl0
    clear hA hI
    go_enter Try.func22, Try.ntmps22
    go_wp2_with fail
    go_ret
    exact ⟨_, rfl, BOwn.nil_ _ _, only_refl _ _⟩
  | some a =>
    clear hA hI hl
    have hz : BOwn w.heap.size (w.alloc (.cells #[] 3)) (.slice (some ⟨w.heap.size, 0, none⟩) 0 0) [] := ⟨rfl, .inr ⟨w.heap.size, 0, #[], rfl, Nat.le_refl _, World.alloc_heap_new _ _, Nat.le_refl _, by decide, rfl, rfl⟩⟩
    have HZ := Lib.hid hz
    clear hz
    go_enter Try.func22, Try.ntmps22
    go_wp2_with (at_builtin; go_loud (refine wpList_append_zs (base := w.heap.size) rfl _ _ rfl rfl rfl HZ.out (HI.out.row (only_alloc (only_refl w none) _) (fun _ _ e => by cases e)) (by have := HL.out; simp; omega) (by simp) ?_); intro v' w3 ho hg; rw [List.nil_append] at ho; obtain ⟨A1, c1, rfl, _⟩ := id ho.reads)
    go_ret
    exact ⟨_, rfl, ho, only_new (only_alloc (only_refl w none) _) hg (Nat.le_refl _)⟩
end Go.Proofs.Ytgdoklbcmgkllaa

/- A box that holds a row that a call makes and that grows, in a round. -/
import Derived.Test.YtgdoklbcmgkllaaBTel
namespace Go.Proofs.Ytgdoklbcmgkllaa
open Go.RowKit

theorem own_rowB {W : World} {base : Nat} {v : Value} {n : Nat} {xs : List Value} {t : TypeId} {size : Nat} (h : W.ownsRow base t size v n xs) : ∀ g, v.ownBlock = some g → base ≤ g ∧ ∃ cs, Blk W g t cs := fun g hg => by
  rcases h.2 with ⟨rfl, _⟩ | ⟨g', cap, cur, rfl, hb, hh, _⟩
  · simp [Value.ownBlock] at hg
  · have : g' = g := by simpa [Value.ownBlock] using hg
    subst this
    exact ⟨hb, cur, hh⟩
theorem grown_ownB {w W W' : World} {v : Value} (h : w.grownBy W none) (hr : ∀ g, v.ownBlock = some g → w.heap.size ≤ g) (hg : W.grownBy W' v.ownBlock) : w.grownBy W' none := by
  cases hb : v.ownBlock with
  | none => rw [hb] at hg; exact only_trans h hg
  | some g => rw [hb] at hg; exact only_new h hg (hr g hb)
/-- Block Bk (of type T) holds v, an owned row of things of type E. -/
structure GBx (w : World) (T E : TypeId) (sz Bk : Nat) (v : Value) (n : Nat) (xs : List Value) (W : World) : Prop where
  gr : w.grownBy W none
  bx : Blk W Bk T #[v]
  hk : w.heap.size ≤ Bk
  ow : W.ownsRow w.heap.size E sz v n xs
section
variable {w W W' : World} {T E : TypeId} {sz Bk : Nat} {v v' : Value} {n n' : Nat} {xs xs' : List Value}
theorem own_keptB (h : W.ownsRow w.heap.size E sz v n xs) (hg : W.grownBy W' none) : W'.ownsRow w.heap.size E sz v n xs := h.kept hg (by
  cases e : v.ownBlock with
  | none => exact .inl rfl
  | some g => exact .inr (fun e => by cases e))
theorem GBx.kept (h : GBx w T E sz Bk v n xs W) (hg : W.grownBy W' none) : GBx w T E sz Bk v n xs W' := ⟨only_trans h.gr hg, h.bx.kept hg, h.hk, own_keptB h.ow hg⟩
theorem GBx.at_ (h : GBx w T E sz Bk v n xs W) (hTE : T ≠ E) (hg : W.grownBy W' v.ownBlock) : Blk W' Bk T #[v] := h.bx.grown hg fun e => by
  obtain ⟨_, cs', hb'⟩ := own_rowB h.ow _ e.symm
  exact Blk.ne_ h.bx hb' hTE rfl
/-- Another block, behind the append and the store. -/
theorem GBx.other {k : Nat} {t : TypeId} {cs : Array Value} (h : GBx w T E sz Bk v n xs W) (hb : Blk W k t cs) (ht : t ≠ E) (hkB : k ≠ Bk) (hg : W.grownBy W' v.ownBlock) (u : Value) : Blk (W'.setCell ⟨Bk, 0, none⟩ u) k t cs := by
  refine (hb.grown hg (fun e => ?_)).far (p := ⟨Bk, 0, none⟩) hkB _
  obtain ⟨_, cs', hb'⟩ := own_rowB h.ow k e.symm
  exact Blk.ne_ hb hb' ht rfl
theorem GBx.put (h : GBx w T E sz Bk v n xs W) (hTE : T ≠ E) (hg : W.grownBy W' v.ownBlock) (ho : W'.ownsRow w.heap.size E sz v' n' xs') : GBx w T E sz Bk v' n' xs' (W'.setCell ⟨Bk, 0, none⟩ v') := by
  have hs : W'.grownBy (W'.setCell ⟨Bk, 0, none⟩ v') (some Bk) := only_setCell (only_refl _ _) rfl _
  have b5' := h.at_ hTE hg
  have g1 : w.grownBy W' none := grown_ownB h.gr (fun g e => (World.ownsRow.lt h.ow g e).1) hg
  refine ⟨only_setNew g1 h.hk _, b5'.set_ 0 v', h.hk, ho.kept hs ?_⟩
  cases e : v'.ownBlock with
  | none => exact .inl rfl
  | some g =>
    refine .inr fun e' => ?_
    injection e' with e'
    subst e'
    obtain ⟨_, cs', hb'⟩ := own_rowB ho _ e
    exact Blk.ne_ b5' hb' hTE rfl
theorem GBx.ks (h : GBx w T E sz Bk v n xs W) (hTE : T ≠ E) {S : Nat → Prop} {ts : List TypeId} (hB : ∀ k, S k → k < w.heap.size) (hT : T ∈ ts) (hE : E ∈ ts) (hg : W.grownBy W' v.ownBlock) (u : Value) : KS S ts W (W'.setCell ⟨Bk, 0, none⟩ u) := by
  refine (KS.row hg (fun g e => ?_)).trans (KS.row (only_setCell (g := Bk) (only_refl _ _) rfl u) (fun g e => ?_))
  · obtain ⟨hb, cs, hblk⟩ := own_rowB h.ow g e
    exact ⟨fun hs => by have := hB _ hs; omega, E, cs, hblk, hE⟩
  · injection e with e
    subst e
    exact ⟨fun hs => by have := hB _ hs; have := h.hk; omega, T, _, h.at_ hTE hg, hT⟩
theorem GBx.from_ (h : GBx w T E sz Bk v n xs W) (hg : W.grownBy W' v.ownBlock) (u : Value) (B : Nat) : KeepsFrom B W (W'.setCell ⟨Bk, 0, none⟩ u) := by
  refine KeepsFrom.trans ⟨hg.size, fun k o _ hk ho => (hg.block k (Array.getElem?_eq_some_iff.1 hk).1 (fun e => ?_)).trans hk⟩ ((KeepsOthers.setCell _ _ _).from _)
  obtain ⟨_, cs', hb'⟩ := own_rowB h.ow k e.symm
  unfold Blk at hb'
  rw [hb'] at hk
  cases hk
  cases ho
theorem blk_ownFB {row : Option Nat} {B k : Nat} {t : TypeId} {cs : Array Value} (h : Blk W k t cs) (hg : W.grownBy W' row) (hr : ∀ r, row = some r → B ≤ r ∧ ∃ o : Obj, W.heap[r]? = some o ∧ o.isCells = false) : Blk W' k t cs := by
  refine h.grown hg (fun e => ?_)
  obtain ⟨_, o, ho, hc⟩ := hr k e.symm
  unfold Blk at h
  rw [h] at ho
  cases ho
  cases hc
theorem grown_ownFB {row : Option Nat} {B : Nat} (h : w.grownBy W none) (hB : w.heap.size ≤ B) (hg : W.grownBy W' row) (hr : ∀ r, row = some r → B ≤ r ∧ ∃ o : Obj, W.heap[r]? = some o ∧ o.isCells = false) : w.grownBy W' none := by
  cases e : row with
  | none => rw [e] at hg; exact only_trans h hg
  | some g => rw [e] at hg; exact only_new h hg (Nat.le_trans hB (hr g e).1)
theorem GBx.own {row : Option Nat} {B : Nat} (h : GBx w T E sz Bk v n xs W) (hB : w.heap.size ≤ B) (hg : W.grownBy W' row) (hr : ∀ r, row = some r → B ≤ r ∧ ∃ o : Obj, W.heap[r]? = some o ∧ o.isCells = false) : GBx w T E sz Bk v n xs W' := by
  refine ⟨grown_ownFB h.gr hB hg hr, blk_ownFB h.bx hg hr, h.hk, h.ow.kept hg ?_⟩
  cases e : v.ownBlock with
  | none => exact .inl rfl
  | some g =>
    refine .inr fun e' => ?_
    obtain ⟨_, cs', hb'⟩ := own_rowB h.ow _ e
    obtain ⟨_, o, ho, hc⟩ := hr g e'.symm
    unfold Blk at hb'
    rw [hb'] at ho
    cases ho
    cases hc
theorem own_lenB (h : W.ownsRow w.heap.size E sz v n xs) : ∃ A c, v = .slice A n c := by
  rcases h.2 with ⟨rfl, rfl⟩ | ⟨g, cap, cur, rfl, _⟩
  · exact ⟨_, _, rfl⟩
  · exact ⟨_, _, rfl⟩
end
/-- One more, in a round. -/
theorem wpListIn_append_z {F : Fence} {m : Nat} {ops : Array Oper} {rest : List Oper} {o : Oper} {a : Act} {W : World} {Q : Exit → Act → World → Prop} (hgd : o.guard = none) (s x : Operand)
    (ho : o.op = .call { callee := .builtin .append, args := #[s, x], argTypes := #[24, 24] })
    {base : Nat} {v : Value} {zs : List Int} {z : Int} {g : Nat} (hs : a.eval s = v) (hx : a.eval x = .slice (some ⟨g, 0, none⟩) 1 1)
    (hot : BOwn base W v zs) (hb : Blk W g 3 #[.int .i64 z]) (hn : zs.length ≤ 900000000000) (hbase : base ≤ W.heap.size)
    (h : ∀ v' W', BOwn base W' v' (zs ++ [z]) → W.grownBy W' v.ownBlock → wpListIn F m Try.prog ops Q rest (a.put o.dst v') W') : wpListIn F m Try.prog ops Q (o :: rest) a W := by
  obtain ⟨i0, hi, hz0, hz1, hz2⟩ := info_parts intB_info
  refine wpListIn_append_own W hgd s x 24 ho base 3 i0 _ 1 8 Try.underlying24 hi hz0 hz1 hz2 rfl (by decide) v zs.length (zsV zs) hs hot
    ⟨g, 0, none⟩ 1 1 [.int .i64 z] hx rfl (fun j u hu => ?_) (fun u hu => ?_) (by unfold maxLen; omega) (by omega) hbase (fun v' W' hr hg _ => h v' W' ?_ hg)
  · rw [addr_B, Nat.zero_add, hb.cell j, ← hu]; simp
  · obtain rfl := List.mem_singleton.1 hu; rfl
  · unfold BOwn
    rw [List.length_append, zsV_app]; exact hr
theorem BOwn.keepc {b : Nat} {W W' : World} {v : Value} {zs : List Int} (h : BOwn b W v zs) (hk : KeepsCells W W') : BOwn b W' v zs := by
  obtain ⟨h1, h2⟩ := h
  refine ⟨h1, ?_⟩
  rcases h2 with h2 | ⟨g, cap, cur, e, hb2, hh, h3⟩
  · exact .inl h2
  · exact .inr ⟨g, cap, cur, e, hb2, hk.same g _ hh rfl, h3⟩
theorem BOwn.down {b b' : Nat} {W : World} {v : Value} {zs : List Int} (h : BOwn b W v zs) (hb : b' ≤ b) (_ : b' ≤ W.heap.size) : BOwn b' W v zs := by
  obtain ⟨h1, h2⟩ := h
  refine ⟨h1, ?_⟩
  rcases h2 with h2 | ⟨g, cap, cur, e, hb2, h3⟩
  · exact .inl h2
  · exact .inr ⟨g, cap, cur, e, Nat.le_trans hb hb2, h3⟩
end Go.Proofs.Ytgdoklbcmgkllaa

/- BlocksWhole: what is carried through its loops. -/
import Derived.Test.YtgdoklbcmgkllaaBTld
namespace Go.Proofs.Ytgdoklbcmgkllaa
open Go.RowKit Go.Maps

/-- A code and its flow, in memory. -/
structure St (w0 : World) (cv : Value) (cs : List Bi) (Bf b1 o1 n c1 b2 o2 c2 : Nat) (W : World) : Prop where
  g : w0.grownBy W none
  c : CodeA W cv cs
  f : Blk W Bf 27 #[.slice (some ⟨b1, o1, none⟩) n c1, .slice (some ⟨b2, o2, none⟩) n c2]
  s : IB W (.slice (some ⟨b1, o1, none⟩) n c1) (intsN (startsL cs))
  x : NX W (.slice (some ⟨b2, o2, none⟩) n c2) (((List.range (startsL cs).length).map (nextB cs)).map intsN)
section
variable {w0 W W' : World} {cv : Value} {cs : List Bi} {Bf b1 o1 n c1 b2 o2 c2 : Nat}
theorem St.kept (h : St w0 cv cs Bf b1 o1 n c1 b2 o2 c2 W) (hg : W.grownBy W' none) : St w0 cv cs Bf b1 o1 n c1 b2 o2 c2 W' :=
  ⟨only_trans h.g hg, h.c.kept hg, h.f.kept hg, h.s.kept hg, h.x.kept hg⟩
theorem St.put {b m : Nat} {M : MMp} (h : St w0 cv cs Bf b1 o1 n c1 b2 o2 c2 W) (hm : MMap W b m M) (hg : W.grownBy W' (some b)) (hb : w0.heap.size ≤ b) : St w0 cv cs Bf b1 o1 n c1 b2 o2 c2 W' := by
  have hk := map_cells hm hg
  exact ⟨only_new h.g hg hb, h.c.keepc hk, h.f.keeps hk, h.s.keepc hk, h.x.keepc hk⟩
theorem St.start (h : St w0 cv cs Bf b1 o1 n c1 b2 o2 c2 W) {i s : Nat} (hs : (startsL cs)[i]? = some s) : W.cell? ⟨b1, o1 + i, none⟩ = some (.int .i64 (s : Int)) := by
  obtain ⟨b, o, e, hc⟩ := h.s.at_ (i := i) (z := (s : Int)) (by unfold intsN; rw [List.getElem?_map, hs]; rfl)
  injection e with e
  injection e with e1 e2
  subst e1
  subst e2
  exact hc
theorem St.next (h : St w0 cv cs Bf b1 o1 n c1 b2 o2 c2 W) {i : Nat} {gl : List Int} (hi : i < (startsL cs).length) (hgl : goesN cs (lastB cs i) = gl) : ∃ A5 c5, W.cell? ⟨b2, o2 + i, none⟩ = some (.slice A5 gl.length c5) ∧ IB W (.slice A5 gl.length c5) (intsN (nextB cs i)) := by
  obtain ⟨b, o, A5, c5, e, hc, hI⟩ := h.x.at_ (i := i) (l := intsN (nextB cs i)) (by rw [List.getElem?_map, List.getElem?_map, List.getElem?_range hi]; rfl)
  injection e with e
  injection e with e1 e2
  subst e1
  subst e2
  have hl : (intsN (nextB cs i)).length = gl.length := by unfold intsN nextB; rw [hgl]; simp
  rw [hl] at hc hI
  exact ⟨A5, c5, hc, hI⟩
theorem St.f0 (h : St w0 cv cs Bf b1 o1 n c1 b2 o2 c2 W) : W.cell? ⟨Bf, 0, none⟩ = some (.slice (some ⟨b1, o1, none⟩) n c1) := h.f.cell 0
theorem St.f1 (h : St w0 cv cs Bf b1 o1 n c1 b2 o2 c2 W) : W.cell? ⟨Bf, 1, none⟩ = some (.slice (some ⟨b2, o2, none⟩) n c2) := h.f.cell 1
end
/-- Where blocks begin, with their numbers. -/
def NumM (cs : List Bi) (k : Nat) (M : MMp) : Prop := ∀ j s : Nat, j < k → (startsL cs)[j]? = some s → M s = some (j : Int)
theorem NumM.next {cs : List Bi} {k s : Nat} {M : MMp} (h : NumM cs k M) (hs : (startsL cs)[k]? = some s) : NumM cs (k + 1) (updI M s (k : Int)) := fun j t hj ht => by
  unfold updI
  rcases Nat.lt_or_eq_of_le (Nat.le_of_lt_succ hj) with h1 | h1
  · have := starts_lt ht hs h1
    rw [if_neg (by omega)]
    exact h j t h1 ht
  · subst h1
    rw [hs] at ht
    injection ht with ht
    rw [if_pos ht.symm]
/-- What is reached from the blocks ahead of this one. -/
def Rcd (cs : List Bi) (k : Nat) (M : MMp) : Prop := M 0 = some 1 ∧ ∀ a t : Nat, a < k → t ∈ nextB cs a → a < t → M t = some 1
theorem Rcd.upd {cs : List Bi} {k t : Nat} {M : MMp} (h : Rcd cs k M) : Rcd cs k (updI M t 1) := ⟨upd_up h.1, fun a t ha ht hl => upd_up (h.2 a t ha ht hl)⟩
theorem Rcd.at_ {cs : List Bi} {k : Nat} {M : MMp} (h : Rcd cs k M) (hd : deadB cs k = false) : M k = some 1 := by
  rcases Nat.eq_zero_or_pos k with e | e
  · subst e; exact h.1
  · obtain ⟨a, ha, hm⟩ := live_from hd e
    exact h.2 a k ha hm ha
theorem Rcd.next {cs : List Bi} {k : Nat} {M : MMp} (h : Rcd cs k M) (hk : ∀ t : Nat, t ∈ nextB cs k → k < t → M t = some 1) : Rcd cs (k + 1) M := ⟨h.1, fun a t ha ht hl => by
  rcases Nat.lt_or_eq_of_le (Nat.le_of_lt_succ ha) with h1 | h1
  · exact h.2 a t h1 ht hl
  · subst h1; exact hk t ht hl⟩
theorem last_end {cs : List Bi} {b : Nat} (h : b + 1 = (startsL cs).length) (hn : 1 ≤ cs.length) : ((lastB cs b : Nat) : Int) + 1 = (cs.length : Int) := by
  unfold lastB
  rw [List.getElem?_eq_none (by omega)]
  simp only
  omega
theorem last_next {cs : List Bi} {b t : Nat} (h : (startsL cs)[b + 1]? = some t) (hb : b < (startsL cs).length) : ((lastB cs b : Nat) : Int) + 1 = (t : Int) := by
  have h2 := starts_lt (List.getElem?_eq_getElem hb) h (by omega)
  unfold lastB
  rw [h]
  simp only
  omega
end Go.Proofs.Ytgdoklbcmgkllaa

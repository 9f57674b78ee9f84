/- Equality to a depth by what was looked at of two nodes: what stands between two steps. No program. -/
import Derived.Test.YtoklaajiajilhaaDoorVFn
namespace Go.Proofs.YtoklaajiajilhaaDoor
open Go.RowKit

section
variable {xs : List Nd}
abbrev R2 (xs : List Nd) (t : Ed) : Ed := resolveL xs t
theorem allTwo_zip {R : Ed → Ed → Bool} : ∀ {l k : List Ed}, l.length = k.length → (allTwo R l k = true ↔ ∀ z ∈ l.zip k, R z.1 z.2 = true)
  | [], [], _ => by simp [allTwo]
  | a :: l, b :: k, h => by
    unfold allTwo
    rw [Bool.and_eq_true, allTwo_zip (l := l) (k := k) (by simpa using h), List.zip_cons_cons]
    simp
  | [], _ :: _, h => by simp at h
  | _ :: _, [], h => by simp at h
theorem allTwo_map2 {R : Ed → Ed → Bool} {f g : Ed → Ed} : ∀ {l k : List Ed}, allTwo (fun e e' => R (f e) (g e')) l k = allTwo R (l.map f) (k.map g)
  | [], [] => rfl
  | a :: l, b :: k => by unfold allTwo; rw [allTwo_map2 (l := l) (k := k)]; rfl
  | [], _ :: _ => rfl
  | _ :: _, [] => rfl
/-- What two nodes' parts must be, by the rows of them. -/
theorem partsB_zip {R : Ed → Ed → Bool} {x y : Nd} {p q : Ed} (hk : x.kind = y.kind) (hc : x.chan = y.chan) (hn : x.next.length = y.next.length) :
    partsB R x y p q = true ↔ ∀ z ∈ ((payL x ++ x.next).map (stepT p)).zip ((payL y ++ y.next).map (stepT q)), R z.1 z.2 = true := by
  unfold partsB
  rw [decide_eq_true hk, decide_eq_true hc, Bool.true_and, Bool.true_and, allTwo_map2, Bool.and_eq_true, allTwo_zip (by simpa using hn)]
  unfold payL
  rw [← hc]
  cases x.chan <;> simp
/-- Equality to one depth more, by faces and parts. -/
theorem eqD_face {d : Nat} {a b : Ed} : eqD xs (d + 1) a b = true ↔ faceL xs (resolveL xs a) = faceL xs (resolveL xs b) ∧ ∀ z ∈ (partsL xs (resolveL xs a)).zip (partsL xs (resolveL xs b)), eqD xs d z.1 z.2 = true := by
  conv => lhs; unfold eqD
  unfold faceL partsL
  cases h1 : nodeAt xs (resolveL xs a).1 with
  | none =>
    cases h2 : nodeAt xs (resolveL xs b).1 with
    | none => simp
    | some y => dsimp only; cases actsK y.kind <;> simp
  | some x =>
    cases h2 : nodeAt xs (resolveL xs b).1 with
    | none => dsimp only; cases actsK x.kind <;> simp
    | some y =>
      dsimp only
      cases ha : actsK x.kind with
      | false =>
        cases hb : actsK y.kind with
        | false => simp
        | true =>
          have : x.kind ≠ y.kind := fun e => by rw [e, hb] at ha; cases ha
          simp [this]
      | true =>
        cases hb : actsK y.kind with
        | false =>
          have : x.kind ≠ y.kind := fun e => by rw [e, hb] at ha; cases ha
          simp [this]
        | true =>
          simp only [Bool.and_self, if_true, Bool.and_eq_true, decide_eq_true_eq, Fc.mk.injEq, true_and]
          constructor
          · rintro ⟨hp, hq⟩
            have hq2 := hq
            unfold partsB at hq
            rw [Bool.and_eq_true, Bool.and_eq_true, Bool.and_eq_true, decide_eq_true_eq, decide_eq_true_eq] at hq
            have hl := allTwo_len hq.2
            exact ⟨⟨hq.1.1.1, hp, hq.1.1.2, by rw [hl]⟩, (partsB_zip hq.1.1.1 hq.1.1.2 hl).1 hq2⟩
          · rintro ⟨⟨hk, hp, hc, hn⟩, hz⟩
            exact ⟨hp, (partsB_zip hk hc (by omega)).2 hz⟩
/-! ### What was looked at -/
/-- Two types that are equal to a depth l, by what was looked at. -/
def GoodE (xs : List Nd) (K : Int × Int → Nat) (l : Nat) (q : Ed × Ed) : Prop := l = 0 ∨ resolveL xs q.1 = resolveL xs q.2 ∨ (faceL xs (resolveL xs q.1) = faceL xs (resolveL xs q.2) ∧ l ≤ K ((resolveL xs q.1).1, (resolveL xs q.2).1))
theorem GoodE.mono {K K' : Int × Int → Nat} {l l' : Nat} {q : Ed × Ed} (h : GoodE xs K l q) (hl : l' ≤ l) (hK : ∀ k, K k ≤ K' k) : GoodE xs K' l' q := by
  rcases h with h | h | ⟨h, h2⟩
  · exact .inl (by omega)
  · exact .inr (.inl h)
  · exact .inr (.inr ⟨h, Nat.le_trans hl (Nat.le_trans h2 (hK _))⟩)
def kidsE (xs : List Nd) (q : Ed × Ed) : List (Ed × Ed) := (partsL xs (resolveL xs q.1)).zip (partsL xs (resolveL xs q.2))
/-- What is still to be held against each other. -/
def PendE (left : Nat) (rest behind : List (Ed × Ed)) (l : Nat) (q : Ed × Ed) : Prop := (l = left ∧ q ∈ rest) ∨ (l + 1 = left ∧ q ∈ behind)
structure EqI (xs : List Nd) (D : Nat) (s : Ed × Ed) (K : Int × Int → Nat) (left : Nat) (rest behind : List (Ed × Ed)) : Prop where
  made : ∀ k, 0 < K k → ∃ q : Ed × Ed, ((resolveL xs q.1).1, (resolveL xs q.2).1) = k ∧ faceL xs (resolveL xs q.1) = faceL xs (resolveL xs q.2) ∧ ∀ z ∈ kidsE xs q, GoodE xs K (K k - 1) z ∨ PendE left rest behind (K k - 1) z
  far : ∀ k, K k = 0 ∨ left ≤ K k
  start : GoodE xs K D s ∨ PendE left rest behind D s
  down : eqD xs D s.1 s.2 = true → (∀ q ∈ rest, eqD xs left q.1 q.2 = true) ∧ ∀ q ∈ behind, eqD xs (left - 1) q.1 q.2 = true
theorem eqI_start (D : Nat) (s : Ed × Ed) : EqI xs D s (fun _ => 0) D [s] [] := ⟨fun k h => absurd h (Nat.lt_irrefl _), fun _ => .inl rfl, .inr (.inl ⟨rfl, by simp⟩), fun h => ⟨fun q hq => by obtain rfl := List.mem_singleton.1 hq; exact h, fun q hq => by cases hq⟩⟩
section
variable {D left : Nat} {s : Ed × Ed} {K : Int × Int → Nat} {rest behind : List (Ed × Ed)} {p : Ed × Ed}
/-- Pairs leave rest as soon as they are good. -/
theorem EqI.drop (h : EqI xs D s K left (p :: rest) behind) (hp : GoodE xs K left p) : EqI xs D s K left rest behind := by
  have hpend : ∀ l q, PendE left (p :: rest) behind l q → GoodE xs K l q ∨ PendE left rest behind l q := fun l q hq => by
    rcases hq with ⟨rfl, hq⟩ | hq
    · rcases List.mem_cons.1 hq with rfl | hq
      · exact .inl hp
      · exact .inr (.inl ⟨rfl, hq⟩)
    · exact .inr (.inr hq)
  refine ⟨fun k hk => ?_, h.far, h.start.elim .inl (hpend _ _), fun he => ⟨fun q hq => (h.down he).1 q (List.mem_cons_of_mem _ hq), (h.down he).2⟩⟩
  obtain ⟨q, e1, e2, e3⟩ := h.made k hk
  exact ⟨q, e1, e2, fun z hz => (e3 z hz).elim .inl (hpend _ _)⟩
theorem EqI.same (h : EqI xs D s K left (p :: rest) behind) (hp : resolveL xs p.1 = resolveL xs p.2) : EqI xs D s K left rest behind := h.drop (.inr (.inl hp))
theorem EqI.old (h : EqI xs D s K left (p :: rest) behind) (hf : faceL xs (resolveL xs p.1) = faceL xs (resolveL xs p.2)) (hk : left ≤ K ((resolveL xs p.1).1, (resolveL xs p.2).1)) : EqI xs D s K left rest behind := h.drop (.inr (.inr ⟨hf, hk⟩))
/-- Where faces differ. -/
theorem EqI.apart (h : EqI xs D s K left (p :: rest) behind) (h0 : 0 < left) (hf : faceL xs (resolveL xs p.1) ≠ faceL xs (resolveL xs p.2)) : eqD xs D s.1 s.2 = false := by
  cases he : eqD xs D s.1 s.2 with
  | false => rfl
  | true =>
    have := (h.down he).1 p (by simp)
    obtain ⟨l, rfl⟩ : ∃ l, left = l + 1 := ⟨left - 1, by omega⟩
    exact absurd (eqD_face.1 this).1 hf
def setK (K : Int × Int → Nat) (k : Int × Int) (n : Nat) : Int × Int → Nat := fun j => if j = k then n else K j
theorem EqI.new (h : EqI xs D s K left (p :: rest) behind) (h0 : 0 < left) (hf : faceL xs (resolveL xs p.1) = faceL xs (resolveL xs p.2)) (hk : K ((resolveL xs p.1).1, (resolveL xs p.2).1) < left) :
    K ((resolveL xs p.1).1, (resolveL xs p.2).1) = 0 ∧ EqI xs D s (setK K ((resolveL xs p.1).1, (resolveL xs p.2).1) left) left rest (behind ++ kidsE xs p) := by
  have hk0 : K ((resolveL xs p.1).1, (resolveL xs p.2).1) = 0 := (h.far _).resolve_right (by omega)
  refine ⟨hk0, ?_⟩
  have hmono : ∀ k, K k ≤ setK K ((resolveL xs p.1).1, (resolveL xs p.2).1) left k := fun k => by
    unfold setK
    split
    · rename_i e; rw [e, hk0]; omega
    · exact Nat.le_refl _
  have hpk : setK K ((resolveL xs p.1).1, (resolveL xs p.2).1) left ((resolveL xs p.1).1, (resolveL xs p.2).1) = left := by unfold setK; rw [if_pos rfl]
  have hp : GoodE xs (setK K ((resolveL xs p.1).1, (resolveL xs p.2).1) left) left p := .inr (.inr ⟨hf, by rw [hpk]; exact Nat.le_refl _⟩)
  have hpend : ∀ l q, GoodE xs K l q ∨ PendE left (p :: rest) behind l q → GoodE xs (setK K ((resolveL xs p.1).1, (resolveL xs p.2).1) left) l q ∨ PendE left rest (behind ++ kidsE xs p) l q := fun l q hq => by
    rcases hq with hq | ⟨rfl, hq⟩ | ⟨e, hq⟩
    · exact .inl (hq.mono (Nat.le_refl _) hmono)
    · rcases List.mem_cons.1 hq with rfl | hq
      · exact .inl hp
      · exact .inr (.inl ⟨rfl, hq⟩)
    · exact .inr (.inr ⟨e, List.mem_append_left _ hq⟩)
  refine ⟨fun k hkk => ?_, fun k => ?_, hpend _ _ h.start, fun he => ⟨fun q hq => (h.down he).1 q (List.mem_cons_of_mem _ hq), fun q hq => ?_⟩⟩
  · by_cases e : k = ((resolveL xs p.1).1, (resolveL xs p.2).1)
    · refine ⟨p, e.symm, hf, fun z hz => .inr (.inr ⟨?_, List.mem_append_right _ hz⟩)⟩
      rw [e, hpk]; omega
    · have e1 : setK K ((resolveL xs p.1).1, (resolveL xs p.2).1) left k = K k := by unfold setK; rw [if_neg e]
      rw [e1] at hkk ⊢
      obtain ⟨q, f1, f2, f3⟩ := h.made k hkk
      exact ⟨q, f1, f2, fun z hz => hpend _ _ (f3 z hz)⟩
  · unfold setK
    split
    · exact .inr (Nat.le_refl _)
    · exact h.far k
  · rcases List.mem_append.1 hq with hq | hq
    · exact (h.down he).2 q hq
    · have := (h.down he).1 p (by simp)
      obtain ⟨l, rfl⟩ : ∃ l, left = l + 1 := ⟨left - 1, by omega⟩
      exact (eqD_face.1 this).2 q hq
theorem EqI.level (h : EqI xs D s K (left + 1) [] behind) : EqI xs D s K left behind [] := by
  have hpend : ∀ l q, PendE (left + 1) [] behind l q → PendE left behind [] l q := fun l q hq => by
    rcases hq with ⟨_, hq⟩ | ⟨e, hq⟩
    · cases hq
    · exact .inl ⟨by omega, hq⟩
  refine ⟨fun k hk => ?_, fun k => (h.far k).imp id (by omega), h.start.imp id (hpend _ _), fun he => ⟨(h.down he).2, fun q hq => by cases hq⟩⟩
  obtain ⟨q, e1, e2, e3⟩ := h.made k hk
  exact ⟨q, e1, e2, fun z hz => (e3 z hz).imp id (hpend _ _)⟩
end
/-- Parts of one face, seen from other offsets. -/
theorem kids_shift {l : Nat} {p q : Ed × Ed} (h1 : (resolveL xs p.1).1 = (resolveL xs q.1).1) (h2 : (resolveL xs p.2).1 = (resolveL xs q.2).1) (hp : faceL xs (resolveL xs p.1) = faceL xs (resolveL xs p.2)) (hq : faceL xs (resolveL xs q.1) = faceL xs (resolveL xs q.2))
    (h : ∀ z ∈ kidsE xs q, eqD xs l z.1 z.2 = true) : ∀ z ∈ kidsE xs p, eqD xs l z.1 z.2 = true := by
  obtain ⟨⟨p0, o0⟩, hp0⟩ : ∃ t, resolveL xs p.1 = t := ⟨_, rfl⟩
  obtain ⟨⟨p1, o1⟩, hp1⟩ : ∃ t, resolveL xs p.2 = t := ⟨_, rfl⟩
  obtain ⟨⟨q0, r0⟩, hq0⟩ : ∃ t, resolveL xs q.1 = t := ⟨_, rfl⟩
  obtain ⟨⟨q1, r1⟩, hq1⟩ : ∃ t, resolveL xs q.2 = t := ⟨_, rfl⟩
  unfold kidsE at h ⊢
  rw [hp0, hp1] at hp
  rw [hq0, hq1] at hq h
  rw [hp0, hq0] at h1
  rw [hp1, hq1] at h2
  rw [hp0, hp1]
  dsimp only at h1 h2
  subst h1 h2
  unfold faceL at hp hq
  unfold partsL at h ⊢
  dsimp only at hp hq h ⊢
  cases hx : nodeAt xs p0 with
  | none => simp
  | some x =>
    cases hy : nodeAt xs p1 with
    | none => simp
    | some y =>
      rw [hx, hy] at hp hq h
      dsimp only at hp hq h ⊢
      cases ha : actsK x.kind with
      | false => simp
      | true =>
        cases hb : actsK y.kind with
        | false => simp
        | true =>
          rw [ha, hb] at hp hq h
          simp only [if_true, Fc.mk.injEq, true_and] at hp hq h ⊢
          have e0 : ∀ e, stepT (p0, o0) e = upT (o0 - r0) (stepT (p0, r0) e) := fun e => by
            unfold stepT upT
            dsimp only
            rw [wr_add, show r0 + e.2 + (o0 - r0) = o0 + e.2 by omega]
          have e1 : ∀ e, stepT (p1, o1) e = upT (o0 - r0) (stepT (p1, r1) e) := fun e => by
            unfold stepT upT
            dsimp only
            rw [wr_add]
            have a1 := hp.2.1
            have a2 := hq.2.1
            refine Prod.ext rfl ?_
            show wrap64 (o1 + e.2) = wrap64 (r1 + e.2 + (o0 - r0))
            unfold wrap64 at a1 a2 ⊢
            omega
          rw [show (payL x ++ x.next).map (stepT (p0, o0)) = ((payL x ++ x.next).map (stepT (p0, r0))).map (upT (o0 - r0)) by rw [List.map_map]; exact List.map_congr_left fun e _ => e0 e,
            show (payL y ++ y.next).map (stepT (p1, o1)) = ((payL y ++ y.next).map (stepT (p1, r1))).map (upT (o0 - r0)) by rw [List.map_map]; exact List.map_congr_left fun e _ => e1 e,
            List.zip_map]
          intro z hz
          obtain ⟨u, hu, rfl⟩ := List.mem_map.1 hz
          rw [Prod.map_fst, Prod.map_snd, eqD_up]
          exact h u hu
/-- What is good is equal. -/
theorem good_eq {K : Int × Int → Nat} (hK : ∀ k, 0 < K k → ∃ q : Ed × Ed, ((resolveL xs q.1).1, (resolveL xs q.2).1) = k ∧ faceL xs (resolveL xs q.1) = faceL xs (resolveL xs q.2) ∧ ∀ z ∈ kidsE xs q, GoodE xs K (K k - 1) z) :
    ∀ (l : Nat) (p : Ed × Ed), GoodE xs K l p → eqD xs l p.1 p.2 = true
  | 0, _, _ => rfl
  | l + 1, p, h => by
    rcases h with h | h | ⟨hf, hl⟩
    · cases h
    · have := eqD_refl (xs := xs) (l + 1) p.1
      rw [eqD_face] at this ⊢
      rw [← h]; exact this
    · obtain ⟨q, e1, e2, e3⟩ := hK _ (Nat.lt_of_lt_of_le (Nat.succ_pos l) hl)
      simp only [Prod.mk.injEq] at e1
      rw [eqD_face]
      refine ⟨hf, kids_shift e1.1.symm e1.2.symm hf e2 fun z hz => good_eq hK l z ((e3 z hz).mono (by omega) (fun _ => Nat.le_refl _))⟩
theorem EqI.done {D : Nat} {s : Ed × Ed} {K : Int × Int → Nat} {rest : List (Ed × Ed)} (h : EqI xs D s K 0 rest []) : eqD xs D s.1 s.2 = true := by
  have hp : ∀ l q, GoodE xs K l q ∨ PendE 0 rest [] l q → GoodE xs K l q := fun l q hq => by
    rcases hq with hq | ⟨e, _⟩ | ⟨e, _⟩
    · exact hq
    · exact .inl e
    · cases e
  refine good_eq (fun k hk => ?_) D s (hp _ _ h.start)
  obtain ⟨q, e1, e2, e3⟩ := h.made k hk
  exact ⟨q, e1, e2, fun z hz => hp _ _ (e3 z hz)⟩
end
end Go.Proofs.YtoklaajiajilhaaDoor

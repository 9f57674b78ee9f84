/- Texts joined for the claim's sake: GPig, URef, URfL, USto, ULst, ChW, URfO. -/
import Derived.Test.YtoklaajiajilhaaDoorGRefC
import Derived.Test.YtoklaajiajilhaaDoorUFit
import Derived.Test.YtoklaajiajilhaaDoorUCon
import Derived.Test.YtoklaajiajilhaaDoorUOps
import Derived.Test.YtoklaajiajilhaaDoorRws
import Derived.Lib.Hide
import Derived.LoopTactic
import Derived.Deep.DeepMust
import Derived.Shelf.RegionOpen
import Derived.Deep.CutBlock
import Derived.Deep.CutRange
import Derived.Deep.QuietTactic
import Derived.BigQuiet
import Derived.Test.YtoklaajiajilhaaDoorVFn
import Derived.Test.YtoklaajiajilhaaDoorOvt
import Derived.Test.YtoklaajiajilhaaDoorChain
import Derived.Test.YtoklaajiajilhaaDoorVOps
/- A way that comes to a type does so in no more steps than there are nodes. No program. -/
namespace Go.Proofs.YtoklaajiajilhaaDoor
open Go.RowKit

def ends (xs : List Nd) : Nat → Int → Bool
  | 0, _ => false
  | f + 1, i => match nodeAt xs i with
    | none => false
    | some x => if x.kind = 5 then (match onlyNext x with | none => false | some e => ends xs f e.1) else true
theorem ends_none {xs : List Nd} {f : Nat} {i : Int} (h : nodeAt xs i = none) : ends xs (f + 1) i = false := by simp only [ends, h]
theorem ends_here {xs : List Nd} {f : Nat} {i : Int} {x : Nd} (h : nodeAt xs i = some x) (hk : x.kind ≠ 5) : ends xs (f + 1) i = true := by simp only [ends, h, hk, if_false]
theorem ends_stop {xs : List Nd} {f : Nat} {i : Int} {x : Nd} (h : nodeAt xs i = some x) (hk : x.kind = 5) (ho : onlyNext x = none) : ends xs (f + 1) i = false := by simp only [ends, h, hk, if_true, ho]
theorem ends_next {xs : List Nd} {f : Nat} {i : Int} {x : Nd} {e : Ed} (h : nodeAt xs i = some x) (hk : x.kind = 5) (ho : onlyNext x = some e) : ends xs (f + 1) i = ends xs f e.1 := by simp only [ends, h, hk, if_true, ho]
theorem ends_mono {xs : List Nd} : ∀ {f : Nat} {i : Int}, ends xs f i = true → ends xs (f + 1) i = true
  | 0, _, h => by simp [ends] at h
  | f + 1, i, h => by
    rcases node_cases xs i with h0 | ⟨x, h0, hk⟩ | ⟨x, h0, hk, ho⟩ | ⟨x, e, h0, hk, ho⟩
    · rw [ends_none h0] at h; cases h
    · exact ends_here h0 hk
    · rw [ends_stop h0 hk ho] at h; cases h
    · rw [ends_next h0 hk ho] at h ⊢; exact ends_mono h
theorem pick_false {xs : List Nd} : ∀ {f : Nat} {t : Ed}, ends xs f t.1 = false → pickL xs (wayL xs f t) = (-1, 0)
  | 0, _, _ => rfl
  | f + 1, t, h => by
    rcases node_cases xs t.1 with h0 | ⟨x, h0, hk⟩ | ⟨x, h0, hk, ho⟩ | ⟨x, e, h0, hk, ho⟩
    · exact pick_none h0
    · rw [ends_here h0 hk] at h; cases h
    · exact pick_stop h0 hk ho
    · rw [ends_next h0 hk ho] at h
      rw [pick_next h0 ho]
      exact pick_false h
theorem pick_true {xs : List Nd} : ∀ {f : Nat} {t : Ed}, ends xs f t.1 = true → pickL xs (wayL xs (f + 1) t) = pickL xs (wayL xs f t)
  | 0, _, h => by simp [ends] at h
  | f + 1, t, h => by
    rcases node_cases xs t.1 with h0 | ⟨x, h0, hk⟩ | ⟨x, h0, hk, ho⟩ | ⟨x, e, h0, hk, ho⟩
    · rw [ends_none h0] at h; cases h
    · rw [pick_here h0 hk, pick_here h0 hk]
    · rw [ends_stop h0 hk ho] at h; cases h
    · rw [ends_next h0 hk ho] at h
      rw [pick_next h0 ho, pick_next h0 ho]
      exact pick_true h
theorem ends_stable {xs : List Nd} {f : Nat} (h : ∀ i, ends xs (f + 1) i = ends xs f i) : ∀ i, ends xs (f + 2) i = ends xs (f + 1) i := fun i => by
  rcases node_cases xs i with h0 | ⟨x, h0, hk⟩ | ⟨x, h0, hk, ho⟩ | ⟨x, e, h0, hk, ho⟩
  · rw [ends_none h0, ends_none h0]
  · rw [ends_here h0 hk, ends_here h0 hk]
  · rw [ends_stop h0 hk ho, ends_stop h0 hk ho]
  · rw [ends_next h0 hk ho, ends_next h0 hk ho]; exact h _
theorem ends_range {xs : List Nd} {f : Nat} {i : Int} (h : ends xs f i = true) : 0 ≤ i ∧ i < xs.length := by
  cases f with
  | zero => simp [ends] at h
  | succ f =>
    cases h0 : nodeAt xs i with
    | none => rw [ends_none h0] at h; cases h
    | some x => have := nodeAt_some h0; exact ⟨this.1, this.2.1⟩
theorem countP_le_of {p q : Nat → Bool} : ∀ (l : List Nat), (∀ i, p i = true → q i = true) → l.countP p ≤ l.countP q
  | [], _ => by simp
  | a :: l, h => by
    have := countP_le_of l h
    rw [List.countP_cons, List.countP_cons]
    by_cases hp : p a = true
    · rw [if_pos hp, if_pos (h a hp)]; omega
    · rw [if_neg hp]; split <;> omega
theorem countP_lt_of {p q : Nat → Bool} : ∀ (l : List Nat), (∀ i, p i = true → q i = true) → ∀ j ∈ l, p j = false → q j = true → l.countP p < l.countP q
  | [], _, j, hj, _, _ => by cases hj
  | a :: l, h, j, hj, hp, hq => by
    rw [List.countP_cons, List.countP_cons]
    rcases List.mem_cons.1 hj with rfl | hj
    · have := countP_le_of l h
      rw [hp, hq]
      simp
      omega
    · have := countP_lt_of l h j hj hp hq
      by_cases hp : p a = true
      · rw [if_pos hp, if_pos (h a hp)]; omega
      · rw [if_neg hp]; split <;> omega
def cnt (xs : List Nd) (f : Nat) : Nat := (List.range xs.length).countP fun (i : Nat) => ends xs f (i : Int)
theorem cnt_le (xs : List Nd) (f : Nat) : cnt xs f ≤ xs.length := by
  unfold cnt
  have := List.countP_le_length (p := fun (i : Nat) => ends xs f (i : Int)) (l := List.range xs.length)
  simpa using this
theorem cnt_lt {xs : List Nd} {f : Nat} (h : ¬ ∀ i, ends xs (f + 1) i = ends xs f i) : cnt xs f < cnt xs (f + 1) := by
  obtain ⟨i, hi⟩ := Classical.not_forall.1 h
  have h1 : ends xs f i = false := by
    cases h0 : ends xs f i with
    | false => rfl
    | true => exact absurd ((ends_mono h0).trans h0.symm) hi
  have h2 : ends xs (f + 1) i = true := by
    cases h0 : ends xs (f + 1) i with
    | true => rfl
    | false => exact absurd (h0.trans h1.symm) hi
  have hr := ends_range h2
  obtain ⟨j, rfl⟩ : ∃ j : Nat, i = j := ⟨i.toNat, by omega⟩
  exact countP_lt_of (p := fun (i : Nat) => ends xs f (i : Int)) (q := fun (i : Nat) => ends xs (f + 1) (i : Int)) (List.range xs.length) (fun i hi => ends_mono hi) j (List.mem_range.2 (by omega)) h1 h2
theorem ends_all (xs : List Nd) : ∀ i, ends xs (xs.length + 1) i = ends xs xs.length i := by
  apply Classical.byContradiction
  intro h
  have key : ∀ f, f ≤ xs.length → ¬ ∀ i, ends xs (f + 1) i = ends xs f i := fun f hf hs => by
    have : ∀ k, ∀ i, ends xs (f + k + 1) i = ends xs (f + k) i := fun k => by
      induction k with
      | zero => exact hs
      | succ k ih => exact ends_stable ih
    have h2 := this (xs.length - f)
    rw [show f + (xs.length - f) = xs.length by omega] at h2
    exact h h2
  have count : ∀ f, f ≤ xs.length + 1 → f ≤ cnt xs f := fun f => by
    induction f with
    | zero => intro _; omega
    | succ f ih =>
      intro hf
      have h1 := ih (by omega)
      have h2 := cnt_lt (key f (by omega))
      omega
  have h1 := count (xs.length + 1) (Nat.le_refl _)
  have h2 := cnt_le xs (xs.length + 1)
  omega
/-- One step more than there are nodes finds nothing more. -/
theorem pick_more (xs : List Nd) (t : Ed) : pickL xs (wayL xs (xs.length + 1) t) = resolveL xs t := by
  unfold resolveL
  cases h : ends xs xs.length t.1 with
  | true => exact pick_true h
  | false => rw [pick_false h, pick_false ((ends_all xs t.1).trans h)]
/-- .. nor do more steps still. -/
theorem ends_more {xs : List Nd} : ∀ (k : Nat) (i : Int), ends xs (xs.length + k) i = ends xs xs.length i
  | 0, _ => rfl
  | k + 1, i => by
    have : ∀ k, ∀ i, ends xs (xs.length + k + 1) i = ends xs (xs.length + k) i := fun k => by
      induction k with
      | zero => exact ends_all xs
      | succ k ih => exact ends_stable ih
    exact (this k i).trans (ends_more k i)
end Go.Proofs.YtoklaajiajilhaaDoor

/- The document's own answer of stage 8: acts, fits. -/
namespace Go.Proofs.YtoklaajiajilhaaDoor
open Go.RowKit

theorem acts_any (k : Int) (w : World) : Calls Tryd.prog 25 #[.int .i64 k] w fun e w' => e = .returned (.bool (actsK k)) ∧ w.grownBy w' none := by
  by_cases h1 : 1 ≤ k
  · by_cases h4 : k ≤ 4
    · have hb : actsK k = true := by unfold actsK; rw [decide_eq_true h1, decide_eq_true h4]; rfl
      have HB := Lib.hid hb
      clear hb
      go_enter Tryd.func25, Tryd.ntmps25
      go_wp2_with fail
      go_ret
      exact ⟨by rw [HB.out]; rfl, only_refl _ _⟩
    · have hb : actsK k = false := by unfold actsK; rw [decide_eq_false h4, Bool.and_false]
      have HB := Lib.hid hb
      have h4' : 4 < k := by omega
      clear hb h4
      go_enter Tryd.func25, Tryd.ntmps25
      go_wp2_with fail
      go_ret
      exact ⟨by rw [HB.out, ← decide_eq_false (p := k ≤ 4) (by omega)]; rfl, only_refl _ _⟩
  · have hb : actsK k = false := by unfold actsK; rw [decide_eq_false h1, Bool.false_and]
    have HB := Lib.hid hb
    have h1' : k < 1 := by omega
    clear hb h1
    go_enter Tryd.func25, Tryd.ntmps25
    go_wp2_with fail
    go_ret
    exact ⟨by rw [HB.out]; first | rfl | (rw [← decide_eq_false (p := 1 ≤ k) (by omega)]; rfl), only_refl _ _⟩
/-- What is known of each two nodes, in memory. -/
def KnB (W : World) (g : Nat) (K : Nat → Nat → Bool) : Prop := ∀ i j, i < 128 → j < 128 → W.cell? ⟨g, i * 128 + j, none⟩ = some (.bool (K i j))
theorem KnB.keep {W W' : World} {g : Nat} {K : Nat → Nat → Bool} (h : KnB W g K) (hk : Keeps W W') : KnB W' g K := fun i j hi hj => hk _ _ (h i j hi hj)
theorem rresU {xs : List Nd} {v : Value} {t p : Ed} {w : World} (hp : resolveL xs t = p) (hT : Tbl w v xs) (hxs : xs.length ≤ 1000000) : Calls Tryd.prog 27 #[v, edV t] w fun e w' => e = .returned (edV p) ∧ w.grownBy w' none := by
  have := refResolve_any xs v t w hT hxs
  rw [pick_more, hp] at this
  exact this
/-- Where two types come to, in boxes; the nodes there, in boxes. -/
structure FtW (w : World) (v : Value) (xs : List Nd) (g : Nat) (K : Nat → Nat → Bool) (Ba Bb : Nat) (p q : Ed) (W : World) : Prop where
  gr : w.grownBy W none
  tb : Tbl W v xs
  kn : KnB W g K
  ba : Blk W Ba 24 (edCells p)
  bb : Blk W Bb 24 (edCells q)
theorem FtW.kept {w : World} {v : Value} {xs : List Nd} {g : Nat} {K : Nat → Nat → Bool} {Ba Bb : Nat} {p q : Ed} {W W' : World} (h : FtW w v xs g K Ba Bb p q W) (hg : W.grownBy W' none) : FtW w v xs g K Ba Bb p q W' := ⟨only_trans h.gr hg, h.tb.keep (.grown hg), h.kn.keep (.grown hg), h.ba.kept hg, h.bb.kept hg⟩

theorem fitsA_eq {xs : List Nd} {K : Nat → Nat → Bool} {a b p q : Ed} (hp : resolveL xs a = p) (hq : resolveL xs b = q) : fitsA xs K a b = match nodeAt xs p.1, nodeAt xs q.1 with
    | none, none => true
    | some x, some y => if actsK x.kind && actsK y.kind then decide (wrap64 (x.prio + p.2) = wrap64 (y.prio + q.2)) && K p.1.toNat q.1.toNat else decide (x.kind = y.kind)
    | _, _ => false := by
  unfold fitsA
  rw [hp, hq]
  cases nodeAt xs p.1 <;> cases nodeAt xs q.1 <;> rfl
theorem came_to {xs : List Nd} {t : Ed} {p0 p1 : Int} (hp : resolveL xs t = (p0, p1)) : (nodeAt xs p0 = none ∧ p0 < 0) ∨ ∃ (i : Nat) (x : Nd), p0 = (i : Int) ∧ nodeAt xs ((i : Nat) : Int) = some x ∧ (0 : Int) ≤ ((i : Nat) : Int) := by
  rcases resolve_at xs t with h | ⟨x, h, _⟩
  · rw [hp] at h
    simp only [Prod.mk.injEq] at h
    obtain ⟨rfl, rfl⟩ := h
    exact .inl ⟨rfl, by omega⟩
  · rw [hp] at h
    have h0 := (nodeAt_some h).1
    dsimp only at h0 h
    obtain ⟨i, rfl⟩ : ∃ i : Nat, p0 = (i : Int) := ⟨p0.toNat, by omega⟩
    exact .inr ⟨i, x, rfl, h, h0⟩

set_option maxRecDepth 100000 in
set_option maxHeartbeats 4000000 in
theorem fits_any (xs : List Nd) (A : Option Addr) (c g : Nat) (K : Nat → Nat → Bool) (a b : Ed) (w : World) (hT : Tbl w (.slice A xs.length c) xs) (hl : xs.length ≤ 128) (hK : KnB w g K) :
    Calls Tryd.prog 19 #[.slice A xs.length c, .pointer (some ⟨g, 0, none⟩), edV a, edV b] w fun e w' => e = .returned (.bool (fitsA xs K a b)) ∧ w.grownBy w' none := by
  have HT := Lib.hid hT
  have HKN := Lib.hid hK
  have HL := Lib.hid hl
  obtain ⟨p, hp⟩ : ∃ p, resolveL xs a = p := ⟨_, rfl⟩
  obtain ⟨q, hq⟩ : ∃ q, resolveL xs b = q := ⟨_, rfl⟩
  have HP := Lib.hid hp
  have HQ := Lib.hid hq
  obtain ⟨a0, a1⟩ := a
  obtain ⟨b0, b1⟩ := b
  obtain ⟨n, hn⟩ : ∃ n, xs.length = n := ⟨_, rfl⟩
  have HN := Lib.hid hn
  rw [hn] at HT ⊢
  clear hT hK hl hp hq hn
  go_enter Tryd.func19, Tryd.ntmps19
  go_upto_region 1 with fail
  generalize hW1 : World.alloc (World.alloc w _) _ = W1
  have hA : Blk W1 w.heap.size 24 (edCells (a0, a1)) := by rw [← hW1]; exact (Blk.new _ _ _).alloc _
  have hB : Blk W1 (w.heap.size + 1) 24 (edCells (b0, b1)) := by rw [← hW1]; exact blk_at (by simp) _ _
  have hg1 : w.grownBy W1 none := by rw [← hW1]; exact only_alloc (only_alloc (only_refl _ _) _) _
  have HF : Hid (FtW w (.slice A n c) xs g K w.heap.size (w.heap.size + 1) (a0, a1) (b0, b1) W1) := Lib.hid ⟨hg1, HT.out.keep (.grown hg1), HKN.out.keep (.grown hg1), hA, hB⟩
  revert HF
  clear hA hB hg1 hW1
  generalize w.heap.size + 1 = B1
  generalize w.heap.size = B0
  intro HF
  go_cut [9, 10] from 13 to 18 (fun u v wx => BoxesB W1 24 (edCells p) (edCells q) u v wx)
  case first =>
    refine region_two (by kernel_rfl) (by kernel_rfl) [13, 14, 15, 16, 17, 18, 9, 10] (by kernel_rfl) (by kernel_rfl) (by decide)
      [(0, .slice A n c), (6, .pointer (some ⟨B0, 0, none⟩)), (7, .pointer (some ⟨B1, 0, none⟩)), (13, .slice A n c), (14, edV (a0, a1)), (15, edV p), (16, .slice A n c), (17, edV (b0, b1)), (18, edV q)]
      ⟨9, 24, edCells (0, 0), edCells p, 15, 6, 8⟩ ⟨10, 24, edCells (0, 0), edCells q, 18, 7, 9⟩
      ?h0 (boxed_type _ _ _ _ _) (boxed_type _ _ _ _ _) rfl rfl rfl rfl (by dsimp only; decide) (by kernel_rfl) (by kernel_rfl) (by kernel_rfl) (by kernel_rfl) ?hops ?hQ
    case h0 =>
      intro p hp hn
      simp only [List.mem_cons, List.not_mem_nil, or_false] at hp
      rcases hp with rfl | rfl | rfl | rfl | rfl | rfl | rfl | rfl | rfl
      all_goals first | rfl | exact absurd (by dsimp only; decide) hn
    case hops =>
      exact ⟨.val 13 _ rfl rfl rfl (ov_move rfl rfl), .val 14 _ rfl rfl rfl (ov_load_type rfl rfl HF.out.ba), .val 15 _ rfl rfl rfl (ov_call2 rfl rfl rfl (fun W => by kernel_rfl) (fun W hg => rresU HP.out (HF.out.tb.keep (.grown hg)) (by have := HL.out; omega))),
        .val 16 _ rfl rfl rfl (ov_move rfl rfl), .val 17 _ rfl rfl rfl (ov_load_type rfl rfl HF.out.bb), .val 18 _ rfl rfl rfl (ov_call2 rfl rfl rfl (fun W => by kernel_rfl) (fun W hg => rresU HQ.out (HF.out.tb.keep (.grown hg)) (by have := HL.out; omega))),
        .al1 rfl rfl rfl, .al2 rfl rfl rfl, .st1 rfl rfl rfl, .st2 rfl rfl rfl, trivial⟩
    case hQ =>
      intro vs W Cx Cy hg e1 e2 hne h1 h2 k1 k2
      have HZ : Hid (BoxesB W1 24 (edCells p) (edCells q) (vs 9) (vs 10) W) := Lib.hid ⟨Cx, Cy, e1, e2, hne, k1, k2, hg⟩
      clear hg e1 e2 hne h1 h2 k1 k2
      simp only [List.foldl_cons, List.foldl_nil, List.setIfInBounds_toArray, List.set_cons_zero, List.set_cons_succ]
      go_wp2_with fail
      go_meet
      exact HZ.out
  case rest =>
    obtain ⟨Ba, Bb, rfl, rfl, _, kx, ky, hg2⟩ := hcut
    generalize wc = W2 at *
    have HF2 : Hid (FtW w (.slice A n c) xs g K Ba Bb p q W2) := Lib.hid ⟨only_trans HF.out.gr hg2, HF.out.tb.keep (.grown hg2), HF.out.kn.keep (.grown hg2), kx, ky⟩
    clear kx ky hg2 HF
    obtain ⟨p0, p1⟩ := p
    obtain ⟨q0, q1⟩ := q
    have x0 := HF2.out.ba.cell 0
    have x1 := HF2.out.ba.cell 1
    have y0 := HF2.out.bb.cell 0
    have y1 := HF2.out.bb.cell 1
    have HV := Lib.hid (fitsA_eq (K := K) HP.out HQ.out)
    rcases came_to HP.out with ⟨hpn, hp1⟩ | ⟨i, x, rfl, hx, hi0⟩
    · have HPN := Lib.hid hpn
      clear hpn
      rcases came_to HQ.out with ⟨hqn, hq1⟩ | ⟨j, y, rfl, hy, hj0⟩
      · have HQN := Lib.hid hqn
        clear hqn
        go_wp2_with fail
        go_ret
        exact ⟨by rw [HV.out, HPN.out, HQN.out]; rfl, HF2.out.gr⟩
      · have HY := Lib.hid hy
        clear hy
        go_wp2_with fail
        go_ret
        exact ⟨by rw [HV.out, HPN.out, HY.out]; rfl, HF2.out.gr⟩
    · have HX := Lib.hid hx
      clear hx
      rcases came_to HQ.out with ⟨hqn, hq1⟩ | ⟨j, y, rfl, hy, hj0⟩
      · have HQN := Lib.hid hqn
        clear hqn
        go_wp2_with fail
        go_ret
        exact ⟨by rw [HV.out, HX.out, HQN.out]; rfl, HF2.out.gr⟩
      · have HY := Lib.hid hy
        clear hy
        have hil : i < n := by rw [← HN.out]; have := (nodeAt_some HX.out).2.1; omega
        have hjl : j < n := by rw [← HN.out]; have := (nodeAt_some HY.out).2.1; omega
        have hxs : xs[i]? = some x := (nodeAt_nat (i := i)).symm.trans HX.out
        have hys : xs[j]? = some y := (nodeAt_nat (i := j)).symm.trans HY.out
        obtain ⟨A', c', hA', hcl⟩ := HF2.out.tb
        rw [HN.out] at hA'
        obtain ⟨bw, ow, hAw, hcl1⟩ := hcl (by intro e; rw [e] at hxs; simp at hxs)
        simp only [Value.slice.injEq, true_and] at hA'
        obtain ⟨rfl, rfl⟩ := hA'
        subst hAw
        obtain ⟨vx, hEx, n0, n1, n2, n3, n4, n5⟩ := hcl1 i x hxs
        obtain ⟨vy, hEy, m0, m1, m2, m3, m4, m5⟩ := hcl1 j y hys
        obtain ⟨Ax, cx, rfl, _⟩ := hEx
        obtain ⟨Ay, cy, rfl, _⟩ := hEy
        clear hcl hcl1 hxs hys
        have hv2 : fitsA xs K (a0, a1) (b0, b1) = if actsK x.kind && actsK y.kind then decide (wrap64 (x.prio + p1) = wrap64 (y.prio + q1)) && K i j else decide (x.kind = y.kind) := by
          rw [HV.out, HX.out, HY.out]; rfl
        have HV2 := Lib.hid hv2
        clear hv2
        go_upto_region 4 with fail
        go_cut [11, 12] from 35 to 44 (fun u v wx => BoxesB W2 39 (ndCells x (.slice Ax x.next.length cx)) (ndCells y (.slice Ay y.next.length cy)) u v wx)
        case first =>
          refine region_two (by kernel_rfl) (by kernel_rfl) [35, 36, 37, 38, 39, 40, 41, 42, 43, 44, 11, 12] (by kernel_rfl) (by kernel_rfl) (by decide)
            [(0, .slice (some ⟨bw, ow, none⟩) n c), (9, .pointer (some ⟨Ba, 0, none⟩)), (10, .pointer (some ⟨Bb, 0, none⟩)), (35, .slice (some ⟨bw, ow, none⟩) n c), (36, .pointer (some ⟨Ba, 0, none⟩)), (37, .int .i64 (i : Int)), (38, .pointer (some ⟨bw, ow + i * 6, none⟩)), (39, ndV x (.slice Ax x.next.length cx)),
             (40, .slice (some ⟨bw, ow, none⟩) n c), (41, .pointer (some ⟨Bb, 0, none⟩)), (42, .int .i64 (j : Int)), (43, .pointer (some ⟨bw, ow + j * 6, none⟩)), (44, ndV y (.slice Ay y.next.length cy))]
            ⟨11, 39, ndCells ⟨0, 0, false, (0, 0), []⟩ (.slice none 0 0), ndCells x (.slice Ax x.next.length cx), 39, 10, 12⟩ ⟨12, 39, ndCells ⟨0, 0, false, (0, 0), []⟩ (.slice none 0 0), ndCells y (.slice Ay y.next.length cy), 44, 11, 13⟩
            ?h0 (boxed_node _ _ _ _ _ _ _ _) (boxed_node _ _ _ _ _ _ _ _) rfl rfl rfl rfl (by dsimp only; decide) (by kernel_rfl) (by kernel_rfl) (by kernel_rfl) (by kernel_rfl) ?hops ?hQ
          case h0 =>
            intro p hp hn
            simp only [List.mem_cons, List.not_mem_nil, or_false] at hp
            rcases hp with rfl | rfl | rfl | rfl | rfl | rfl | rfl | rfl | rfl | rfl | rfl | rfl | rfl
            all_goals first | rfl | exact absurd (by dsimp only; decide) hn
          case hops =>
            exact ⟨.val 35 _ rfl rfl rfl (ov_move rfl rfl), .val 36 _ rfl rfl rfl (ov_field0 rfl rfl), .val 37 _ rfl rfl rfl (ov_load_int rfl rfl x0), .val 38 _ rfl rfl rfl (ov_index rfl rfl rfl hil), .val 39 _ rfl rfl rfl (ov_load_node rfl rfl n0 n1 n2 n3 n4 n5),
              .val 40 _ rfl rfl rfl (ov_move rfl rfl), .val 41 _ rfl rfl rfl (ov_field0 rfl rfl), .val 42 _ rfl rfl rfl (ov_load_int rfl rfl y0), .val 43 _ rfl rfl rfl (ov_index rfl rfl rfl hjl), .val 44 _ rfl rfl rfl (ov_load_node rfl rfl m0 m1 m2 m3 m4 m5),
              .al1 rfl rfl rfl, .al2 rfl rfl rfl, .st1 rfl rfl rfl, .st2 rfl rfl rfl, trivial⟩
          case hQ =>
            intro vs W Cx Cy hg e1 e2 hne h1 h2 k1 k2
            have HZ : Hid (BoxesB W2 39 (ndCells x (.slice Ax x.next.length cx)) (ndCells y (.slice Ay y.next.length cy)) (vs 11) (vs 12) W) := Lib.hid ⟨Cx, Cy, e1, e2, hne, k1, k2, hg⟩
            clear hg e1 e2 hne h1 h2 k1 k2
            simp only [List.foldl_cons, List.foldl_nil, List.setIfInBounds_toArray, List.set_cons_zero, List.set_cons_succ]
            go_wp2_with fail
            go_meet
            exact HZ.out
        case rest =>
          obtain ⟨Bx, By, rfl, rfl, _, kx, ky, hg3⟩ := hcut
          generalize wc = W3 at *
          have HF3 := Lib.hid (HF2.out.kept hg3)
          have HKX := Lib.hid kx
          have HKY := Lib.hid ky
          clear kx ky hg3 HF2 n0 n1 n2 n3 n4 n5 m0 m1 m2 m3 m4 m5 x0 x1 y0 y1
          go_upto_region 5 with fail
          have k0 := HKX.out.cell 0
          have k1 := HKX.out.cell 1
          have l0 := HKY.out.cell 0
          have l1 := HKY.out.cell 1
          have s : W3.grownBy W3 none := only_refl _ _
          by_cases hac : actsK x.kind = true ∧ actsK y.kind = true
          · obtain ⟨hax, hay⟩ := hac
            have HV3 : Hid (fitsA xs K (a0, a1) (b0, b1) = (decide (wrap64 (x.prio + p1) = wrap64 (y.prio + q1)) && K i j)) := Lib.hid (by rw [HV2.out, hax, hay]; rfl)
            go_upto_region 7 with (first
              | (go_at_call 25; ((refine (acts_any _ _).mono ?_); rintro e V ⟨rfl, hg⟩; replace s := only_trans s hg; clear hg k0 k1 l0 l1; have k0 := (HKX.out.kept s).cell 0; have k1 := (HKX.out.kept s).cell 1; have l0 := (HKY.out.kept s).cell 0; have l1 := (HKY.out.kept s).cell 1))
              | fail)
            have HF4 := Lib.hid (HF3.out.kept s)
            have x0 := HF4.out.ba.cell 0
            have x1 := HF4.out.ba.cell 1
            have y0 := HF4.out.bb.cell 0
            have y1 := HF4.out.bb.cell 1
            have hkc := HF4.out.kn i j (by have := HL.out; have := HN.out; omega) (by have := HL.out; have := HN.out; omega)
            have hi1 : (i : Int) < 128 := by have := HL.out; have := HN.out; omega
            have hj1 : (j : Int) < 128 := by have := HL.out; have := HN.out; omega
            have hwa : IntKind.i64.wrap (x.prio + p1) = wrap64 (x.prio + p1) := by unfold wrap64; exact IntKind.wrap_i64 _
            have hwb : IntKind.i64.wrap (y.prio + q1) = wrap64 (y.prio + q1) := by unfold wrap64; exact IntKind.wrap_i64 _
            revert HV3 hwa hwb
            generalize wrap64 (x.prio + p1) = R1
            generalize wrap64 (y.prio + q1) = R2
            intro HV3 hwa hwb
            by_cases he : R1 = R2
            · have hb : (R1 == R2) = true := by simp [he]
              have HV4 : Hid (fitsA xs K (a0, a1) (b0, b1) = K i j) := Lib.hid (by rw [HV3.out, decide_eq_true he, Bool.true_and])
              clear he
              go_quiet (fail)
              all_goals go_wp2_with fail
              all_goals go_ret
              all_goals exact ⟨by rw [HV4.out]; rfl, only_drewN (only_trans HF3.out.gr s) _⟩
            · have hb : (R1 == R2) = false := by simp [he]
              have HV4 : Hid (fitsA xs K (a0, a1) (b0, b1) = false) := Lib.hid (by rw [HV3.out, decide_eq_false he, Bool.false_and])
              clear he
              go_quiet (fail)
              all_goals go_wp2_with fail
              all_goals go_ret
              all_goals exact ⟨by rw [HV4.out]; rfl, only_drewN (only_trans HF3.out.gr s) _⟩
          · have HV3 : Hid (fitsA xs K (a0, a1) (b0, b1) = decide (x.kind = y.kind)) := Lib.hid (by
              rw [HV2.out, if_neg]
              rw [Bool.and_eq_true]
              exact hac)
            cases hax : actsK x.kind with
            | false =>
              go_wp2_with (first
                | (go_at_call 25; ((refine (acts_any _ _).mono ?_); rintro e V ⟨rfl, hg⟩; replace s := only_trans s hg; clear hg k0 k1 l0 l1; have k0 := (HKX.out.kept s).cell 0; have k1 := (HKX.out.kept s).cell 1; have l0 := (HKY.out.kept s).cell 0; have l1 := (HKY.out.kept s).cell 1))
                | fail)
              go_ret
              exact ⟨by rw [HV3.out]; simp; rfl, only_trans HF3.out.gr s⟩
            | true =>
              have hay : actsK y.kind = false := by cases h : actsK y.kind with
                | false => rfl
                | true => exact absurd ⟨hax, h⟩ hac
              go_wp2_with (first
                | (go_at_call 25; ((refine (acts_any _ _).mono ?_); rintro e V ⟨rfl, hg⟩; replace s := only_trans s hg; clear hg k0 k1 l0 l1; have k0 := (HKX.out.kept s).cell 0; have k1 := (HKX.out.kept s).cell 1; have l0 := (HKY.out.kept s).cell 0; have l1 := (HKY.out.kept s).cell 1))
                | fail)
              go_ret
              exact ⟨by rw [HV3.out]; simp; rfl, only_trans HF3.out.gr s⟩
end Go.Proofs.YtoklaajiajilhaaDoor

/- The document's own answer of stage 8: large, along; what is known, in a block of the call's own. -/
namespace Go.Proofs.YtoklaajiajilhaaDoor
open Go.RowKit

theorem ralong_results {tmps : Array Value} {W : World} {g : Nat} {e : Ed} (hp4 : tmps.getD 4 undef = .pointer (some ⟨g, 0, none⟩)) (hb : Blk W g 24 (edCells e)) :
    (results Tryd.f26 tmps).run Tryd.prog W = .ok (edV e) W := by
  have hp' : tmps[4]?.getD undef = .pointer (some ⟨g, 0, none⟩) := by simpa using hp4
  simp [results, Tryd.results26, hp', asAddr, run_loadVar_row W g _ 24 _ _ _ hb Tryd.underlying24 rfl (by exact type_size)]
theorem ralongU (e : Ed) (o : Int) (w : World) : Calls Tryd.prog 26 #[edV e, .int .i64 o] w fun en w' => en = .returned (edV (e.1, wrap64 (o + e.2))) ∧ w.grownBy w' none := by
  go_enter Tryd.func26, Tryd.ntmps26
  go_wp2_with fail
  refine bodyPost_ret (ralong_results (e := (e.1, wrap64 (o + e.2))) (g := w.heap.size + 1) rfl (blk_at (by simp) _ _)) rfl ?_
  exact ⟨rfl, only_alloc (only_alloc (only_refl _ _) _) _⟩

theorem rlarge_any (xs : List Nd) (v : Value) (w : World) (hT : Tbl w v xs) (hl : xs.length ≤ 1000) :
    Calls Tryd.prog 16 #[v] w fun en w' => en = .returned (.bool (largeB xs)) ∧ w.grownBy w' none := by
  have HT := Lib.hid hT
  have HL := Lib.hid hl
  obtain ⟨A, cap, rfl, hcl⟩ := hT
  have hlI : (xs.length : Int) ≤ 1000 := by omega
  clear hl
  go_enter Tryd.func16, Tryd.ntmps16
  go_wp2_with fail
  go_loopw [3] (fun i wr => ∃ k : Nat, k ≤ xs.length ∧ i = .int .i64 (k : Int) ∧ w.grownBy wr none ∧ (xs.take k).any (fun x => decide (8 < x.next.length)) = false) (fun i _ => xs.length - (intOf i).toNat)
  case atStart => exact ⟨0, Nat.zero_le _, rfl, only_refl _ _, by simp⟩
  case round =>
    obtain ⟨k, hk, rfl, hg, hs⟩ := hrel
    by_cases hlt : k < xs.length
    · obtain ⟨x, hx⟩ : ∃ x, xs[k]? = some x := ⟨_, List.getElem?_eq_getElem hlt⟩
      obtain ⟨b, off, rfl, hcl2⟩ := hcl (by intro e0; rw [e0] at hlt; simp at hlt)
      obtain ⟨vx, hE, n0, n1, n2, n3, n4, n5⟩ := (hcl2 k x hx).keep (.grown hg)
      obtain ⟨A2, c2, rfl, hl2, _⟩ := hE
      have hb := cell_lt n0
      have hk0 : (0 : Int) ≤ (k : Int) := by omega
      have hk1 : (k : Int) < (xs.length : Int) := by omega
      have HS : Hid ((xs.take (k + 1)).any (fun x => decide (8 < x.next.length)) = decide (8 < x.next.length)) := Lib.hid (by rw [List.take_add_one, hx, List.any_append, hs]; simp)
      have HM : Hid (decide (8 < x.next.length) = true → largeB xs = true) := Lib.hid fun h => by unfold largeB; rw [Bool.or_eq_true, List.any_eq_true]; exact .inr ⟨x, List.mem_of_getElem? hx, h⟩
      have HG := Lib.hid hg
      clear hcl2 hcl hg hs hx HT
      go_wp2_with fail
      · go_ret
        refine ⟨?_, HG.out⟩
        have : (8 : Int) < (x.next.length : Int) := (by assumption)
        rw [HM.out (decide_eq_true (by omega))]
        rfl
      · have h8 : ((x.next.length : Nat) : Int) ≤ 8 := (by assumption)
        go_roundw
        case rel => exact ⟨k + 1, by omega, by go_num, HG.out, by rw [HS.out]; exact decide_eq_false (by omega)⟩
        case measure => simp [intOf]; omega
    · have hke : k = xs.length := by omega
      rw [hke, List.take_length] at hs
      have HR : Hid (largeB xs = decide ((128 : Int) < (xs.length : Int))) := Lib.hid (by unfold largeB; rw [hs, Bool.or_false]; exact decide_eq_decide.2 (by omega))
      have HG := Lib.hid hg
      have hge : (xs.length : Int) ≤ (k : Int) := by omega
      clear hcl hg hs hke HT
      go_wp2_with fail
      go_ret
      exact ⟨by rw [HR.out]; rfl, HG.out⟩

/-- What is known, in a block of the call's own. -/
def KnO (W : World) (g : Nat) (K : Nat → Nat → Bool) : Prop := ∃ Cx : Array Value, Blk W g 64 Cx ∧ Cx.size = 16384 ∧ ∀ i j, i < 128 → j < 128 → Cx[i * 128 + j]? = some (.bool (K i j))
theorem KnO.kn {W : World} {g : Nat} {K : Nat → Nat → Bool} (h : KnO W g K) : KnB W g K := by
  obtain ⟨Cx, hb, _, hc⟩ := h
  intro i j hi hj
  rw [hb.cell]
  exact hc i j hi hj
theorem KnO.grown {W W' : World} {g : Nat} {K : Nat → Nat → Bool} {row : Option Nat} (h : KnO W g K) (hg : W.grownBy W' row) (hr : some g ≠ row) : KnO W' g K := by
  obtain ⟨Cx, hb, hs, hc⟩ := h
  exact ⟨Cx, hb.grown hg hr, hs, hc⟩
theorem KnO.kept {W W' : World} {g : Nat} {K : Nat → Nat → Bool} (h : KnO W g K) (hg : W.grownBy W' none) : KnO W' g K := h.grown hg (fun e => by cases e)
/-- One entry is written. -/
def putK (K : Nat → Nat → Bool) (i j : Nat) (b : Bool) : Nat → Nat → Bool := fun i' j' => if i' = i ∧ j' = j then b else K i' j'
theorem KnO.put {W : World} {g : Nat} {K : Nat → Nat → Bool} (h : KnO W g K) {i j : Nat} (hi : i < 128) (hj : j < 128) (b : Bool) : KnO (W.setCell ⟨g, i * 128 + j, none⟩ (.bool b)) g (putK K i j b) := by
  obtain ⟨Cx, hb, hs, hc⟩ := h
  refine ⟨Cx.setIfInBounds (i * 128 + j) (.bool b), hb.set_ _ _, by rw [Array.size_setIfInBounds]; exact hs, fun i' j' hi' hj' => ?_⟩
  unfold putK
  by_cases e : i' = i ∧ j' = j
  · obtain ⟨rfl, rfl⟩ := e
    rw [if_pos ⟨rfl, rfl⟩, Array.getElem?_setIfInBounds_self_of_lt (by omega)]
  · rw [if_neg e, Array.getElem?_setIfInBounds_ne (by intro e2; exact e (by omega))]
    exact hc _ _ hi' hj'
/-- A row of so many false. -/
def allF : List Value → Nat → Bool
  | [], n => n == 0
  | v :: l, n => (match v with | .bool false => true | _ => false) && (Nat.ble 1 n && allF l (n - 1))
theorem allF_eq : ∀ (l : List Value) (n : Nat), allF l n = true → l = List.replicate n (.bool false)
  | [], n, h => by
    obtain rfl : n = 0 := by simpa [allF] using h
    rfl
  | v :: l, n, h => by
    unfold allF at h
    rw [Bool.and_eq_true, Bool.and_eq_true] at h
    obtain ⟨h1, h2, h3⟩ := h
    have hv : v = .bool false := by
      split at h1
      · rfl
      · cases h1
    have hn : 1 ≤ n := Nat.le_of_ble_eq_true h2
    obtain ⟨m, rfl⟩ : ∃ m, n = m + 1 := ⟨n - 1, by omega⟩
    rw [hv, allF_eq l _ h3]
    rfl
noncomputable def zeroC (t : TypeId) : Array Value := match (Tryd.prog.info? t).bind (·.zero) with
  | some v => v.cells
  | none => #[]
theorem known_false : allF (zeroC 64).toList 16384 = true := by kernel_rfl
theorem known_run (W : World) : (zeroValue 64).run Tryd.prog W = .ok (.agg (zeroC 64)) W := by kernel_rfl
/-- Whatever the world, a new one knows nothing. -/
theorem new_known : ∃ Z : Array Value, Z.size = 16384 ∧ (∀ W : World, (zeroValue 64).run Tryd.prog W = .ok (.agg Z) W) ∧ ∀ k, k < 16384 → Z[k]? = some (.bool false) := by
  have h := allF_eq _ _ known_false
  have hz : zeroC 64 = (List.replicate 16384 (.bool false)).toArray := by rw [← h]
  refine ⟨_, ?_, known_run, fun k hk => ?_⟩
  · rw [hz, List.size_toArray, List.length_replicate]
  · rw [hz, List.getElem?_toArray, List.getElem?_replicate, if_pos hk]
theorem known_new (W : World) {Z : Array Value} (hz : Z.size = 16384) (h : ∀ k, k < 16384 → Z[k]? = some (.bool false)) : KnO (W.alloc (.cells Z 64)) W.heap.size fun _ _ => false :=
  ⟨Z, Blk.new _ _ _, hz, fun i j hi hj => h _ (by omega)⟩
end Go.Proofs.YtoklaajiajilhaaDoor

/- A region that draws its order: reads and calls, some of them guarded by values that are known, and at the end one store that asks for them all. No program. -/
namespace Go.Proofs.YtoklaajiajilhaaDoor
open Go.RowKit

def regOkS (m : Nat) (vals : List (Tmp × Value)) (ops : Array Oper) : Bool := (ops.toList.zipIdx.all fun (o, i) => (decide (i = m) || guardOk vals ops o) && (o.after.toList.all fun e => !Region.binds .any e || decide (e.on < i)) && depsG vals ops o) &&
  ((match ops[m]? with
    | some o => o.dst.isNone && o.guard.isNone && (List.range m).all fun i => (List.range (m + 1)).any fun j => decide (i < j) && (match ops[j]? with | some o' => o'.after.toList.any fun e => Region.binds .any e && e.on == i | none => false)
    | none => false) && decide (ops.size = m + 1))
section
variable {vals : List (Tmp × Value)} {ops : Array Oper} {m : Nat}
theorem regOkS_at (h : regOkS m vals ops = true) {i : Nat} {o : Oper} (hi : ops[i]? = some o) : (i ≠ m → guardOk vals ops o = true) ∧ (∀ e ∈ o.after, Region.binds .any e = true → e.on < i) ∧ depsG vals ops o = true := by
  unfold regOkS at h
  rw [Bool.and_eq_true, List.all_eq_true] at h
  have h1 := h.1 (o, i) (List.mem_iff_getElem?.2 ⟨i, by rw [List.getElem?_zipIdx, Array.getElem?_toList, hi]; simp⟩)
  simp only [Bool.and_eq_true, List.all_eq_true, Bool.or_eq_true, Bool.not_eq_true', decide_eq_true_eq] at h1
  refine ⟨fun hne => ?_, fun e he hb => ?_, h1.2⟩
  · rcases h1.1.1 with h2 | h2
    · exact absurd h2 hne
    · exact h2
  · rcases h1.1.2 e (Array.mem_toList_iff.2 he) with h2 | h2
    · rw [hb] at h2; cases h2
    · exact h2
theorem regOkS_size (h : regOkS m vals ops = true) : m < ops.size := by
  unfold regOkS at h
  simp only [Bool.and_eq_true, decide_eq_true_eq] at h
  omega
theorem regOkS_last (h : regOkS m vals ops = true) {o : Oper} (hi : ops[m]? = some o) : ops.size = m + 1 ∧ o.dst = none ∧ o.guard = none ∧ ∀ i, i < m → ∃ j o', i < j ∧ j ≤ m ∧ ops[j]? = some o' ∧ ∃ e ∈ o'.after, Region.binds .any e = true ∧ e.on = i := by
  unfold regOkS at h
  rw [hi] at h
  simp only [Bool.and_eq_true, decide_eq_true_eq, Option.isNone_iff_eq_none, List.all_eq_true, List.any_eq_true, List.mem_range] at h
  refine ⟨h.2.2, h.2.1.1.1, h.2.1.1.2, fun i hi => ?_⟩
  obtain ⟨j, hj, hij, h3⟩ := h.2.1.2 i hi
  cases ho : ops[j]? with
  | none => rw [ho] at h3; cases h3
  | some o' =>
    rw [ho] at h3
    simp only [List.any_eq_true, Bool.and_eq_true, beq_iff_eq] at h3
    obtain ⟨e, he, h1, h2⟩ := h3
    exact ⟨j, o', hij, by omega, ho, e, Array.mem_toList_iff.1 he, h1, h2⟩
theorem all_listedS (hok : regOkS m vals ops = true) {listed : Array Bool} (hs : listed.size = ops.size) (hr : Region.ready .any ops listed = []) : ∀ i, i < ops.size → listed.getD i false = true := by
  intro i
  induction i using Nat.strongRecOn with
  | _ i ih =>
    intro hi
    cases hl : listed.getD i false with
    | true => rfl
    | false =>
      have ho : ops[i]? = some ops[i] := Array.getElem?_eq_getElem hi
      have hm : i ∈ Region.ready .any ops listed := mem_ready.2 ⟨by simpa [hs, hi] using hl, ops[i], ho, fun e he hb => by
        have := (regOkS_at hok ho).2.1 e he hb
        exact ih e.on this (by omega)⟩
      rw [hr] at hm
      cases hm
end

theorem region_stores {P : Program} {ops : Array Oper} {Q : Exit → Act → World → Prop} {id : Nat} {a : Act} {w : World} (hm : P.follows .mixedOrders = true) (vals : List (Tmp × Value)) (m : Nat) (hok : regOkS m vals ops = true) (ds : List Tmp) (hds : dstsOf ops = ds) (hlt : (ds.all fun t => decide (t < a.tmps.size)) = true) (hdn : ds.Nodup)
    (h0 : ∀ p ∈ vals, p.1 ∉ ds → a.tmps.getD p.1 undef = p.2)
    (hops : AllOps (fun _ o => ∀ t c, o.dst = some t → vals.lookup t = some c → OpVal P o vals w c) ops.toList 0) (R : World → Prop)
    (hlast : ∀ o, ops[m]? = some o → ∀ (b : Act) W, w.grownBy W none → (∀ t v, Operand.tmp t ∈ o.op.operands → vals.lookup t = some v → b.eval (.tmp t) = v) → o.wp P b W (fun b' W' => b' = b ∧ R W') Q)
    (hQ : ∀ (vs : Tmp → Value) (W : World), R W → (∀ t v, vals.lookup t = some v → t ∈ ds → vs t = v) →
      Q .normal { a with tmps := ds.foldl (fun (ts : Array Value) t => ts.setIfInBounds t (vs t)) a.tmps } W) :
    (Code.region id ops true).wp P Q a w := by
  subst hds
  have hu : ∀ (i j : Nat) (oi oj : Oper) (t : Tmp), ops[i]? = some oi → ops[j]? = some oj → oi.dst = some t → oj.dst = some t → i = j := fun i j oi oj t hi hj ei ej =>
    nodup_at hdn (by rw [Array.getElem?_toList]; exact hi) (by rw [Array.getElem?_toList]; exact hj) ei ej
  have hdl : ∀ t ∈ dstsOf ops, t < a.tmps.size := fun t ht => by simpa using List.all_eq_true.1 hlt t ht
  refine wp_region_any hm (wpAny_inv (fun listed b W => (listed.getD m false = false ∧ w.grownBy W none ∨ (∀ i, i < ops.size → listed.getD i false = true) ∧ R W) ∧ (∀ (k : Nat) (o : Oper) (e : Edge), listed.getD k false = true → ops[k]? = some o → e ∈ o.after → Region.binds .any e = true → listed.getD e.on false = true) ∧ b.defers = a.defers ∧ b.tmps.size = a.tmps.size ∧ (∀ t, t ∉ dstsOf ops → b.tmps[t]? = a.tmps[t]?) ∧
    (∀ (i : Nat) (o : Oper) (t : Tmp) (c : Value), listed.getD i false = true → ops[i]? = some o → o.dst = some t → vals.lookup t = some c → b.tmps.getD t undef = c)) ?_ ?_ ops.size _ _ _ (by simp) (by
      have := List.countP_le_length (p := (! ·)) (l := (Array.replicate ops.size false).toList)
      simpa using this) ?_)
  · rintro listed b W hs ⟨i1, i7, i2, i3, i4, i5⟩ i hi
    obtain ⟨hni, o, ho, hall⟩ := mem_ready.1 hi
    have hil : i < ops.size := (Array.getElem?_eq_some_iff.1 ho).1
    obtain ⟨g1, g2, g3⟩ := regOkS_at hok ho
    have i1 : listed.getD m false = false ∧ w.grownBy W none := by
      rcases i1 with h | ⟨h, _⟩
      · exact h
      · have h2 := h i hil
        have hl : i < listed.size := by omega
        exact absurd h2 (by simpa [hl] using hni)
    have henv : ∀ t v, Operand.tmp t ∈ o.op.operands → vals.lookup t = some v → b.eval (.tmp t) = v := fun t v ht hv => by
      unfold depsG at g3
      rw [List.all_eq_true] at g3
      have h1 := g3 (.tmp t) (Array.mem_toList_iff.2 ht)
      simp only [Bool.or_eq_true, List.all_eq_true, List.any_eq_true, Bool.and_eq_true, bne_iff_ne, ne_eq, beq_iff_eq, hv, Option.isNone_some, Bool.false_eq_true, false_or] at h1
      rcases h1 with h1 | ⟨e, he, hb, hx⟩
      · have h4 : t ∉ dstsOf ops := fun hm => by
          obtain ⟨i, oi, hi, e⟩ := mem_dsts.1 hm
          exact h1 oi (List.mem_iff_getElem?.2 ⟨i, by rw [Array.getElem?_toList]; exact hi⟩) e
        have h5 := i4 t h4
        show b.tmps.getD t undef = v
        rw [Array.getD_eq_getD_getElem?, h5, ← Array.getD_eq_getD_getElem?]
        exact h0 (t, v) (lookup_mem hv) h4
      · obtain ⟨oj, hoj, e1⟩ := Option.bind_eq_some_iff.1 hx
        exact i5 e.on oj t v (hall e (Array.mem_toList_iff.1 he) hb) hoj e1 hv
    have hset : ∀ j, i ≠ j → (listed.setIfInBounds i true).getD j false = listed.getD j false := fun j hij => getD_set_ne false hij
    have h7 : ∀ (k : Nat) (o' : Oper) (e : Edge), (listed.setIfInBounds i true).getD k false = true → ops[k]? = some o' → e ∈ o'.after → Region.binds .any e = true → (listed.setIfInBounds i true).getD e.on false = true := fun k oj e hl hoj he hb => by
      have hon : listed.getD e.on false = true := by
        by_cases hik : i = k
        · subst hik
          rw [ho] at hoj
          obtain rfl := Option.some.inj hoj
          exact hall e he hb
        · rw [hset k hik] at hl
          exact i7 k oj e hl hoj he hb
      by_cases e' : i = e.on
      · rw [← e']; exact getD_set_at (by omega)
      · rw [hset _ e']; exact hon
    by_cases him : i = m
    · subst him
      obtain ⟨hsz, hd, hgd, hbef⟩ := regOkS_last hok ho
      have hdown : ∀ d k, i - k ≤ d → k < i → listed.getD k false = true := by
        intro d
        induction d with
        | zero => intro k h1 h2; omega
        | succ d ih =>
          intro k h1 h2
          obtain ⟨j, oj, hkj, hjm, hoj, e1, he1, hb1, ho1⟩ := hbef k h2
          rw [← ho1]
          rcases Nat.lt_or_ge j i with hj | hj
          · exact i7 j oj e1 (ih j (by omega) hj) hoj he1 hb1
          · obtain rfl : j = i := by omega
            rw [ho] at hoj
            obtain rfl := Option.some.inj hoj
            exact hall e1 he1 hb1
      have hallm : ∀ k, k < ops.size → (listed.setIfInBounds i true).getD k false = true := fun k hk => by
        by_cases e : i = k
        · subst e; exact getD_set_at (by omega)
        · rw [hset k e]
          exact hdown i k (by omega) (by omega)
      unfold wpOp
      simp only [ho]
      rw [if_pos (by simp [Region.wanted, hgd])]
      refine .inl (Oper.wp_mono (fun b' W' h => ?_) (hlast o ho b W i1.2 henv))
      obtain ⟨rfl, hR⟩ := h
      refine ⟨.inr ⟨hallm, hR⟩, h7, i2, i3, i4, fun k oj t' c' hl hoj e1 e2 => ?_⟩
      by_cases hij : i = k
      · subst hij
        rw [ho] at hoj
        obtain rfl := Option.some.inj hoj
        rw [hd] at e1
        cases e1
      · rw [hset k hij] at hl
        exact i5 k oj t' c' hl hoj e1 e2
    replace g1 := g1 him
    obtain ⟨t, htd, hcase⟩ := guard_cases g1 hall i5
    have key : ∀ (x : Value) W', W.grownBy W' none → (∀ c, vals.lookup t = some c → x = c) → ((listed.setIfInBounds i true).getD m false = false ∧ w.grownBy W' none ∨ (∀ k, k < ops.size → (listed.setIfInBounds i true).getD k false = true) ∧ R W') ∧ (∀ (k : Nat) (o' : Oper) (e : Edge), (listed.setIfInBounds i true).getD k false = true → ops[k]? = some o' → e ∈ o'.after → Region.binds .any e = true → (listed.setIfInBounds i true).getD e.on false = true) ∧ (b.put o.dst x).defers = a.defers ∧ (b.put o.dst x).tmps.size = a.tmps.size ∧ (∀ t, t ∉ dstsOf ops → (b.put o.dst x).tmps[t]? = a.tmps[t]?) ∧
        (∀ (j : Nat) (oj : Oper) (t' : Tmp) (c' : Value), (listed.setIfInBounds i true).getD j false = true → ops[j]? = some oj → oj.dst = some t' → vals.lookup t' = some c' → (b.put o.dst x).tmps.getD t' undef = c') := fun x W' hg hx => by
      refine ⟨.inl ⟨by rw [hset m him]; exact i1.1, only_trans i1.2 hg⟩, h7, by rw [htd]; exact i2, by simp [Act.put, htd, i3], fun t' ht' => ?_, fun j oj t' c' hl hoj e1 e2 => ?_⟩
      · have hne : t ≠ t' := fun e => ht' (mem_dsts.2 ⟨i, o, ho, by rw [htd, e]⟩)
        rw [htd]
        simp only [Act.put]
        rw [Array.getElem?_setIfInBounds_ne hne]
        exact i4 t' ht'
      · by_cases hij : i = j
        · subst hij
          rw [ho] at hoj
          obtain rfl := Option.some.inj hoj
          rw [htd] at e1
          obtain rfl := Option.some.inj e1
          have : t < b.tmps.size := by rw [i3]; exact hdl t (mem_dsts.2 ⟨i, o, ho, htd⟩)
          rw [htd, ← hx c' e2]
          simp [Act.put, this]
        · have hne : t ≠ t' := fun e => hij (hu i j o oj t ho hoj htd (by rw [e]; exact e1))
          rw [hset j hij] at hl
          rw [htd]
          simp only [Act.put]
          rw [Array.getD_eq_getD_getElem?, Array.getElem?_setIfInBounds_ne hne, ← Array.getD_eq_getD_getElem?]
          exact i5 j oj t' c' hl hoj e1 e2
    unfold wpOp
    simp only [ho]
    rcases hcase with ⟨hw, c, hc⟩ | ⟨hw, hc⟩
    · rw [if_pos hw]
      refine .inl ?_
      have hop := hops.at_ i o (by rw [Array.getElem?_toList]; exact ho) t c htd hc
      unfold Oper.wp
      rcases hop b W i1.2 henv with h | ⟨f, args, h, hcall⟩
      · rw [h, Oper.upon_value]
        exact key c W (only_refl _ _) (fun c' h' => by rw [hc] at h'; exact Option.some.inj h')
      · rw [h, Oper.upon_enter]
        refine hcall.mono ?_
        rintro e w'' ⟨rfl, hg⟩
        exact key c w'' hg (fun c' h' => by rw [hc] at h'; exact Option.some.inj h')
    · rw [if_neg (by rw [hw]; decide)]
      exact key undef W (only_refl _ _) (fun c' h' => by rw [hc] at h'; cases h')
  · rintro listed b W hs ⟨i1, i7, i2, i3, i4, i5⟩ hr
    have hl := all_listedS hok hs hr
    have hlo : ∀ {i o}, ops[i]? = some o → listed.getD i false = true := fun h => hl _ (Array.getElem?_eq_some_iff.1 h).1
    have hb : b = { a with tmps := (dstsOf ops).foldl (fun (ts : Array Value) t => ts.setIfInBounds t (b.tmps.getD t undef)) a.tmps } := by
      obtain ⟨bt, bd⟩ := b
      obtain ⟨at_, ad⟩ := a
      simp only [Act.mk.injEq]
      refine ⟨?_, i2⟩
      apply Array.ext_getElem?
      intro t
      dsimp only at i3 i4
      rw [foldSet]
      by_cases h1 : t ∈ dstsOf ops
      · by_cases h2 : t < at_.size
        · have : t < bt.size := by omega
          simp [h1, h2, this]
        · simp [h2, i3]
      · simp only [h1, false_and, if_false]
        exact i4 t h1
    rw [hb]
    have hR : R W := by
      rcases i1 with ⟨h, _⟩ | ⟨_, h⟩
      · have hm1 : m < ops.size := regOkS_size hok
        rw [hl m hm1] at h
        cases h
      · exact h
    refine hQ (fun t => b.tmps.getD t undef) W hR (fun t v hv ht => ?_)
    obtain ⟨i, o, ho, e⟩ := mem_dsts.1 ht
    exact i5 i o t v (hlo ho) ho e hv
  · have hno : ∀ j, (Array.replicate ops.size false).getD j false = false := fun j => by
      simp only [Array.getD_eq_getD_getElem?, Array.getElem?_replicate]
      split <;> rfl
    refine ⟨.inl ⟨hno m, only_drew (only_refl w none)⟩, fun k o' e hl => (by rw [hno] at hl; cases hl), rfl, rfl, fun _ _ => rfl, fun i o t c hl => ?_⟩
    rw [hno] at hl; cases hl

end Go.Proofs.YtoklaajiajilhaaDoor

/- A region that draws its order: reads and calls, some of them guarded by values that are known, and at the end one slot that they read themselves is given a new value. No program. -/
namespace Go.Proofs.YtoklaajiajilhaaDoor
open Go.RowKit

/-- What an operation asks for, but for the last: it is there before, or was made. -/
def depsL (m : Nat) (vals : List (Tmp × Value)) (ops : Array Oper) (o : Oper) : Bool := o.op.operands.toList.all fun
  | .tmp t => (vals.lookup t).isNone || (ops.toList.zipIdx.all fun (oj, j) => decide (j = m) || oj.dst != some t) || o.after.toList.any fun e => Region.binds .any e && e.on != m && ((ops[e.on]?).bind (·.dst) == some t)
  | _ => true
def regOkL (m : Nat) (tm : Tmp) (vals : List (Tmp × Value)) (ops : Array Oper) : Bool := (ops.toList.zipIdx.all fun (o, i) => (decide (i = m) || (guardOk vals ops o && o.dst != some tm)) && (o.after.toList.all fun e => !Region.binds .any e || decide (e.on < i)) && depsL m vals ops o) &&
  ((match ops[m]? with
    | some o => o.dst == some tm && o.guard.isNone && (List.range m).all fun i => (List.range (m + 1)).any fun j => decide (i < j) && (match ops[j]? with | some o' => o'.after.toList.any fun e => Region.binds .any e && e.on == i | none => false)
    | none => false) && decide (ops.size = m + 1))
section
variable {vals : List (Tmp × Value)} {ops : Array Oper} {m : Nat} {tm : Tmp}
theorem regOkL_at (h : regOkL m tm vals ops = true) {i : Nat} {o : Oper} (hi : ops[i]? = some o) : (i ≠ m → guardOk vals ops o = true ∧ o.dst ≠ some tm) ∧ (∀ e ∈ o.after, Region.binds .any e = true → e.on < i) ∧ depsL m vals ops o = true := by
  unfold regOkL at h
  rw [Bool.and_eq_true, List.all_eq_true] at h
  have h1 := h.1 (o, i) (List.mem_iff_getElem?.2 ⟨i, by rw [List.getElem?_zipIdx, Array.getElem?_toList, hi]; simp⟩)
  simp only [Bool.and_eq_true, List.all_eq_true, Bool.or_eq_true, Bool.not_eq_true', decide_eq_true_eq, bne_iff_ne] at h1
  refine ⟨fun hne => ?_, fun e he hb => ?_, h1.2⟩
  · rcases h1.1.1 with h2 | h2
    · exact absurd h2 hne
    · exact h2
  · rcases h1.1.2 e (Array.mem_toList_iff.2 he) with h2 | h2
    · rw [hb] at h2; cases h2
    · exact h2
theorem regOkL_size (h : regOkL m tm vals ops = true) : m < ops.size := by
  unfold regOkL at h
  simp only [Bool.and_eq_true, decide_eq_true_eq] at h
  omega
theorem regOkL_last (h : regOkL m tm vals ops = true) {o : Oper} (hi : ops[m]? = some o) : ops.size = m + 1 ∧ o.dst = some tm ∧ o.guard = none ∧ ∀ i, i < m → ∃ j o', i < j ∧ j ≤ m ∧ ops[j]? = some o' ∧ ∃ e ∈ o'.after, Region.binds .any e = true ∧ e.on = i := by
  unfold regOkL at h
  rw [hi] at h
  simp only [Bool.and_eq_true, decide_eq_true_eq, Option.isNone_iff_eq_none, List.all_eq_true, List.any_eq_true, List.mem_range, beq_iff_eq] at h
  refine ⟨h.2.2, h.2.1.1.1, h.2.1.1.2, fun i hi => ?_⟩
  obtain ⟨j, hj, hij, h3⟩ := h.2.1.2 i hi
  cases ho : ops[j]? with
  | none => rw [ho] at h3; cases h3
  | some o' =>
    rw [ho] at h3
    simp only [List.any_eq_true, Bool.and_eq_true, beq_iff_eq] at h3
    obtain ⟨e, he, h1, h2⟩ := h3
    exact ⟨j, o', hij, by omega, ho, e, Array.mem_toList_iff.1 he, h1, h2⟩
theorem all_listedL (hok : regOkL m tm vals ops = true) {listed : Array Bool} (hs : listed.size = ops.size) (hr : Region.ready .any ops listed = []) : ∀ i, i < ops.size → listed.getD i false = true := by
  intro i
  induction i using Nat.strongRecOn with
  | _ i ih =>
    intro hi
    cases hl : listed.getD i false with
    | true => rfl
    | false =>
      have ho : ops[i]? = some ops[i] := Array.getElem?_eq_getElem hi
      have hm : i ∈ Region.ready .any ops listed := mem_ready.2 ⟨by simpa [hs, hi] using hl, ops[i], ho, fun e he hb => by
        have := (regOkL_at hok ho).2.1 e he hb
        exact ih e.on this (by omega)⟩
      rw [hr] at hm
      cases hm
end

theorem region_last {P : Program} {ops : Array Oper} {Q : Exit → Act → World → Prop} {id : Nat} {a : Act} {w : World} (hm : P.follows .mixedOrders = true) (vals : List (Tmp × Value)) (m : Nat) (tm : Tmp) (cn : Value) (hok : regOkL m tm vals ops = true) (ds : List Tmp) (hds : dstsOf ops = ds) (hlt : (ds.all fun t => decide (t < a.tmps.size)) = true) (hdn : ds.Nodup)
    (h0 : ∀ p ∈ vals, p.1 ∉ ds → a.tmps.getD p.1 undef = p.2)
    (hops : AllOps (fun i o => i ≠ m → ∀ t c, o.dst = some t → vals.lookup t = some c → OpVal P o vals w c) ops.toList 0) 
    (h0m : ∀ v, vals.lookup tm = some v → a.tmps.getD tm undef = v) (hlast : ∀ o, ops[m]? = some o → OpVal P o vals w cn)
    (hQ : ∀ (vs : Tmp → Value) (W : World), w.grownBy W none → vs tm = cn → (∀ t v, t ≠ tm → vals.lookup t = some v → t ∈ ds → vs t = v) →
      Q .normal { a with tmps := ds.foldl (fun (ts : Array Value) t => ts.setIfInBounds t (vs t)) a.tmps } W) :
    (Code.region id ops true).wp P Q a w := by
  subst hds
  have hu : ∀ (i j : Nat) (oi oj : Oper) (t : Tmp), ops[i]? = some oi → ops[j]? = some oj → oi.dst = some t → oj.dst = some t → i = j := fun i j oi oj t hi hj ei ej =>
    nodup_at hdn (by rw [Array.getElem?_toList]; exact hi) (by rw [Array.getElem?_toList]; exact hj) ei ej
  have hdl : ∀ t ∈ dstsOf ops, t < a.tmps.size := fun t ht => by simpa using List.all_eq_true.1 hlt t ht
  refine wp_region_any hm (wpAny_inv (fun listed b W => (w.grownBy W none ∧ (listed.getD m false = false ∧ b.tmps[tm]? = a.tmps[tm]? ∨ (∀ i, i < ops.size → listed.getD i false = true) ∧ b.tmps.getD tm undef = cn)) ∧ (∀ (k : Nat) (o : Oper) (e : Edge), listed.getD k false = true → ops[k]? = some o → e ∈ o.after → Region.binds .any e = true → listed.getD e.on false = true) ∧ b.defers = a.defers ∧ b.tmps.size = a.tmps.size ∧ (∀ t, t ∉ dstsOf ops → b.tmps[t]? = a.tmps[t]?) ∧
    (∀ (i : Nat) (o : Oper) (t : Tmp) (c : Value), i ≠ m → listed.getD i false = true → ops[i]? = some o → o.dst = some t → vals.lookup t = some c → b.tmps.getD t undef = c)) ?_ ?_ ops.size _ _ _ (by simp) (by
      have := List.countP_le_length (p := (! ·)) (l := (Array.replicate ops.size false).toList)
      simpa using this) ?_)
  · rintro listed b W hs ⟨i1, i7, i2, i3, i4, i5⟩ i hi
    obtain ⟨hni, o, ho, hall⟩ := mem_ready.1 hi
    have hil : i < ops.size := (Array.getElem?_eq_some_iff.1 ho).1
    obtain ⟨g1, g2, g3⟩ := regOkL_at hok ho
    have i6 : listed.getD m false = false ∧ b.tmps[tm]? = a.tmps[tm]? := by
      rcases i1.2 with h | ⟨h, _⟩
      · exact h
      · have h2 := h i hil
        have hl : i < listed.size := by omega
        exact absurd h2 (by simpa [hl] using hni)
    have henv : ∀ t v, Operand.tmp t ∈ o.op.operands → vals.lookup t = some v → b.eval (.tmp t) = v := fun t v ht hv => by
      unfold depsL at g3
      rw [List.all_eq_true] at g3
      have h1 := g3 (.tmp t) (Array.mem_toList_iff.2 ht)
      simp only [Bool.or_eq_true, List.all_eq_true, List.any_eq_true, Bool.and_eq_true, bne_iff_ne, ne_eq, beq_iff_eq, hv, Option.isNone_some, Bool.false_eq_true, false_or, decide_eq_true_eq] at h1
      rcases h1 with h1 | ⟨e, he, ⟨hb, hem⟩, hx⟩
      · by_cases htm : t = tm
        · show b.tmps.getD t undef = v
          rw [htm, Array.getD_eq_getD_getElem?, i6.2, ← Array.getD_eq_getD_getElem?]
          exact h0m v (by rw [← htm]; exact hv)
        have h4 : t ∉ dstsOf ops := fun hmem => by
          obtain ⟨i', oi, hi', e⟩ := mem_dsts.1 hmem
          rcases h1 (oi, i') (List.mem_iff_getElem?.2 ⟨i', by rw [List.getElem?_zipIdx, Array.getElem?_toList, hi']; simp⟩) with h | h
          · subst h
            have := (regOkL_last hok hi').2.1
            rw [e] at this
            exact htm (Option.some.inj this)
          · exact h e
        have h5 := i4 t h4
        show b.tmps.getD t undef = v
        rw [Array.getD_eq_getD_getElem?, h5, ← Array.getD_eq_getD_getElem?]
        exact h0 (t, v) (lookup_mem hv) h4
      · obtain ⟨oj, hoj, e1⟩ := Option.bind_eq_some_iff.1 hx
        exact i5 e.on oj t v hem (hall e (Array.mem_toList_iff.1 he) hb) hoj e1 hv
    have hset : ∀ j, i ≠ j → (listed.setIfInBounds i true).getD j false = listed.getD j false := fun j hij => getD_set_ne false hij
    have h7 : ∀ (k : Nat) (o' : Oper) (e : Edge), (listed.setIfInBounds i true).getD k false = true → ops[k]? = some o' → e ∈ o'.after → Region.binds .any e = true → (listed.setIfInBounds i true).getD e.on false = true := fun k oj e hl hoj he hb => by
      have hon : listed.getD e.on false = true := by
        by_cases hik : i = k
        · subst hik
          rw [ho] at hoj
          obtain rfl := Option.some.inj hoj
          exact hall e he hb
        · rw [hset k hik] at hl
          exact i7 k oj e hl hoj he hb
      by_cases e' : i = e.on
      · rw [← e']; exact getD_set_at (by omega)
      · rw [hset _ e']; exact hon
    by_cases him : i = m
    · subst him
      obtain ⟨hsz, hd, hgd, hbef⟩ := regOkL_last hok ho
      have hdown : ∀ d k, i - k ≤ d → k < i → listed.getD k false = true := by
        intro d
        induction d with
        | zero => intro k h1 h2; omega
        | succ d ih =>
          intro k h1 h2
          obtain ⟨j, oj, hkj, hjm, hoj, e1, he1, hb1, ho1⟩ := hbef k h2
          rw [← ho1]
          rcases Nat.lt_or_ge j i with hj | hj
          · exact i7 j oj e1 (ih j (by omega) hj) hoj he1 hb1
          · obtain rfl : j = i := by omega
            rw [ho] at hoj
            obtain rfl := Option.some.inj hoj
            exact hall e1 he1 hb1
      have hallm : ∀ k, k < ops.size → (listed.setIfInBounds i true).getD k false = true := fun k hk => by
        by_cases e : i = k
        · subst e; exact getD_set_at (by omega)
        · rw [hset k e]
          exact hdown i k (by omega) (by omega)
      have keyL : ∀ W', W.grownBy W' none → (w.grownBy W' none ∧ ((listed.setIfInBounds i true).getD i false = false ∧ (b.put o.dst cn).tmps[tm]? = a.tmps[tm]? ∨ (∀ k, k < ops.size → (listed.setIfInBounds i true).getD k false = true) ∧ (b.put o.dst cn).tmps.getD tm undef = cn)) ∧ (∀ (k : Nat) (o' : Oper) (e : Edge), (listed.setIfInBounds i true).getD k false = true → ops[k]? = some o' → e ∈ o'.after → Region.binds .any e = true → (listed.setIfInBounds i true).getD e.on false = true) ∧ (b.put o.dst cn).defers = a.defers ∧ (b.put o.dst cn).tmps.size = a.tmps.size ∧ (∀ t, t ∉ dstsOf ops → (b.put o.dst cn).tmps[t]? = a.tmps[t]?) ∧
          (∀ (j : Nat) (oj : Oper) (t' : Tmp) (c' : Value), j ≠ i → (listed.setIfInBounds i true).getD j false = true → ops[j]? = some oj → oj.dst = some t' → vals.lookup t' = some c' → (b.put o.dst cn).tmps.getD t' undef = c') := fun W' hg => by
        have htl : tm < b.tmps.size := by rw [i3]; exact hdl tm (mem_dsts.2 ⟨i, o, ho, hd⟩)
        refine ⟨⟨only_trans i1.1 hg, .inr ⟨hallm, by rw [hd]; simp [Act.put, htl]⟩⟩, h7, by rw [hd]; exact i2, by simp [Act.put, hd, i3], fun t' ht' => ?_, fun k oj t' c' hki hl hoj e1 e2 => ?_⟩
        · have hne : tm ≠ t' := fun e => ht' (mem_dsts.2 ⟨i, o, ho, by rw [hd, e]⟩)
          rw [hd]
          simp only [Act.put]
          rw [Array.getElem?_setIfInBounds_ne hne]
          exact i4 t' ht'
        · have hne : tm ≠ t' := fun e => (((regOkL_at hok hoj).1 hki).2) (by rw [e1, e])
          rw [hset k (Ne.symm hki)] at hl
          rw [hd]
          simp only [Act.put]
          rw [Array.getD_eq_getD_getElem?, Array.getElem?_setIfInBounds_ne hne, ← Array.getD_eq_getD_getElem?]
          exact i5 k oj t' c' hki hl hoj e1 e2
      unfold wpOp
      simp only [ho]
      rw [if_pos (by simp [Region.wanted, hgd])]
      refine .inl ?_
      unfold Oper.wp
      rcases hlast o ho b W i1.1 henv with h | ⟨f, args, h, hcall⟩
      · rw [h, Oper.upon_value]
        exact keyL W (only_refl _ _)
      · rw [h, Oper.upon_enter]
        refine hcall.mono ?_
        rintro e w'' ⟨rfl, hg⟩
        exact keyL w'' hg
    obtain ⟨g1, hdt⟩ := g1 him
    have i5' : ∀ (i : Nat) (o : Oper) (t : Tmp) (c : Value), listed.getD i false = true → ops[i]? = some o → o.dst = some t → vals.lookup t = some c → b.tmps.getD t undef = c := fun k o' t c hl ho' e1 e2 => i5 k o' t c (fun e => by rw [e, i6.1] at hl; cases hl) hl ho' e1 e2
    obtain ⟨t, htd, hcase⟩ := guard_cases g1 hall i5'
    have httm : t ≠ tm := fun e => hdt (by rw [htd, e])
    have key : ∀ (x : Value) W', W.grownBy W' none → (∀ c, vals.lookup t = some c → x = c) → (w.grownBy W' none ∧ ((listed.setIfInBounds i true).getD m false = false ∧ (b.put o.dst x).tmps[tm]? = a.tmps[tm]? ∨ (∀ k, k < ops.size → (listed.setIfInBounds i true).getD k false = true) ∧ (b.put o.dst x).tmps.getD tm undef = cn)) ∧ (∀ (k : Nat) (o' : Oper) (e : Edge), (listed.setIfInBounds i true).getD k false = true → ops[k]? = some o' → e ∈ o'.after → Region.binds .any e = true → (listed.setIfInBounds i true).getD e.on false = true) ∧ (b.put o.dst x).defers = a.defers ∧ (b.put o.dst x).tmps.size = a.tmps.size ∧ (∀ t, t ∉ dstsOf ops → (b.put o.dst x).tmps[t]? = a.tmps[t]?) ∧
        (∀ (j : Nat) (oj : Oper) (t' : Tmp) (c' : Value), j ≠ m → (listed.setIfInBounds i true).getD j false = true → ops[j]? = some oj → oj.dst = some t' → vals.lookup t' = some c' → (b.put o.dst x).tmps.getD t' undef = c') := fun x W' hg hx => by
      refine ⟨⟨only_trans i1.1 hg, .inl ⟨by rw [hset m him]; exact i6.1, by rw [htd]; simp only [Act.put]; rw [Array.getElem?_setIfInBounds_ne httm]; exact i6.2⟩⟩, h7, by rw [htd]; exact i2, by simp [Act.put, htd, i3], fun t' ht' => ?_, fun j oj t' c' hjm hl hoj e1 e2 => ?_⟩
      · have hne : t ≠ t' := fun e => ht' (mem_dsts.2 ⟨i, o, ho, by rw [htd, e]⟩)
        rw [htd]
        simp only [Act.put]
        rw [Array.getElem?_setIfInBounds_ne hne]
        exact i4 t' ht'
      · by_cases hij : i = j
        · subst hij
          rw [ho] at hoj
          obtain rfl := Option.some.inj hoj
          rw [htd] at e1
          obtain rfl := Option.some.inj e1
          have : t < b.tmps.size := by rw [i3]; exact hdl t (mem_dsts.2 ⟨i, o, ho, htd⟩)
          rw [htd, ← hx c' e2]
          simp [Act.put, this]
        · have hne : t ≠ t' := fun e => hij (hu i j o oj t ho hoj htd (by rw [e]; exact e1))
          rw [hset j hij] at hl
          rw [htd]
          simp only [Act.put]
          rw [Array.getD_eq_getD_getElem?, Array.getElem?_setIfInBounds_ne hne, ← Array.getD_eq_getD_getElem?]
          exact i5 j oj t' c' hjm hl hoj e1 e2
    unfold wpOp
    simp only [ho]
    rcases hcase with ⟨hw, c, hc⟩ | ⟨hw, hc⟩
    · rw [if_pos hw]
      refine .inl ?_
      have hop := hops.at_ i o (by rw [Array.getElem?_toList]; exact ho) (by omega) t c htd hc
      unfold Oper.wp
      rcases hop b W i1.1 henv with h | ⟨f, args, h, hcall⟩
      · rw [h, Oper.upon_value]
        exact key c W (only_refl _ _) (fun c' h' => by rw [hc] at h'; exact Option.some.inj h')
      · rw [h, Oper.upon_enter]
        refine hcall.mono ?_
        rintro e w'' ⟨rfl, hg⟩
        exact key c w'' hg (fun c' h' => by rw [hc] at h'; exact Option.some.inj h')
    · rw [if_neg (by rw [hw]; decide)]
      exact key undef W (only_refl _ _) (fun c' h' => by rw [hc] at h'; cases h')
  · rintro listed b W hs ⟨i1, i7, i2, i3, i4, i5⟩ hr
    have hl := all_listedL hok hs hr
    have hlo : ∀ {i o}, ops[i]? = some o → listed.getD i false = true := fun h => hl _ (Array.getElem?_eq_some_iff.1 h).1
    have hb : b = { a with tmps := (dstsOf ops).foldl (fun (ts : Array Value) t => ts.setIfInBounds t (b.tmps.getD t undef)) a.tmps } := by
      obtain ⟨bt, bd⟩ := b
      obtain ⟨at_, ad⟩ := a
      simp only [Act.mk.injEq]
      refine ⟨?_, i2⟩
      apply Array.ext_getElem?
      intro t
      dsimp only at i3 i4
      rw [foldSet]
      by_cases h1 : t ∈ dstsOf ops
      · by_cases h2 : t < at_.size
        · have : t < bt.size := by omega
          simp [h1, h2, this]
        · simp [h2, i3]
      · simp only [h1, false_and, if_false]
        exact i4 t h1
    rw [hb]
    have hv : b.tmps.getD tm undef = cn := by
      rcases i1.2 with ⟨h, _⟩ | ⟨_, h⟩
      · have hm1 : m < ops.size := regOkL_size hok
        rw [hl m hm1] at h
        cases h
      · exact h
    refine hQ (fun t => b.tmps.getD t undef) W i1.1 hv (fun t v htm hv ht => ?_)
    obtain ⟨i, o, ho, e⟩ := mem_dsts.1 ht
    exact i5 i o t v (fun e' => by subst e'; have := (regOkL_last hok ho).2.1; rw [e] at this; exact htm (Option.some.inj this)) (hlo ho) ho e hv
  · have hno : ∀ j, (Array.replicate ops.size false).getD j false = false := fun j => by
      simp only [Array.getD_eq_getD_getElem?, Array.getElem?_replicate]
      split <;> rfl
    refine ⟨⟨only_drew (only_refl w none), .inl ⟨hno m, rfl⟩⟩, fun k o' e hl => (by rw [hno] at hl; cases hl), rfl, rfl, fun _ _ => rfl, fun i o t c _ hl => ?_⟩
    rw [hno] at hl; cases hl

/-- The same, the last operation an assignment. -/
theorem region_upd {ops : Array Oper} {Q : Exit → Act → World → Prop} {id : Nat} {a : Act} {w : World} (hm : (Tryd.prog).follows .mixedOrders = true) (made init : List (Tmp × Value)) (m : Nat) (tm q : Tmp) (cn : Value) (hok : regOkL m tm (made ++ init) ops = true) (ds : List Tmp) (hds : dstsOf ops = ds) (hlt : (ds.all fun t => decide (t < a.tmps.size)) = true) (hdn : ds.Nodup)
    (hmd : (made.all fun p => ds.contains p.1 && p.1 != tm) = true) (h0 : InitOk a init)
    (hops : AllOps (fun i o => i ≠ m → ∀ t c, o.dst = some t → (made ++ init).lookup t = some c → OpVal Tryd.prog o (made ++ init) w c) ops.toList 0)
    (hst : (ops[m]?).map (·.op) = some (.assign (.tmp q))) (hq : (made ++ init).lookup q = some cn)
    (hQ : ∀ (vs : Tmp → Value) (W : World), w.grownBy W none → vs tm = cn →
      Q .normal { a with tmps := ds.foldl (fun (ts : Array Value) t => ts.setIfInBounds t (vs t)) a.tmps } W) :
    (Code.region id ops true).wp Tryd.prog Q a w := by
  have hmade : ∀ p ∈ made, p.1 ∈ ds ∧ p.1 ≠ tm := fun p hp => by
    have h := List.all_eq_true.1 hmd p hp
    simp only [Bool.and_eq_true, bne_iff_ne] at h
    exact ⟨by simpa using h.1, h.2⟩
  refine region_last hm (made ++ init) m tm cn hok ds hds hlt hdn (fun p hp hn => by
    rcases List.mem_append.1 hp with hp | hp
    · exact absurd (hmade p hp).1 hn
    · exact h0.at_ p hp) hops (fun v hv => by
    rcases List.mem_append.1 (lookup_mem hv) with hp | hp
    · exact absurd rfl (hmade _ hp).2
    · exact h0.at_ _ hp) (fun o ho => ?_) (fun vs W hg hv _ => hQ vs W hg hv)
  rw [ho] at hst
  exact ov_assign (Option.some.inj hst) hq
end Go.Proofs.YtoklaajiajilhaaDoor

/- A region that draws its order: reads that answer the same whenever they come, and operations that hang on one another as a chain (Chain's law, outside of rounds). And a region that makes one box. No program. -/
namespace Go.Proofs.YtoklaajiajilhaaDoor
open Go.RowKit

theorem region_chainW {P : Program} {ops : Array Oper} {Q : Exit → Act → World → Prop} {id : Nat} {a : Act} {w : World} (hm : P.follows .mixedOrders = true) (hok : regOkB ops = true) (hdef : (ops.toList.all fun o => match o.op with | .defer _ => false | _ => true) = true) (ds : List Tmp) (hds : dstsOf ops = ds) (hlt : (ds.all fun t => decide (t < a.tmps.size)) = true) (hdn : ds.Nodup)
    (vals : List (Tmp × Value)) (h0 : ∀ p ∈ vals, p.1 ∉ ds → a.tmps.getD p.1 undef = p.2)
    (ch : List Nat) (hch : chainOk ops ch = true) (hnee : neededOk ops ch = true) (hnd : ch.Nodup) (hin : (ch.all fun i => decide (i < ops.size)) = true)
    (T : Nat → (Tmp → Value) → World → Prop) (hT : ∀ j f g W, T j f W → (∀ (k i : Nat) (o : Oper) (t : Tmp), k < j → ch[k]? = some i → ops[i]? = some o → o.dst = some t → f t = g t) → T j g W)
    (hreads : ∀ (i : Nat) (o : Oper), ops[i]? = some o → i ∉ ch → ∃ t c, o.dst = some t ∧ vals.lookup t = some c ∧ ∀ j f (b : Act) W, j < ch.length → T j f W → (∀ t v, Operand.tmp t ∈ o.op.operands → vals.lookup t = some v → b.eval (.tmp t) = v) → (execOp b.eval o).run P W = .ok (.value c) W)
    (hsteps : ∀ (j i : Nat) (o : Oper), ch[j]? = some i → ops[i]? = some o → (∀ t, o.dst = some t → vals.lookup t = none) ∧ ∀ (b : Act) W, b.tmps.size = a.tmps.size → T j (fun t => b.tmps.getD t undef) W → (∀ t v, Operand.tmp t ∈ o.op.operands → vals.lookup t = some v → b.eval (.tmp t) = v) →
      o.wp P b W (fun b' W' => ∃ x, b' = b.put o.dst x ∧ T (j + 1) (fun t => (b.put o.dst x).tmps.getD t undef) W') Q)
    (hT0 : T 0 (fun t => a.tmps.getD t undef) w.drew)
    (hQ : ∀ (vs : Tmp → Value) (W : World), (∀ t v, vals.lookup t = some v → t ∈ ds → vs t = v) → T ch.length vs W →
      Q .normal { a with tmps := ds.foldl (fun (ts : Array Value) t => ts.setIfInBounds t (vs t)) a.tmps } W) :
    (Code.region id ops true).wp P Q a w := by
  subst hds
  have hu : ∀ (i j : Nat) (oi oj : Oper) (t : Tmp), ops[i]? = some oi → ops[j]? = some oj → oi.dst = some t → oj.dst = some t → i = j := fun i j oi oj t hi hj ei ej =>
    nodup_at hdn (by rw [Array.getElem?_toList]; exact hi) (by rw [Array.getElem?_toList]; exact hj) ei ej
  have hdl : ∀ t ∈ dstsOf ops, t < a.tmps.size := fun t ht => by simpa using List.all_eq_true.1 hlt t ht
  have chlt : ∀ (j j' i : Nat), ch[j]? = some i → ch[j']? = some i → j = j' := fun j j' i h1 h2 => by
    obtain ⟨l1, e1⟩ := List.getElem?_eq_some_iff.1 h1
    obtain ⟨l2, e2⟩ := List.getElem?_eq_some_iff.1 h2
    exact (List.getElem_inj hnd).1 (e1.trans e2.symm)
  refine wp_region_any hm (wpAny_inv (fun listed b W => b.defers = a.defers ∧ b.tmps.size = a.tmps.size ∧ (∀ t, t ∉ dstsOf ops → b.tmps[t]? = a.tmps[t]?) ∧
    (∀ (i : Nat) (o : Oper) (t : Tmp) (c : Value), listed.getD i false = true → ops[i]? = some o → o.dst = some t → vals.lookup t = some c → b.tmps.getD t undef = c) ∧
    (∀ (k : Nat) (o : Oper) (e : Edge), listed.getD k false = true → ops[k]? = some o → e ∈ o.after → Region.binds .any e = true → listed.getD e.on false = true) ∧
    ∃ j, j ≤ ch.length ∧ (∀ k i, ch[k]? = some i → i < ops.size → (listed.getD i false = true ↔ k < j)) ∧ T j (fun t => b.tmps.getD t undef) W) ?_ ?_ ops.size _ _ _ (by simp) (by
      have := List.countP_le_length (p := (! ·)) (l := (Array.replicate ops.size false).toList)
      simpa using this) ?_)
  · rintro listed b W hs ⟨i2, i3, i4, i5, i7, j, hjl, i6, hTj⟩ i hi
    obtain ⟨hni, o, ho, hall⟩ := mem_ready.1 hi
    have hil : i < ops.size := (Array.getElem?_eq_some_iff.1 ho).1
    have hni' : listed.getD i false = false := by
      have hl : i < listed.size := by omega
      simpa [hl] using hni
    obtain ⟨g1, g2, g3⟩ := regOkB_at hok ho
    have henv : ∀ t v, Operand.tmp t ∈ o.op.operands → vals.lookup t = some v → b.eval (.tmp t) = v := fun t v ht hv => by
      unfold depsOk at g3
      rw [List.all_eq_true] at g3
      have h1 := g3 (.tmp t) (Array.mem_toList_iff.2 ht)
      simp only [Bool.or_eq_true, List.all_eq_true, List.any_eq_true, Bool.and_eq_true, bne_iff_ne, ne_eq, beq_iff_eq] at h1
      rcases h1 with h1 | ⟨e, he, hb, hx⟩
      · have h4 : t ∉ dstsOf ops := fun hm => by
          obtain ⟨i, oi, hi, e⟩ := mem_dsts.1 hm
          exact h1 oi (List.mem_iff_getElem?.2 ⟨i, by rw [Array.getElem?_toList]; exact hi⟩) e
        have h5 := i4 t h4
        show b.tmps.getD t undef = v
        rw [Array.getD_eq_getD_getElem?, h5, ← Array.getD_eq_getD_getElem?]
        exact h0 (t, v) (lookup_mem hv) h4
      · obtain ⟨oj, hoj, e1⟩ := Option.bind_eq_some_iff.1 hx
        exact i5 e.on oj t v (hall e (Array.mem_toList_iff.1 he) hb) hoj e1 hv
    have hset : ∀ j, i ≠ j → (listed.setIfInBounds i true).getD j false = listed.getD j false := fun j hij => getD_set_ne false hij
    have hseti : (listed.setIfInBounds i true).getD i false = true := getD_set_at (by omega)
    have hnd' : ∀ c, o.op ≠ .defer c := fun c e => by
      rw [List.all_eq_true] at hdef
      have := hdef o (List.mem_iff_getElem?.2 ⟨i, by rw [Array.getElem?_toList]; exact ho⟩)
      rw [e] at this
      cases this
    unfold wpOp
    simp only [ho]
    rw [if_pos (by simp [Region.wanted, g1])]
    have other : ∀ (x : Value) (t' : Tmp), o.dst ≠ some t' → (b.put o.dst x).tmps[t']? = b.tmps[t']? := fun x t' hne => by
      cases hd : o.dst with
      | none => rfl
      | some t =>
        rw [hd] at hne
        simp only [Act.put]
        rw [Array.getElem?_setIfInBounds_ne (fun e => hne (by rw [e]))]
    have otherD : ∀ (x : Value) (t' : Tmp), o.dst ≠ some t' → (b.put o.dst x).tmps.getD t' undef = b.tmps.getD t' undef := fun x t' hne => by
      rw [Array.getD_eq_getD_getElem?, other x t' hne, ← Array.getD_eq_getD_getElem?]
    have basic : ∀ x : Value, (b.put o.dst x).defers = a.defers ∧ (b.put o.dst x).tmps.size = a.tmps.size ∧ (∀ t, t ∉ dstsOf ops → (b.put o.dst x).tmps[t]? = a.tmps[t]?) := fun x => by
      refine ⟨?_, ?_, fun t ht => ?_⟩
      · cases o.dst <;> exact i2
      · cases o.dst <;> simp [Act.put, i3]
      · rw [other x t (fun e => ht (mem_dsts.2 ⟨i, o, ho, e⟩))]
        exact i4 t ht
    have closed : ∀ (k : Nat) (ok : Oper) (e : Edge), (listed.setIfInBounds i true).getD k false = true → ops[k]? = some ok → e ∈ ok.after → Region.binds .any e = true → (listed.setIfInBounds i true).getD e.on false = true := fun k ok e hl hok he hb => by
      by_cases hie : i = e.on
      · rw [← hie]; exact hseti
      · rw [hset _ hie]
        by_cases hik : i = k
        · subst hik
          rw [ho] at hok
          obtain rfl := Option.some.inj hok
          exact hall e he hb
        · rw [hset _ hik] at hl
          exact i7 k ok e hl hok he hb
    by_cases hmem : i ∈ ch
    · obtain ⟨j', hj'⟩ := List.mem_iff_getElem?.1 hmem
      have hjj : ¬ j' < j := fun h => by
        have := (i6 j' i hj' hil).2 h
        rw [hni'] at this
        cases this
      have hej : j' = j := by
        rcases Nat.lt_or_ge j j' with h | h
        · obtain ⟨m, rfl⟩ : ∃ m, j' = m + 1 := ⟨j' - 1, by omega⟩
          have hml : m < ch.length := by have := (List.getElem?_eq_some_iff.1 hj').1; omega
          obtain ⟨k, hk⟩ : ∃ k, ch[m]? = some k := ⟨_, List.getElem?_eq_getElem hml⟩
          obtain ⟨e, he, hb, hx⟩ := chainOk_at m hch hk hj' ho
          have hon := hall e he hb
          rw [hx] at hon
          have hkl : k < ops.size := by
            rcases Nat.lt_or_ge k ops.size with h' | h'
            · exact h'
            · have hk2 : ¬ k < listed.size := by omega
              simp [Array.getD_eq_getD_getElem?, hk2] at hon
          have := (i6 m k hk hkl).1 hon
          omega
        · omega
      subst hej
      obtain ⟨hv, hstep⟩ := hsteps j' i o hj' ho
      refine .inl (Oper.wp_mono ?_ (hstep b W i3 hTj henv))
      rintro b' W' ⟨x, rfl, hT'⟩
      refine ⟨(basic x).1, (basic x).2.1, (basic x).2.2, fun m om t' c' hl hom e1 e2 => ?_, closed, j' + 1, (List.getElem?_eq_some_iff.1 hj').1, fun k m hk hm => ?_, hT'⟩
      · have hne : o.dst ≠ some t' := fun e => by rw [hv t' e] at e2; cases e2
        have him : i ≠ m := fun e => by subst e; rw [ho] at hom; cases hom; exact hne e1
        rw [hset m him] at hl
        rw [otherD x t' hne]
        exact i5 m om t' c' hl hom e1 e2
      · by_cases him : i = m
        · subst him
          have := chlt _ _ _ hj' hk
          exact ⟨fun _ => by omega, fun _ => hseti⟩
        · rw [hset m him, i6 k m hk hm]
          have : k ≠ j' := fun e => by subst e; rw [hj'] at hk; exact him (Option.some.inj hk)
          omega
    · obtain ⟨t, c, b1, b2, b3⟩ := hreads i o ho hmem
      refine .inl ?_
      unfold Oper.wp
      have hjlt : j < ch.length := by
        rcases Nat.lt_or_ge j ch.length with h | h
        · exact h
        · obtain ⟨k, hk, ok, hok', e, he, hb, hx⟩ := neededOk_at hnee hil hmem
          obtain ⟨m, hm'⟩ := List.mem_iff_getElem?.1 hk
          have hml := (List.getElem?_eq_some_iff.1 hm').1
          have hkl := (i6 m k hm' (Array.getElem?_eq_some_iff.1 hok').1).2 (by omega)
          have := i7 k ok e hkl hok' he hb
          rw [hx, hni'] at this
          cases this
      rw [b3 j _ b W hjlt hTj henv, Oper.upon_value]
      refine ⟨(basic c).1, (basic c).2.1, (basic c).2.2, fun m om t' c' hl hom e1 e2 => ?_, closed, j, hjl, fun k m hk hm => ?_, hT _ _ _ _ hTj fun k m om t' hkj hk hom e1 => ?_⟩
      · by_cases him : i = m
        · subst him
          rw [ho] at hom
          obtain rfl := Option.some.inj hom
          rw [b1] at e1
          obtain rfl := Option.some.inj e1
          rw [b2] at e2
          obtain rfl := Option.some.inj e2
          have : t < b.tmps.size := by rw [i3]; exact hdl t (mem_dsts.2 ⟨i, o, ho, b1⟩)
          rw [b1]
          simp [Act.put, this]
        · have hne : o.dst ≠ some t' := fun e => him (hu i m o om t' ho hom e e1)
          rw [hset m him] at hl
          rw [otherD c t' hne]
          exact i5 m om t' c' hl hom e1 e2
      · have him : i ≠ m := fun e => by subst e; exact hmem (List.mem_of_getElem? hk)
        rw [hset m him]
        exact i6 k m hk hm
      · have hne : o.dst ≠ some t' := fun e => by
          have := hu i m o om t' ho hom e e1
          subst this
          exact hmem (List.mem_of_getElem? hk)
        exact (otherD c t' hne).symm
  · rintro listed b W hs ⟨i2, i3, i4, i5, i7, j, hjl, i6, hTj⟩ hr
    have hl := all_listedB hok hs hr
    have hlo : ∀ {i o}, ops[i]? = some o → listed.getD i false = true := fun h => hl _ (Array.getElem?_eq_some_iff.1 h).1
    have hj : j = ch.length := by
      rcases Nat.lt_or_ge j ch.length with h | h
      · obtain ⟨i, hi⟩ : ∃ i, ch[j]? = some i := ⟨_, List.getElem?_eq_getElem h⟩
        have hil : i < ops.size := by simpa using List.all_eq_true.1 hin i (List.mem_of_getElem? hi)
        have := (i6 j i hi hil).1 (hl _ hil)
        omega
      · omega
    subst hj
    have hb : b = { a with tmps := (dstsOf ops).foldl (fun (ts : Array Value) t => ts.setIfInBounds t (b.tmps.getD t undef)) a.tmps } := by
      obtain ⟨bt, bd⟩ := b
      obtain ⟨at_, ad⟩ := a
      simp only [Act.mk.injEq]
      refine ⟨?_, i2⟩
      apply Array.ext_getElem?
      intro t
      dsimp only at i3 i4
      rw [foldSet]
      by_cases h1 : t ∈ dstsOf ops
      · by_cases h2 : t < at_.size
        · have : t < bt.size := by omega
          simp [h1, h2, this]
        · simp [h2, i3]
      · simp only [h1, false_and, if_false]
        exact i4 t h1
    rw [hb]
    refine hQ (fun t => b.tmps.getD t undef) W (fun t v hv ht => ?_) hTj
    obtain ⟨i, o, ho, e⟩ := mem_dsts.1 ht
    exact i5 i o t v (hlo ho) ho e hv
  · have hno : ∀ j, (Array.replicate ops.size false).getD j false = false := fun j => by
      simp only [Array.getD_eq_getD_getElem?, Array.getElem?_replicate]
      split <;> rfl
    refine ⟨rfl, rfl, fun _ _ => rfl, fun i o t d hl => ?_, fun k o e hl => ?_, 0, Nat.zero_le _, fun k i _ _ => ?_, hT0⟩
    · rw [hno] at hl; cases hl
    · rw [hno] at hl; cases hl
    · rw [hno]; simp
/-- What an operation is in a region that makes one box. -/
inductive IsOp1 (P : Program) (vals : List (Tmp × Value)) (w : World) (x : Bx) : Nat → Oper → Prop where
  | val {i : Nat} {o : Oper} (t : Tmp) (c : Value) : o.dst = some t → vals.lookup t = some c → (x.slot != t && x.al != i && x.st != i) = true → OpVal P o vals w c → IsOp1 P vals w x i o
  | al {i : Nat} {o : Oper} : x.al = i → o.op = .alloc x.ty → o.dst = some x.slot → IsOp1 P vals w x i o
  | st {i : Nat} {o : Oper} : x.st = i → o.op = .store x.ty (.tmp x.slot) (.tmp x.src) → o.dst = none → IsOp1 P vals w x i o
theorem region_one {P : Program} {ops : Array Oper} {Q : Exit → Act → World → Prop} {id : Nat} {a : Act} {w : World} (hm : P.follows .mixedOrders = true) (hok : regOkB ops = true) (ds : List Tmp) (hds : dstsOf ops = ds) (hlt : (ds.all fun t => decide (t < a.tmps.size)) = true) (hnd : ds.Nodup)
    (vals : List (Tmp × Value)) (x : Bx) (h0 : ∀ p ∈ vals, p.1 ∉ ds → a.tmps.getD p.1 undef = p.2)
    (hx : Boxed P x) (hxs : vals.lookup x.src = some (.agg x.cs)) (hxn : (vals.lookup x.slot).isNone = true) (hne : x.al ≠ x.st)
    (hax : (ops[x.al]?).bind (·.dst) = some x.slot) (hsx : (ops[x.st]?).isSome = true)
    (hops : AllOps (IsOp1 P vals w x) ops.toList 0)
    (hQ : ∀ (vs : Tmp → Value) (W : World) (B1 : Nat), w.grownBy W none → vs x.slot = .pointer (some ⟨B1, 0, none⟩) → w.heap.size ≤ B1 → Blk W B1 x.ty x.cs → (∀ t v, vals.lookup t = some v → t ∈ ds → vs t = v) →
      Q .normal { a with tmps := ds.foldl (fun (ts : Array Value) t => ts.setIfInBounds t (vs t)) a.tmps } W) :
    (Code.region id ops true).wp P Q a w := by
  subst hds
  obtain ⟨oax, hoax, hdax⟩ := Option.bind_eq_some_iff.1 hax
  obtain ⟨osx, hosx⟩ := Option.isSome_iff_exists.1 hsx
  have hu : ∀ (i j : Nat) (oi oj : Oper) (t : Tmp), ops[i]? = some oi → ops[j]? = some oj → oi.dst = some t → oj.dst = some t → i = j := fun i j oi oj t hi hj ei ej =>
    nodup_at hnd (by rw [Array.getElem?_toList]; exact hi) (by rw [Array.getElem?_toList]; exact hj) ei ej
  refine region_boxes hm hok hlt hu vals [x] (fun t v hv ht => h0 (t, v) (lookup_mem hv) ht) (fun i o ho => ?_) (fun z hz => ?_) (fun z hz t c e hl => ?_) (fun z hz u hu' => ?_) (fun vs W hg hv hb hap => ?_)
  · have h := hops.at_ i o (by rw [Array.getElem?_toList]; exact ho)
    rw [Nat.zero_add] at h
    cases h with
    | val t c h1 h2 h3 h4 =>
      simp only [Bool.and_eq_true, bne_iff_ne, ne_eq] at h3
      obtain ⟨⟨a1, a2⟩, a3⟩ := h3
      refine .inl ⟨t, c, h1, h2, fun z hz => ?_, h4⟩
      obtain rfl := List.mem_singleton.1 hz
      exact ⟨a1, a2, a3⟩
    | al h1 h2 h3 => exact .inr (.inl ⟨x, by simp, h1, h2, h3⟩)
    | st h1 h2 h3 => exact .inr (.inr ⟨x, by simp, h1, h2, h3, oax, hoax, hdax⟩)
  · obtain rfl := List.mem_singleton.1 hz
    exact ⟨hx, hxs⟩
  · obtain rfl := List.mem_singleton.1 hz
    rw [e, hl] at hxn; cases hxn
  · obtain rfl := List.mem_singleton.1 hz
    obtain rfl := List.mem_singleton.1 hu'
    exact ⟨fun _ => rfl, fun _ => rfl, fun _ => rfl, hne⟩
  · obtain ⟨B1, e1, w1, k1⟩ := hb x (by simp) ⟨_, hoax⟩ ⟨_, hosx⟩
    exact hQ vs W B1 hg e1 w1 k1 hv
end Go.Proofs.YtoklaajiajilhaaDoor

/- What is known of each two nodes, entry by entry; what single operations of the document's rounds answer. -/
namespace Go.Proofs.YtoklaajiajilhaaDoor
open Go.RowKit

section
variable {vals : List (Tmp × Value)} {w : World} {o : Oper}
theorem ov_nilCheck {t : Tmp} {p : Addr} (ho : o.op = .nilCheck (.tmp t)) (h0 : vals.lookup t = some (.pointer (some p))) : OpVal Tryd.prog o vals w (.pointer (some p)) := fun b' W hg hr => by
  have e0 := hr t _ (by rw [ho]; simp [Op.operands]) h0
  obtain ⟨dst, op, type, pos, after, guard⟩ := o
  dsimp only at ho
  subst ho
  refine .inl ?_
  simp only [execOp, e0]
  go_simp
theorem ov_ix_known {s i : Tmp} {g k : Nat} (ho : o.op = .indexAddr 64 (.tmp s) (.tmp i)) (h0 : vals.lookup s = some (.pointer (some ⟨g, 0, none⟩))) (h1 : vals.lookup i = some (.int .i64 (k : Int))) (hk : k < 128) : OpVal Tryd.prog o vals w (.pointer (some ⟨g, k * 128, none⟩)) := fun b' W hg hr => by
  have e0 := hr s _ (by rw [ho]; simp [Op.operands]) h0
  have e1 := hr i _ (by rw [ho]; simp [Op.operands]) h1
  have hk0 : (0 : Int) ≤ (k : Int) := by omega
  have hk1 : (k : Int) < 128 := by omega
  obtain ⟨dst, op, type, pos, after, guard⟩ := o
  dsimp only at ho
  subst ho
  refine .inl ?_
  simp only [execOp, e0, e1]
  go_simp
theorem ov_ix_bools {s i : Tmp} {g off k : Nat} (ho : o.op = .indexAddr 62 (.tmp s) (.tmp i)) (h0 : vals.lookup s = some (.pointer (some ⟨g, off, none⟩))) (h1 : vals.lookup i = some (.int .i64 (k : Int))) (hk : k < 128) : OpVal Tryd.prog o vals w (.pointer (some ⟨g, off + k, none⟩)) := fun b' W hg hr => by
  have e0 := hr s _ (by rw [ho]; simp [Op.operands]) h0
  have e1 := hr i _ (by rw [ho]; simp [Op.operands]) h1
  have hk0 : (0 : Int) ≤ (k : Int) := by omega
  have hk1 : (k : Int) < 128 := by omega
  obtain ⟨dst, op, type, pos, after, guard⟩ := o
  dsimp only at ho
  subst ho
  refine .inl ?_
  simp only [execOp, e0, e1]
  go_simp
end
theorem wp_store_bool {o : Oper} {b : Act} {W : World} {K : Act → World → Prop} {Q : Exit → Act → World → Prop} {t u : Tmp} {g off : Nat} {c : Bool} {v : Value} (ho : o.op = .store 4 (.tmp t) (.tmp u)) (ht : b.eval (.tmp t) = .pointer (some ⟨g, off, none⟩)) (h : b.eval (.tmp u) = .bool c)
    (c0 : W.cell? ⟨g, off, none⟩ = some v) (f0 : W.frozen? ⟨g, off, none⟩ = false) (hK : K (b.put o.dst undef) (W.setCell ⟨g, off, none⟩ (.bool c))) : o.wp Tryd.prog b W K Q := by
  obtain ⟨dst, op, type, pos, after, guard⟩ := o
  dsimp only at ho
  subst ho
  unfold Oper.wp
  simp only [execOp, h, ht]
  go_simp
  exact hK
/-- A region that reads, asks, and writes one Boolean at its end. -/
theorem region_stored {ops : Array Oper} {Q : Exit → Act → World → Prop} {id : Nat} {a : Act} {w : World} (hm : (Tryd.prog).follows .mixedOrders = true) (made init : List (Tmp × Value)) (m : Nat) (hok : regOkS m (made ++ init) ops = true) (ds : List Tmp) (hds : dstsOf ops = ds) (hlt : (ds.all fun t => decide (t < a.tmps.size)) = true) (hdn : ds.Nodup)
    (hmd : (made.all fun p => ds.contains p.1) = true) (h0 : InitOk a init)
    (hops : AllOps (fun _ o => ∀ t c, o.dst = some t → (made ++ init).lookup t = some c → OpVal Tryd.prog o (made ++ init) w c) ops.toList 0)
    (R : World → Prop) (p q : Tmp) (hst : (ops[m]?).map (·.op) = some (.store 4 (.tmp p) (.tmp q))) {g off : Nat} {c : Bool} (hp : (made ++ init).lookup p = some (.pointer (some ⟨g, off, none⟩))) (hq : (made ++ init).lookup q = some (.bool c))
    (hR : ∀ W, w.grownBy W none → (∃ v, W.cell? ⟨g, off, none⟩ = some v) ∧ W.frozen? ⟨g, off, none⟩ = false ∧ R (W.setCell ⟨g, off, none⟩ (.bool c)))
    (hQ : ∀ (vs : Tmp → Value) (W : World), R W → (∀ t v, (made ++ init).lookup t = some v → t ∈ ds → vs t = v) →
      Q .normal { a with tmps := ds.foldl (fun (ts : Array Value) t => ts.setIfInBounds t (vs t)) a.tmps } W) :
    (Code.region id ops true).wp Tryd.prog Q a w := by
  refine region_stores hm (made ++ init) m hok ds hds hlt hdn (fun p hp hn => by
    rcases List.mem_append.1 hp with hp | hp
    · exact absurd (by simpa using List.all_eq_true.1 hmd p hp) hn
    · exact h0.at_ p hp) hops R (fun o ho b W hg hr => ?_) hQ
  rw [ho] at hst
  have hop : o.op = .store 4 (.tmp p) (.tmp q) := Option.some.inj hst
  have hd : o.dst = none := (regOkS_last hok ho).2.1
  have e1 := hr p _ (by rw [hop]; simp [Op.operands]) hp
  have e2 := hr q _ (by rw [hop]; simp [Op.operands]) hq
  obtain ⟨⟨v, hv⟩, hf, hR⟩ := hR W hg
  exact wp_store_bool hop e1 e2 hv hf ⟨by rw [hd]; rfl, hR⟩

/-- What is known so far, row by row. -/
def upK (K : Nat → Nat → Bool) (i j : Nat) : Nat → Nat → Bool := fun i' j' => decide (i' < i ∨ i' = i ∧ j' < j) && K i' j'
theorem KnO.to {W : World} {g : Nat} {K K' : Nat → Nat → Bool} (h : KnO W g K) (he : ∀ i j, K i j = K' i j) : KnO W g K' := by
  obtain rfl : K = K' := funext fun i => funext fun j => he i j
  exact h
theorem upK_put (K : Nat → Nat → Bool) (i j i' j' : Nat) : putK (upK K i j) i j (K i j) i' j' = upK K i (j + 1) i' j' := by
  unfold putK upK
  by_cases e : i' = i ∧ j' = j
  · obtain ⟨rfl, rfl⟩ := e
    rw [if_pos ⟨rfl, rfl⟩, decide_eq_true (by omega), Bool.true_and]
  · rw [if_neg e]
    by_cases h : i' < i ∨ i' = i ∧ j' < j
    · rw [decide_eq_true h, decide_eq_true (by omega)]
    · rw [decide_eq_false h, decide_eq_false (by omega)]
theorem knownA_out {xs : List Nd} {n : Nat} (hn : xs.length = n) (d : Nat) {i j : Nat} (h : n ≤ i ∨ n ≤ j) : knownA xs d i j = false := by
  have key : ∀ R, nodeK xs R i j = false := fun R => by
    unfold nodeK
    rcases h with h | h
    · rw [List.getElem?_eq_none (by omega : xs.length ≤ i)]
    · rw [List.getElem?_eq_none (by omega : xs.length ≤ j)]
      cases xs[i]? <;> rfl
  cases d <;> exact key _
theorem upK_row {xs : List Nd} {n : Nat} (hn : xs.length = n) (d i i' j' : Nat) : upK (knownA xs d) i n i' j' = upK (knownA xs d) (i + 1) 0 i' j' := by
  unfold upK
  by_cases hj : n ≤ j'
  · rw [knownA_out hn d (.inr hj), Bool.and_false, Bool.and_false]
  · by_cases h : i' < i ∨ i' = i ∧ j' < n
    · rw [decide_eq_true h, decide_eq_true (by omega)]
    · rw [decide_eq_false h, decide_eq_false (by omega)]
theorem upK_all {xs : List Nd} {n : Nat} (hn : xs.length = n) (d i' j' : Nat) : upK (knownA xs d) n 0 i' j' = knownA xs d i' j' := by
  unfold upK
  by_cases hi : n ≤ i'
  · rw [knownA_out hn d (.inl hi), Bool.and_false]
  · rw [decide_eq_true (by omega), Bool.true_and]
theorem upK_zero (K : Nat → Nat → Bool) (i' j' : Nat) : false = upK K 0 0 i' j' := by
  unfold upK
  rw [decide_eq_false (by omega), Bool.false_and]
/-- At first: what two nodes have alike by themselves. -/
theorem known0 {xs : List Nd} {i j : Nat} {x y : Nd} (hi : xs[i]? = some x) (hj : xs[j]? = some y) : knownA xs 0 i j = alikeB x y := by
  unfold knownA nodeK
  rw [hi, hj]
  dsimp only
  rw [Bool.or_true, Bool.and_true, allTwo_true (fun _ _ => rfl)]
  unfold alikeB
  cases actsK x.kind <;> cases decide (x.kind = y.kind) <;> cases decide (x.next.length = y.next.length) <;> cases decide (x.chan = y.chan) <;> rfl
end Go.Proofs.YtoklaajiajilhaaDoor

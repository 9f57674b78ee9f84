/- Texts joined for the claim's sake: CWf, CRfn. -/
import Derived.Test.YtmhbmeckdbdhpaaZSKnwRow12
import Derived.Test.YtmhbmeckdbdhpaaZSKnwRow11
namespace Go.Proofs.Ytmhbmeckdbdhpaa
open Go.RowKit

section
variable {L : List Nd}
theorem root_at {i : Nat} (hL : TW L) (hi : i < L.length) : ∃ (m : Nat) (y : Nd) (s : Int), L[m]? = some y ∧ y.kind ≠ 5 ∧ 0 ≤ s ∧ s ≤ 64000 ∧ rootL L i = m ∧ prioL L i = (if y.kind = 0 then 0 else y.prio + s) ∧ ∀ o, -1000000000 ≤ o → o ≤ 1000000000 → resolveL L ((i : Int), o) = ((m : Int), s + o) := by
  obtain ⟨m, y, s, hy, h5, s0, s1, hr⟩ := hL.root (i : Int) (by omega) (by omega)
  have h0 := hr 0 (by omega) (by omega)
  rw [Int.add_zero] at h0
  have e1 : rootL L i = m := by unfold rootL; rw [h0]; rfl
  exact ⟨m, y, s, hy, h5, s0, s1, e1, by unfold prioL; rw [e1, hy, h0], hr⟩
theorem roots_live (hL : TW L) : ∀ x ∈ rootsL L, liveB L x = true := by
  intro x hx
  unfold rootsL at hx
  obtain ⟨i, hi, rfl⟩ := List.mem_map.1 hx
  obtain ⟨m, y, s, hy, h5, _, _, e1, _⟩ := root_at hL (List.mem_range.1 hi)
  rw [e1]
  exact live_of hy h5
theorem cls_num (hL : TW L) : Cls (fun a b => apL L a b = false) (rootsL L) (numL L).1 (numL L).2 :=
  cls_of (D := fun a => liveB L a = true) (apL_alike _) _ _ rfl (roots_live hL)
theorem roots_len (L : List Nd) : (rootsL L).length = L.length := by unfold rootsL; simp
theorem num_len (hL : TW L) : (numL L).2.length = L.length := (cls_num hL).len.trans (roots_len L)
theorem root_get (L : List Nd) {i : Nat} (hi : i < L.length) : (rootsL L)[i]? = some (rootL L i) := by unfold rootsL; simp [hi]
theorem cls_le (A : Nat → Nat → Bool) : ∀ (rs : List Nat) (p : List Nat × List Nat), (rs.foldl (clsStep A) p).1.length ≤ p.1.length + rs.length
  | [], p => by simp
  | x :: rs, p => by
    have h := cls_le A rs (clsStep A p x)
    have h1 : (clsStep A p x).1.length ≤ p.1.length + 1 := by
      unfold clsStep
      split
      · simp
      · dsimp only; omega
    rw [List.foldl_cons, List.length_cons]
    omega
theorem first_le (L : List Nd) : (numL L).1.length ≤ L.length := by
  have h := cls_le (apL L) (rootsL L) ([], [])
  rw [roots_len, List.length_nil, Nat.zero_add] at h
  exact h
theorem num_lt (hL : TW L) (h0 : 0 < L.length) (j : Nat) : (numL L).2.getD j 0 < (numL L).1.length := by
  have h := cls_num hL
  rw [List.getD_eq_getElem?_getD]
  cases hj : (numL L).2[j]? with
  | some c => exact h.lt hj
  | none =>
    obtain ⟨c, hc⟩ : ∃ c, (numL L).2[0]? = some c := ⟨_, List.getElem?_eq_getElem (by rw [num_len hL]; exact h0)⟩
    have := h.lt hc
    show 0 < _
    omega
end
theorem wf_clsT (xs : List Nd) : Wf (clsT xs) := by
  unfold clsT
  by_cases h0 : (orderL xs).2 = 0
  · rw [if_pos h0]
    have hK := (ord_of h0).ok
    have hL := tw_two hK
    have hlen := twoL_len xs
    have hpos := hK.pos
    have hle := hK.le
    generalize twoL xs = L at *
    have hp : 0 < L.length := by omega
    have hf := first_le L
    have hcl : ∀ x ∈ (numL L).1.map (clsN L xs.length (numL L).2), (x.next = [] ∧ x.chan = false) ∨ ∃ y, y ∈ L ∧ x.next = y.next.map (linkL L (numL L).2 y) ∧ x.chan = y.chan ∧ (y.chan = true → x.pay = linkL L (numL L).2 y y.pay) := by
      intro x hx
      obtain ⟨m, _, rfl⟩ := List.mem_map.1 hx
      unfold clsN
      cases hm : L[m]? with
      | none => exact .inl ⟨rfl, rfl⟩
      | some y => exact .inr ⟨y, List.mem_of_getElem? hm, rfl, rfl, fun e => if_pos e⟩
    have hlk : ∀ y e, 0 ≤ (linkL L (numL L).2 y e).1 ∧ (linkL L (numL L).2 y e).1 < (((numL L).1.map (clsN L xs.length (numL L).2)).length : Int) := fun y e => by
      rw [List.length_map]
      unfold linkL
      dsimp only
      have := num_lt hL hp (placeL L y e).1
      omega
    refine ⟨?_, ?_, ?_, ?_, ?_, ?_, ?_⟩
    · dsimp only; rw [List.length_map, List.length_map, List.length_range, num_len hL]
    · intro c hc
      dsimp only at hc ⊢
      obtain ⟨d, hd, rfl⟩ := List.mem_map.1 hc
      obtain ⟨i, hi⟩ := List.mem_iff_getElem?.1 hd
      have := (cls_num hL).lt hi
      rw [List.length_map]
      show 0 ≤ (d : Int) ∧ (d : Int) < _
      omega
    · intro x hx e he
      rcases hcl x hx with ⟨h1, _⟩ | ⟨y, _, h1, _⟩
      · rw [h1] at he; cases he
      · rw [h1] at he
        obtain ⟨f, _, rfl⟩ := List.mem_map.1 he
        exact hlk y f
    · intro x hx hc
      rcases hcl x hx with ⟨_, h1⟩ | ⟨y, _, _, h1, h2⟩
      · rw [h1] at hc; cases hc
      · rw [h2 (by rw [← h1]; exact hc)]
        exact hlk y y.pay
    · dsimp only; rw [List.length_map]; omega
    · dsimp only; rw [List.length_map, num_len hL]; omega
    · intro x hx
      rcases hcl x hx with ⟨h1, _⟩ | ⟨y, hy, h1, _⟩
      · rw [h1]; simp
      · rw [h1, List.length_map]
        have := (hL.good y hy).2.2
        omega
  · rw [if_neg h0]
    exact ⟨rfl, fun c h => (by cases h), fun x h => (by cases h), fun x h => (by cases h), by simp, by simp, fun x h => (by cases h)⟩
end Go.Proofs.Ytmhbmeckdbdhpaa

namespace Go.Proofs.Ytmhbmeckdbdhpaa
open Go.RowKit

/-! ### Numbers hang on what is told apart alone -/
theorem last_congr {A B : Nat → Nat → Bool} {fs : List Nat} {x : Nat} : ∀ j, (∀ k, k < j → A (fs.getD k 0) x = B (fs.getD k 0) x) → lastLike A fs x j = lastLike B fs x j
  | 0, _ => rfl
  | j + 1, h => by
    unfold lastLike
    rw [h j (by omega), last_congr j fun k hk => h k (by omega)]
theorem clsL_congr {A B : Nat → Nat → Bool} {D : Nat → Prop} (h : ∀ a b, D a → D b → A a b = B a b) : ∀ (n : Nat) (rs : List Nat), rs.length = n → (∀ x ∈ rs, D x) → clsL A rs = clsL B rs ∧ ∀ y ∈ (clsL A rs).1, D y
  | 0, rs, hn, _ => by
    obtain rfl := List.eq_nil_of_length_eq_zero hn
    exact ⟨rfl, fun y hy => by simp [clsL] at hy⟩
  | n + 1, rs, hn, hD => by
    obtain ⟨l, x, rfl⟩ : ∃ l x, rs = l ++ [x] := by
      have hne : rs ≠ [] := fun e => by rw [e] at hn; simp at hn
      exact ⟨rs.dropLast, rs.getLast hne, (List.dropLast_concat_getLast hne).symm⟩
    have hl : l.length = n := by simpa using hn
    have hDx : D x := hD x (by simp)
    obtain ⟨ih, ihD⟩ := clsL_congr h n l hl fun y hy => hD y (by simp [hy])
    rw [clsL_snoc, clsL_snoc, ← ih]
    generalize clsL A l = p at ihD ⊢
    have hj : lastLike A p.1 x p.1.length = lastLike B p.1 x p.1.length := last_congr _ fun k hk => by
      rw [List.getD_eq_getElem?_getD, List.getElem?_eq_getElem hk]
      exact h _ _ (ihD _ (List.getElem_mem hk)) hDx
    refine ⟨by unfold clsStep; rw [hj], fun y hy => ?_⟩
    unfold clsStep at hy
    split at hy
    · rcases List.mem_append.1 hy with hy | hy
      · exact ihD y hy
      · obtain rfl := List.mem_singleton.1 hy; exact hDx
    · exact ihD y hy
theorem step_new {A : Nat → Nat → Bool} {fs os : List Nat} {x : Nat} (h : ∀ (c y : Nat), fs[c]? = some y → A y x = true) : clsStep A (fs, os) x = (fs ++ [x], os ++ [fs.length]) := by
  unfold clsStep
  dsimp only
  rcases last_cases A fs x fs.length with ⟨h1, _⟩ | ⟨k, _, h2, h3⟩
  · rw [h1, if_pos (by decide)]
  · obtain ⟨y, hy⟩ : ∃ y, fs[k]? = some y := ⟨_, List.getElem?_eq_getElem h2⟩
    rw [List.getD_eq_getElem?_getD, hy] at h3
    have := h k y hy
    rw [Option.getD_some] at h3
    rw [h3] at this
    cases this
theorem step_old {A : Nat → Nat → Bool} {fs os : List Nat} {x c y : Nat} (hc : fs[c]? = some y) (hA : A y x = false) (hu : ∀ (d z : Nat), fs[d]? = some z → A z x = false → d = c) : clsStep A (fs, os) x = (fs, os ++ [c]) := by
  unfold clsStep
  dsimp only
  rcases last_cases A fs x fs.length with ⟨_, h2⟩ | ⟨k, h1, h2, h3⟩
  · have := h2 c (List.getElem?_eq_some_iff.1 hc).1
    rw [List.getD_eq_getElem?_getD, hc, Option.getD_some, hA] at this
    cases this
  · obtain ⟨z, hz⟩ : ∃ z, fs[k]? = some z := ⟨_, List.getElem?_eq_getElem h2⟩
    rw [List.getD_eq_getElem?_getD, hz, Option.getD_some] at h3
    obtain rfl := hu k z hz h3
    rw [h1, if_neg (by omega), Int.toNat_natCast]

/-! ### Rounds -/
def apK (L : List Nd) (k : Nat) (a b : Nat) : Bool := aptK (hdL L) (scL L) k a b
def ofK (L : List Nd) (k : Nat) : List Nat := (clsL (apK L k) (rootsL L)).2
def fsK (L : List Nd) (k : Nat) : List Nat := (clsL (apK L k) (rootsL L)).1
/-- What is known of a node that is no alias, by the classes so far. -/
def knN (L : List Nd) (os : List Nat) (m : Nat) : Nd := match L[m]? with
  | some x => ⟨x.kind, 0, x.chan, if x.chan then linkL L os x x.pay else (0, 0), x.next.map (linkL L os x)⟩
  | none => ⟨0, 0, false, (0, 0), []⟩
section
variable {L : List Nd}
theorem apK_alike (k : Nat) (D : Nat → Prop) : Alike (fun a b => apK L k a b = false) D :=
  ⟨fun a _ => aptK_refl _ a, fun _ _ _ _ h => likeK_symm h, fun _ _ _ _ _ _ h1 h2 => likeK_trans (hd_len L) h1 h2⟩
theorem clsK (hL : TW L) (k : Nat) : Cls (fun a b => apK L k a b = false) (rootsL L) (fsK L k) (ofK L k) :=
  cls_of (D := fun a => liveB L a = true) (apK_alike k _) _ _ rfl (roots_live hL)
theorem ofK_len (hL : TW L) (k : Nat) : (ofK L k).length = L.length := (clsK hL k).len.trans (roots_len L)
/-- A node that is no alias is what it comes to. -/
theorem root_self (hL : TW L) {a : Nat} (ha : liveB L a = true) : (rootsL L)[a]? = some a := by
  obtain ⟨x, hx, h5⟩ := live_some ha
  rw [root_get L (live_lt ha)]
  unfold rootL
  rw [hL.self a x 0 hx h5]
  rfl
theorem ofK_like (hL : TW L) {k a b : Nat} (ha : liveB L a = true) (hb : liveB L b = true) : (ofK L k).getD a 0 = (ofK L k).getD b 0 ↔ apK L k a b = false := by
  obtain ⟨c, hc⟩ : ∃ c, (ofK L k)[a]? = some c := ⟨_, List.getElem?_eq_getElem (by rw [ofK_len hL]; exact live_lt ha)⟩
  obtain ⟨d, hd⟩ : ∃ d, (ofK L k)[b]? = some d := ⟨_, List.getElem?_eq_getElem (by rw [ofK_len hL]; exact live_lt hb)⟩
  rw [List.getD_eq_getElem?_getD, List.getD_eq_getElem?_getD, hc, hd]
  exact (clsK hL k).iff (apK_alike k (fun a => liveB L a = true)) (roots_live hL) (root_self hL ha) (root_self hL hb) hc hd
theorem ofK_root (hL : TW L) {k i : Nat} (hi : i < L.length) : (ofK L k).getD (rootL L i) 0 = (ofK L k).getD i 0 := by
  have hr : liveB L (rootL L i) = true := roots_live hL _ (List.mem_of_getElem? (root_get L hi))
  obtain ⟨c, hc⟩ : ∃ c, (ofK L k)[i]? = some c := ⟨_, List.getElem?_eq_getElem (by rw [ofK_len hL]; exact hi)⟩
  obtain ⟨d, hd⟩ : ∃ d, (ofK L k)[rootL L i]? = some d := ⟨_, List.getElem?_eq_getElem (by rw [ofK_len hL]; exact live_lt hr)⟩
  rw [List.getD_eq_getElem?_getD, List.getD_eq_getElem?_getD, hc, hd]
  exact ((clsK hL k).iff (apK_alike k (fun a => liveB L a = true)) (roots_live hL) (root_self hL hr) (root_get L hi) hd hc).2 (aptK_refl _ _)
theorem ofK_0 (hL : TW L) : ofK L 0 = List.replicate L.length 0 := by
  refine ((clsK hL 0).uniq (apK_alike 0 (fun a => liveB L a = true)) (roots_live hL) (by rw [List.length_replicate, roots_len]) (fun i j x y c d _ _ hc hd => ?_) (fun i c hc d hd => ?_)).symm
  · rw [List.getElem?_replicate] at hc hd
    split at hc
    · split at hd
      · cases hc; cases hd
        exact ⟨fun _ => rfl, fun _ => rfl⟩
      · cases hd
    · cases hc
  · rw [List.getElem?_replicate] at hc
    split at hc
    · cases hc; omega
    · cases hc
theorem zip_parts_no {l k : List (Nat × Int)} (h : l.length = k.length) {M : Nat → Nat → Bool} {f : Nat → Nat} (hM : ∀ p ∈ l, ∀ q ∈ k, f p.1 = f q.1 ↔ M p.1 q.1 = false) :
    ((l.zip k).any fun p => M p.1.1 p.2.1 || !decide (p.1.2 = p.2.2)) = false ↔ l.map (fun p => (f p.1, p.2)) = k.map (fun p => (f p.1, p.2)) := by
  induction l generalizing k with
  | nil =>
    obtain rfl : k = [] := List.eq_nil_of_length_eq_zero h.symm
    simp
  | cons p l ih =>
    cases k with
    | nil => cases h
    | cons q k =>
      have h1 := ih (k := k) (by simpa using h) (fun a ha b hb => hM a (by simp [ha]) b (by simp [hb]))
      have h2 := hM p (by simp) q (by simp)
      rw [List.zip_cons_cons, List.any_cons, List.map_cons, List.map_cons, Bool.or_eq_false_iff, Bool.or_eq_false_iff, h1, ← h2, List.cons.injEq, Prod.mk.injEq]
      simp only [Bool.not_eq_false', decide_eq_true_eq]
theorem sc_live (hL : TW L) {a : Nat} {p : Nat × Int} (hp : p ∈ scL L a) : liveB L p.1 = true := by
  obtain ⟨j, hj⟩ := List.mem_iff_getElem?.1 hp
  exact hL.closed a j p.1 p.2 hj
/-- What is known is the same just if they are not told apart a step further. -/
theorem kn_iff (hL : TW L) {k a b : Nat} (ha : liveB L a = true) (hb : liveB L b = true) : knN L (ofK L k) a = knN L (ofK L k) b ↔ apK L (k + 1) a b = false := by
  obtain ⟨x, hx, _⟩ := live_some ha
  obtain ⟨y, hy, _⟩ := live_some hb
  have hk : apK L (k + 1) a b = unl (hdL L) (scL L) (apK L k) a b := rfl
  rw [hk]
  unfold unl
  rw [Bool.or_eq_false_iff]
  simp only [Bool.not_eq_false', decide_eq_true_eq]
  have hlinks : ∀ {z : Nd} {c : Nat}, L[c]? = some z → (scL L c).map (fun p => ((ofK L k).getD p.1 0, p.2)) = (allE z).map (fun e => ((ofK L k).getD (placeL L z e).1 0, (placeL L z e).2)) := fun {z c} hz => by
    unfold scL
    rw [hz]
    dsimp only
    rw [List.map_map]; rfl
  have hd : hdL L a = hdL L b ↔ x.kind = y.kind ∧ x.chan = y.chan ∧ x.next.length = y.next.length := by
    unfold hdL
    rw [hx, hy]
    simp only [Prod.mk.injEq]
  have inj : ∀ {l m : List (Nat × Int)}, l.map (fun p => ((p.1 : Int), p.2)) = m.map (fun p => ((p.1 : Int), p.2)) ↔ l = m := fun {l m} => by
    refine ⟨fun h => ?_, fun h => by rw [h]⟩
    refine (List.map_inj_right (f := fun p : Nat × Int => ((p.1 : Int), p.2)) (fun p q e => ?_)).1 h
    obtain ⟨p1, p2⟩ := p
    obtain ⟨q1, q2⟩ := q
    simp only [Prod.mk.injEq] at e ⊢
    exact ⟨by omega, e.2⟩
  have hkn : knN L (ofK L k) a = knN L (ofK L k) b ↔ (x.kind = y.kind ∧ x.chan = y.chan ∧ x.next.length = y.next.length) ∧ (scL L a).map (fun p => ((ofK L k).getD p.1 0, p.2)) = (scL L b).map (fun p => ((ofK L k).getD p.1 0, p.2)) := by
    rw [hlinks hx, hlinks hy, ← inj, List.map_map, List.map_map]
    unfold knN
    rw [hx, hy]
    have e1 : ∀ z : Nd, ((fun p : Nat × Int => ((p.1 : Int), p.2)) ∘ fun e => ((ofK L k).getD (placeL L z e).1 0, (placeL L z e).2)) = linkL L (ofK L k) z := fun z => rfl
    rw [e1, e1]
    simp only [Nd.mk.injEq, true_and]
    unfold allE
    constructor
    · rintro ⟨h1, h2, h3, h4⟩
      have hl : x.next.length = y.next.length := by have := congrArg List.length h4; simpa using this
      refine ⟨⟨h1, h2, hl⟩, ?_⟩
      rw [List.map_append, List.map_append, h4]
      cases hc : x.chan
      · rw [← h2, hc]; rfl
      · rw [← h2, hc] at h3 ⊢
        simp only [if_true] at h3 ⊢
        simp [h3]
    · rintro ⟨⟨h1, h2, h3⟩, h4⟩
      rw [List.map_append, List.map_append] at h4
      have h5 := List.append_inj h4 (by simp [h3])
      refine ⟨h1, h2, ?_, h5.1⟩
      have h6 := h5.2
      cases hc : x.chan
      · rw [← h2, hc]; rfl
      · rw [← h2, hc] at h6 ⊢
        simpa using h6
  rw [hkn, ← hd]
  constructor
  · rintro ⟨h1, h2⟩
    exact ⟨h1, (zip_parts_no (f := fun m => (ofK L k).getD m 0) (hd_len L a b h1) fun p hp q hq => ofK_like hL (sc_live hL hp) (sc_live hL hq)).2 h2⟩
  · rintro ⟨h1, h2⟩
    exact ⟨h1, (zip_parts_no (f := fun m => (ofK L k).getD m 0) (hd_len L a b h1) fun p hp q hq => ofK_like hL (sc_live hL hp) (sc_live hL hq)).1 h2⟩

/-! ### The last round -/
theorem apK_full (hL : TW L) {k a b : Nat} (hk : L.length ≤ k) (ha : liveB L a = true) (hb : liveB L b = true) : apK L k a b = apL L a b := by
  cases h : apL L a b
  · cases h2 : apK L k a b
    · rfl
    · have := (apL_iff hL ha hb).2 (aptK_apt k a b h2)
      rw [h] at this; cases this
  · exact aptK_le hk h
theorem ofK_full (hL : TW L) {k : Nat} (hk : L.length ≤ k) : clsL (apK L k) (rootsL L) = numL L :=
  (clsL_congr (D := fun a => liveB L a = true) (fun _ _ ha hb => apK_full hL hk ha hb) _ _ rfl (roots_live hL)).1
/-- As long as more comes of it, there are more nodes than rounds. -/
theorem more_lt (hL : TW L) {k : Nat} (h : ofK L (k + 1) ≠ ofK L k) : k < L.length := by
  rcases Nat.lt_or_ge k L.length with h1 | h1
  · exact h1
  · refine absurd ?_ h
    unfold ofK
    rw [ofK_full hL h1, ofK_full hL (Nat.le_succ_of_le h1)]
theorem stays_like (hL : TW L) {k : Nat} (h : ofK L (k + 1) = ofK L k) {a b : Nat} (ha : liveB L a = true) (hb : liveB L b = true) : apK L (k + 1) a b = apK L k a b := by
  have h1 := ofK_like hL (k := k) ha hb
  have h2 := ofK_like hL (k := k + 1) ha hb
  rw [h] at h2
  have h3 := h2.symm.trans h1
  cases e1 : apK L (k + 1) a b
  · exact (h3.1 e1).symm
  · cases e2 : apK L k a b
    · rw [h3.2 e2] at e1; cases e1
    · rfl
theorem unl_on (hL : TW L) {M K : Nat → Nat → Bool} (hMK : ∀ a b, liveB L a = true → liveB L b = true → M a b = K a b) {a b : Nat} : unl (hdL L) (scL L) M a b = unl (hdL L) (scL L) K a b := by
  unfold unl
  congr 1
  rw [Bool.eq_iff_iff, List.any_eq_true, List.any_eq_true]
  have key : ∀ p ∈ (scL L a).zip (scL L b), M p.1.1 p.2.1 = K p.1.1 p.2.1 := fun p hp => by
    obtain ⟨j, h1, h2⟩ := zip_mem hp
    exact hMK _ _ (sc_live hL (List.mem_of_getElem? h1)) (sc_live hL (List.mem_of_getElem? h2))
  constructor
  · rintro ⟨p, hp, h⟩
    exact ⟨p, hp, by rw [← key p hp]; exact h⟩
  · rintro ⟨p, hp, h⟩
    exact ⟨p, hp, by rw [key p hp]; exact h⟩
theorem stays_on (hL : TW L) {k : Nat} (h : ofK L (k + 1) = ofK L k) : ∀ (j : Nat) {a b : Nat}, liveB L a = true → liveB L b = true → apK L (k + j) a b = apK L k a b
  | 0, _, _, _, _ => rfl
  | j + 1, a, b, ha, hb => by
    rw [← stays_like hL h ha hb]
    exact unl_on hL fun _ _ ha hb => stays_on hL h j ha hb
/-- Behind the last round: what is found are the classes. -/
theorem num_stop (hL : TW L) {k : Nat} (h : ofK L (k + 1) = ofK L k) : ofK L k = (numL L).2 ∧ fsK L (k + 1) = (numL L).1 := by
  have h1 : ∀ a b, liveB L a = true → liveB L b = true → apK L (k + 1) a b = apL L a b := fun a b ha hb => by
    rw [stays_like hL h ha hb, ← stays_on hL h L.length ha hb]
    exact apK_full hL (by omega) ha hb
  have h2 : clsL (apK L (k + 1)) (rootsL L) = numL L := (clsL_congr (D := fun a => liveB L a = true) h1 _ _ rfl (roots_live hL)).1
  refine ⟨?_, ?_⟩
  · rw [← h]; unfold ofK; rw [h2]
  · unfold fsK; rw [h2]
end
end Go.Proofs.Ytmhbmeckdbdhpaa

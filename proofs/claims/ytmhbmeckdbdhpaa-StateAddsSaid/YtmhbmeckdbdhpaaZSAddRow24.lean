/- Texts joined for the claim's sake: CRfn, CKey. -/
import Derived.Test.YtmhbmeckdbdhpaaZSAddRow17
import Derived.Test.YtmhbmeckdbdhpaaZSAddRow11
import Derived.Maps.OwnIn
import Derived.DeepKeys4
namespace Go.Proofs.Ytmhbmeckdbdhpaa
open Go.RowKit

/-! ### Numbers hang on what is told apart alone -/
theorem last_congr {A B : Nat → Nat → Bool} {fs : List Nat} {x : Nat} : ∀ j, (∀ k, k < j → A (fs.getD k 0) x = B (fs.getD k 0) x) → lastLike A fs x j = lastLike B fs x j
  | 0, _ => rfl
  | j + 1, h => by
    unfold lastLike
    rw [h j (by omega), last_congr j fun k hk => h k (by omega)]
theorem clsL_congr {A B : Nat → Nat → Bool} {D : Nat → Prop} (h : ∀ a b, D a → D b → A a b = B a b) : ∀ (n : Nat) (rs : List Nat), rs.length = n → (∀ x ∈ rs, D x) → clsL A rs = clsL B rs ∧ ∀ y ∈ (clsL A rs).1, D y
  | 0, rs, hn, _ => by
    obtain rfl := List.eq_nil_of_length_eq_zero hn
    exact ⟨rfl, fun y hy => by simp [clsL] at hy⟩
  | n + 1, rs, hn, hD => by
    obtain ⟨l, x, rfl⟩ : ∃ l x, rs = l ++ [x] := by
      have hne : rs ≠ [] := fun e => by rw [e] at hn; simp at hn
      exact ⟨rs.dropLast, rs.getLast hne, (List.dropLast_concat_getLast hne).symm⟩
    have hl : l.length = n := by simpa using hn
    have hDx : D x := hD x (by simp)
    obtain ⟨ih, ihD⟩ := clsL_congr h n l hl fun y hy => hD y (by simp [hy])
    rw [clsL_snoc, clsL_snoc, ← ih]
    generalize clsL A l = p at ihD ⊢
    have hj : lastLike A p.1 x p.1.length = lastLike B p.1 x p.1.length := last_congr _ fun k hk => by
      rw [List.getD_eq_getElem?_getD, List.getElem?_eq_getElem hk]
      exact h _ _ (ihD _ (List.getElem_mem hk)) hDx
    refine ⟨by unfold clsStep; rw [hj], fun y hy => ?_⟩
    unfold clsStep at hy
    split at hy
    · rcases List.mem_append.1 hy with hy | hy
      · exact ihD y hy
      · obtain rfl := List.mem_singleton.1 hy; exact hDx
    · exact ihD y hy
theorem step_new {A : Nat → Nat → Bool} {fs os : List Nat} {x : Nat} (h : ∀ (c y : Nat), fs[c]? = some y → A y x = true) : clsStep A (fs, os) x = (fs ++ [x], os ++ [fs.length]) := by
  unfold clsStep
  dsimp only
  rcases last_cases A fs x fs.length with ⟨h1, _⟩ | ⟨k, _, h2, h3⟩
  · rw [h1, if_pos (by decide)]
  · obtain ⟨y, hy⟩ : ∃ y, fs[k]? = some y := ⟨_, List.getElem?_eq_getElem h2⟩
    rw [List.getD_eq_getElem?_getD, hy] at h3
    have := h k y hy
    rw [Option.getD_some] at h3
    rw [h3] at this
    cases this
theorem step_old {A : Nat → Nat → Bool} {fs os : List Nat} {x c y : Nat} (hc : fs[c]? = some y) (hA : A y x = false) (hu : ∀ (d z : Nat), fs[d]? = some z → A z x = false → d = c) : clsStep A (fs, os) x = (fs, os ++ [c]) := by
  unfold clsStep
  dsimp only
  rcases last_cases A fs x fs.length with ⟨_, h2⟩ | ⟨k, h1, h2, h3⟩
  · have := h2 c (List.getElem?_eq_some_iff.1 hc).1
    rw [List.getD_eq_getElem?_getD, hc, Option.getD_some, hA] at this
    cases this
  · obtain ⟨z, hz⟩ : ∃ z, fs[k]? = some z := ⟨_, List.getElem?_eq_getElem h2⟩
    rw [List.getD_eq_getElem?_getD, hz, Option.getD_some] at h3
    obtain rfl := hu k z hz h3
    rw [h1, if_neg (by omega), Int.toNat_natCast]

/-! ### Rounds -/
def apK (L : List Nd) (k : Nat) (a b : Nat) : Bool := aptK (hdL L) (scL L) k a b
def ofK (L : List Nd) (k : Nat) : List Nat := (clsL (apK L k) (rootsL L)).2
def fsK (L : List Nd) (k : Nat) : List Nat := (clsL (apK L k) (rootsL L)).1
/-- What is known of a node that is no alias, by the classes so far. -/
def knN (L : List Nd) (os : List Nat) (m : Nat) : Nd := match L[m]? with
  | some x => ⟨x.kind, 0, x.chan, if x.chan then linkL L os x x.pay else (0, 0), x.next.map (linkL L os x)⟩
  | none => ⟨0, 0, false, (0, 0), []⟩
section
variable {L : List Nd}
theorem apK_alike (k : Nat) (D : Nat → Prop) : Alike (fun a b => apK L k a b = false) D :=
  ⟨fun a _ => aptK_refl _ a, fun _ _ _ _ h => likeK_symm h, fun _ _ _ _ _ _ h1 h2 => likeK_trans (hd_len L) h1 h2⟩
theorem clsK (hL : TW L) (k : Nat) : Cls (fun a b => apK L k a b = false) (rootsL L) (fsK L k) (ofK L k) :=
  cls_of (D := fun a => liveB L a = true) (apK_alike k _) _ _ rfl (roots_live hL)
theorem ofK_len (hL : TW L) (k : Nat) : (ofK L k).length = L.length := (clsK hL k).len.trans (roots_len L)
/-- A node that is no alias is what it comes to. -/
theorem root_self (hL : TW L) {a : Nat} (ha : liveB L a = true) : (rootsL L)[a]? = some a := by
  obtain ⟨x, hx, h5⟩ := live_some ha
  rw [root_get L (live_lt ha)]
  unfold rootL
  rw [hL.self a x 0 hx h5]
  rfl
theorem ofK_like (hL : TW L) {k a b : Nat} (ha : liveB L a = true) (hb : liveB L b = true) : (ofK L k).getD a 0 = (ofK L k).getD b 0 ↔ apK L k a b = false := by
  obtain ⟨c, hc⟩ : ∃ c, (ofK L k)[a]? = some c := ⟨_, List.getElem?_eq_getElem (by rw [ofK_len hL]; exact live_lt ha)⟩
  obtain ⟨d, hd⟩ : ∃ d, (ofK L k)[b]? = some d := ⟨_, List.getElem?_eq_getElem (by rw [ofK_len hL]; exact live_lt hb)⟩
  rw [List.getD_eq_getElem?_getD, List.getD_eq_getElem?_getD, hc, hd]
  exact (clsK hL k).iff (apK_alike k (fun a => liveB L a = true)) (roots_live hL) (root_self hL ha) (root_self hL hb) hc hd
theorem ofK_root (hL : TW L) {k i : Nat} (hi : i < L.length) : (ofK L k).getD (rootL L i) 0 = (ofK L k).getD i 0 := by
  have hr : liveB L (rootL L i) = true := roots_live hL _ (List.mem_of_getElem? (root_get L hi))
  obtain ⟨c, hc⟩ : ∃ c, (ofK L k)[i]? = some c := ⟨_, List.getElem?_eq_getElem (by rw [ofK_len hL]; exact hi)⟩
  obtain ⟨d, hd⟩ : ∃ d, (ofK L k)[rootL L i]? = some d := ⟨_, List.getElem?_eq_getElem (by rw [ofK_len hL]; exact live_lt hr)⟩
  rw [List.getD_eq_getElem?_getD, List.getD_eq_getElem?_getD, hc, hd]
  exact ((clsK hL k).iff (apK_alike k (fun a => liveB L a = true)) (roots_live hL) (root_self hL hr) (root_get L hi) hd hc).2 (aptK_refl _ _)
theorem ofK_0 (hL : TW L) : ofK L 0 = List.replicate L.length 0 := by
  refine ((clsK hL 0).uniq (apK_alike 0 (fun a => liveB L a = true)) (roots_live hL) (by rw [List.length_replicate, roots_len]) (fun i j x y c d _ _ hc hd => ?_) (fun i c hc d hd => ?_)).symm
  · rw [List.getElem?_replicate] at hc hd
    split at hc
    · split at hd
      · cases hc; cases hd
        exact ⟨fun _ => rfl, fun _ => rfl⟩
      · cases hd
    · cases hc
  · rw [List.getElem?_replicate] at hc
    split at hc
    · cases hc; omega
    · cases hc
theorem zip_parts_no {l k : List (Nat × Int)} (h : l.length = k.length) {M : Nat → Nat → Bool} {f : Nat → Nat} (hM : ∀ p ∈ l, ∀ q ∈ k, f p.1 = f q.1 ↔ M p.1 q.1 = false) :
    ((l.zip k).any fun p => M p.1.1 p.2.1 || !decide (p.1.2 = p.2.2)) = false ↔ l.map (fun p => (f p.1, p.2)) = k.map (fun p => (f p.1, p.2)) := by
  induction l generalizing k with
  | nil =>
    obtain rfl : k = [] := List.eq_nil_of_length_eq_zero h.symm
    simp
  | cons p l ih =>
    cases k with
    | nil => cases h
    | cons q k =>
      have h1 := ih (k := k) (by simpa using h) (fun a ha b hb => hM a (by simp [ha]) b (by simp [hb]))
      have h2 := hM p (by simp) q (by simp)
      rw [List.zip_cons_cons, List.any_cons, List.map_cons, List.map_cons, Bool.or_eq_false_iff, Bool.or_eq_false_iff, h1, ← h2, List.cons.injEq, Prod.mk.injEq]
      simp only [Bool.not_eq_false', decide_eq_true_eq]
theorem sc_live (hL : TW L) {a : Nat} {p : Nat × Int} (hp : p ∈ scL L a) : liveB L p.1 = true := by
  obtain ⟨j, hj⟩ := List.mem_iff_getElem?.1 hp
  exact hL.closed a j p.1 p.2 hj
/-- What is known is the same just if they are not told apart a step further. -/
theorem kn_iff (hL : TW L) {k a b : Nat} (ha : liveB L a = true) (hb : liveB L b = true) : knN L (ofK L k) a = knN L (ofK L k) b ↔ apK L (k + 1) a b = false := by
  obtain ⟨x, hx, _⟩ := live_some ha
  obtain ⟨y, hy, _⟩ := live_some hb
  have hk : apK L (k + 1) a b = unl (hdL L) (scL L) (apK L k) a b := rfl
  rw [hk]
  unfold unl
  rw [Bool.or_eq_false_iff]
  simp only [Bool.not_eq_false', decide_eq_true_eq]
  have hlinks : ∀ {z : Nd} {c : Nat}, L[c]? = some z → (scL L c).map (fun p => ((ofK L k).getD p.1 0, p.2)) = (allE z).map (fun e => ((ofK L k).getD (placeL L z e).1 0, (placeL L z e).2)) := fun {z c} hz => by
    unfold scL
    rw [hz]
    dsimp only
    rw [List.map_map]; rfl
  have hd : hdL L a = hdL L b ↔ x.kind = y.kind ∧ x.chan = y.chan ∧ x.next.length = y.next.length := by
    unfold hdL
    rw [hx, hy]
    simp only [Prod.mk.injEq]
  have inj : ∀ {l m : List (Nat × Int)}, l.map (fun p => ((p.1 : Int), p.2)) = m.map (fun p => ((p.1 : Int), p.2)) ↔ l = m := fun {l m} => by
    refine ⟨fun h => ?_, fun h => by rw [h]⟩
    refine (List.map_inj_right (f := fun p : Nat × Int => ((p.1 : Int), p.2)) (fun p q e => ?_)).1 h
    obtain ⟨p1, p2⟩ := p
    obtain ⟨q1, q2⟩ := q
    simp only [Prod.mk.injEq] at e ⊢
    exact ⟨by omega, e.2⟩
  have hkn : knN L (ofK L k) a = knN L (ofK L k) b ↔ (x.kind = y.kind ∧ x.chan = y.chan ∧ x.next.length = y.next.length) ∧ (scL L a).map (fun p => ((ofK L k).getD p.1 0, p.2)) = (scL L b).map (fun p => ((ofK L k).getD p.1 0, p.2)) := by
    rw [hlinks hx, hlinks hy, ← inj, List.map_map, List.map_map]
    unfold knN
    rw [hx, hy]
    have e1 : ∀ z : Nd, ((fun p : Nat × Int => ((p.1 : Int), p.2)) ∘ fun e => ((ofK L k).getD (placeL L z e).1 0, (placeL L z e).2)) = linkL L (ofK L k) z := fun z => rfl
    rw [e1, e1]
    simp only [Nd.mk.injEq, true_and]
    unfold allE
    constructor
    · rintro ⟨h1, h2, h3, h4⟩
      have hl : x.next.length = y.next.length := by have := congrArg List.length h4; simpa using this
      refine ⟨⟨h1, h2, hl⟩, ?_⟩
      rw [List.map_append, List.map_append, h4]
      cases hc : x.chan
      · rw [← h2, hc]; rfl
      · rw [← h2, hc] at h3 ⊢
        simp only [if_true] at h3 ⊢
        simp [h3]
    · rintro ⟨⟨h1, h2, h3⟩, h4⟩
      rw [List.map_append, List.map_append] at h4
      have h5 := List.append_inj h4 (by simp [h3])
      refine ⟨h1, h2, ?_, h5.1⟩
      have h6 := h5.2
      cases hc : x.chan
      · rw [← h2, hc]; rfl
      · rw [← h2, hc] at h6 ⊢
        simpa using h6
  rw [hkn, ← hd]
  constructor
  · rintro ⟨h1, h2⟩
    exact ⟨h1, (zip_parts_no (f := fun m => (ofK L k).getD m 0) (hd_len L a b h1) fun p hp q hq => ofK_like hL (sc_live hL hp) (sc_live hL hq)).2 h2⟩
  · rintro ⟨h1, h2⟩
    exact ⟨h1, (zip_parts_no (f := fun m => (ofK L k).getD m 0) (hd_len L a b h1) fun p hp q hq => ofK_like hL (sc_live hL hp) (sc_live hL hq)).1 h2⟩

/-! ### The last round -/
theorem apK_full (hL : TW L) {k a b : Nat} (hk : L.length ≤ k) (ha : liveB L a = true) (hb : liveB L b = true) : apK L k a b = apL L a b := by
  cases h : apL L a b
  · cases h2 : apK L k a b
    · rfl
    · have := (apL_iff hL ha hb).2 (aptK_apt k a b h2)
      rw [h] at this; cases this
  · exact aptK_le hk h
theorem ofK_full (hL : TW L) {k : Nat} (hk : L.length ≤ k) : clsL (apK L k) (rootsL L) = numL L :=
  (clsL_congr (D := fun a => liveB L a = true) (fun _ _ ha hb => apK_full hL hk ha hb) _ _ rfl (roots_live hL)).1
/-- As long as more comes of it, there are more nodes than rounds. -/
theorem more_lt (hL : TW L) {k : Nat} (h : ofK L (k + 1) ≠ ofK L k) : k < L.length := by
  rcases Nat.lt_or_ge k L.length with h1 | h1
  · exact h1
  · refine absurd ?_ h
    unfold ofK
    rw [ofK_full hL h1, ofK_full hL (Nat.le_succ_of_le h1)]
theorem stays_like (hL : TW L) {k : Nat} (h : ofK L (k + 1) = ofK L k) {a b : Nat} (ha : liveB L a = true) (hb : liveB L b = true) : apK L (k + 1) a b = apK L k a b := by
  have h1 := ofK_like hL (k := k) ha hb
  have h2 := ofK_like hL (k := k + 1) ha hb
  rw [h] at h2
  have h3 := h2.symm.trans h1
  cases e1 : apK L (k + 1) a b
  · exact (h3.1 e1).symm
  · cases e2 : apK L k a b
    · rw [h3.2 e2] at e1; cases e1
    · rfl
theorem unl_on (hL : TW L) {M K : Nat → Nat → Bool} (hMK : ∀ a b, liveB L a = true → liveB L b = true → M a b = K a b) {a b : Nat} : unl (hdL L) (scL L) M a b = unl (hdL L) (scL L) K a b := by
  unfold unl
  congr 1
  rw [Bool.eq_iff_iff, List.any_eq_true, List.any_eq_true]
  have key : ∀ p ∈ (scL L a).zip (scL L b), M p.1.1 p.2.1 = K p.1.1 p.2.1 := fun p hp => by
    obtain ⟨j, h1, h2⟩ := zip_mem hp
    exact hMK _ _ (sc_live hL (List.mem_of_getElem? h1)) (sc_live hL (List.mem_of_getElem? h2))
  constructor
  · rintro ⟨p, hp, h⟩
    exact ⟨p, hp, by rw [← key p hp]; exact h⟩
  · rintro ⟨p, hp, h⟩
    exact ⟨p, hp, by rw [key p hp]; exact h⟩
theorem stays_on (hL : TW L) {k : Nat} (h : ofK L (k + 1) = ofK L k) : ∀ (j : Nat) {a b : Nat}, liveB L a = true → liveB L b = true → apK L (k + j) a b = apK L k a b
  | 0, _, _, _, _ => rfl
  | j + 1, a, b, ha, hb => by
    rw [← stays_like hL h ha hb]
    exact unl_on hL fun _ _ ha hb => stays_on hL h j ha hb
/-- Behind the last round: what is found are the classes. -/
theorem num_stop (hL : TW L) {k : Nat} (h : ofK L (k + 1) = ofK L k) : ofK L k = (numL L).2 ∧ fsK L (k + 1) = (numL L).1 := by
  have h1 : ∀ a b, liveB L a = true → liveB L b = true → apK L (k + 1) a b = apL L a b := fun a b ha hb => by
    rw [stays_like hL h ha hb, ← stays_on hL h L.length ha hb]
    exact apK_full hL (by omega) ha hb
  have h2 : clsL (apK L (k + 1)) (rootsL L) = numL L := (clsL_congr (D := fun a => liveB L a = true) h1 _ _ rfl (roots_live hL)).1
  refine ⟨?_, ?_⟩
  · rw [← h]; unfold ofK; rw [h2]
  · unfold fsK; rw [h2]
end
end Go.Proofs.Ytmhbmeckdbdhpaa

namespace Go.Proofs.Ytmhbmeckdbdhpaa
open Go.RowKit Go.Maps

def padE (es : List Ed) (i : Nat) : Ed := es.getD i (0, 0)
/-- What is known, as cells: n Next, of which those of es are written. -/
abbrev knC (k : Int) (ch : Bool) (p : Ed) (n : Int) (es : List Ed) : Array Value :=
  #[.int .i64 k, .bool ch, .int .i64 p.1, .int .i64 p.2, .int .i64 n, .int .i64 (padE es 0).1, .int .i64 (padE es 0).2, .int .i64 (padE es 1).1, .int .i64 (padE es 1).2, .int .i64 (padE es 2).1, .int .i64 (padE es 2).2, .int .i64 (padE es 3).1, .int .i64 (padE es 3).2, .int .i64 (padE es 4).1, .int .i64 (padE es 4).2, .int .i64 (padE es 5).1, .int .i64 (padE es 5).2, .int .i64 (padE es 6).1, .int .i64 (padE es 6).2, .int .i64 (padE es 7).1, .int .i64 (padE es 7).2]
def knA (x : Nd) : Array Value := knC x.kind x.chan x.pay (x.next.length : Int) x.next
abbrev knV (x : Nd) : Value := .agg (knA x)
/-- What is known is small. -/
structure KN (x : Nd) : Prop where
  prio : x.prio = 0
  len : x.next.length ≤ 8
  kind : -1000000000 ≤ x.kind ∧ x.kind ≤ 1000000000
  pay : (-1000000000 ≤ x.pay.1 ∧ x.pay.1 ≤ 1000000000) ∧ (-1000000000 ≤ x.pay.2 ∧ x.pay.2 ≤ 1000000000)
  next : ∀ e ∈ x.next, (-1000000000 ≤ e.1 ∧ e.1 ≤ 1000000000) ∧ (-1000000000 ≤ e.2 ∧ e.2 ≤ 1000000000)
theorem KN.pad {x : Nd} (h : KN x) (i : Nat) : (-1000000000 ≤ (padE x.next i).1 ∧ (padE x.next i).1 ≤ 1000000000) ∧ (-1000000000 ≤ (padE x.next i).2 ∧ (padE x.next i).2 ≤ 1000000000) := by
  unfold padE
  rw [List.getD_eq_getElem?_getD]
  cases e : x.next[i]? with
  | none => rw [Option.getD_none]; decide
  | some y => exact h.next y (List.mem_of_getElem? e)
theorem knA_inj {x y : Nd} (hx : KN x) (hy : KN y) (h : knA x = knA y) : x = y := by
  obtain ⟨k, p, c, ⟨a, b⟩, es⟩ := x
  obtain ⟨k', p', c', ⟨a', b'⟩, es'⟩ := y
  unfold knA knC at h
  have h1 := hx.prio
  have h2 := hy.prio
  have l1 := hx.len
  have l2 := hy.len
  dsimp only at h h1 h2 l1 l2
  simp only [Array.mk.injEq, List.cons.injEq, Value.int.injEq, Value.bool.injEq, true_and, and_true] at h
  obtain ⟨e1, e2, e3, e4, e5, a0, b0, a1, b1, a2, b2, a3, b3, a4, b4, a5, b5, a6, b6, a7, b7⟩ := h
  have hl : es.length = es'.length := by omega
  have hp : ∀ i, i < 8 → padE es i = padE es' i := fun i hi => by
    have : i = 0 ∨ i = 1 ∨ i = 2 ∨ i = 3 ∨ i = 4 ∨ i = 5 ∨ i = 6 ∨ i = 7 := by omega
    rcases this with rfl | rfl | rfl | rfl | rfl | rfl | rfl | rfl <;> exact Prod.ext (by assumption) (by assumption)
  have hes : es = es' := by
    refine List.ext_getElem hl fun i h1 h2 => ?_
    have := hp i (by omega)
    unfold padE at this
    rw [List.getD_eq_getElem?_getD, List.getD_eq_getElem?_getD, List.getElem?_eq_getElem h1, List.getElem?_eq_getElem h2] at this
    exact this
  rw [e1, e2, e3, e4, hes, h1, h2]

/-! ### As a key -/
theorem known_laid : laidOutB Try.prog = true := by kernel_rfl
theorem known_wide : (match Try.prog.underlying 97 with | some (.array _ _) | some (.struct _) => true | _ => false) = true := by kernel_rfl
set_option maxRecDepth 100000 in
theorem known_law : Keyed Try.prog 97 := Keyed.of_law (deep_law_laid known_laid (m := 4) (by omega) (of_decide_eq_true (by kernel_rfl)) (by kernel_rfl) known_wide)
theorem cells_link : Try.prog.cellsOf 83 = 2 := by kernel_rfl
theorem cells_links8 : Try.prog.cellsOf 95 = 16 := by kernel_rfl
theorem cells_known : Try.prog.cellsOf 97 = 21 := by kernel_rfl
theorem cells_intK : Try.prog.cellsOf 3 = 1 := by kernel_rfl
theorem cells_boolK : Try.prog.cellsOf 4 = 1 := by kernel_rfl
theorem lits_int (d : Nat) {a : Int} (h : (Lit.int .i64 a).wf = true) : Try.prog.keyLits (d + 1) 3 [.int .i64 a] = some [.int .i64 a] := by
  unfold Program.keyLits
  rw [Try.underlying3]
  simp [h]
theorem lits_bool (d : Nat) (b : Bool) : Try.prog.keyLits (d + 1) 4 [.bool b] = some [.bool b] := by
  unfold Program.keyLits
  rw [Try.underlying4]
theorem lits_link (d : Nat) {a b : Int} (ha : (Lit.int .i64 a).wf = true) (hb : (Lit.int .i64 b).wf = true) : Try.prog.keyLits (d + 2) 83 [.int .i64 a, .int .i64 b] = some [.int .i64 a, .int .i64 b] := by
  unfold Program.keyLits
  rw [Try.underlying83]
  simp [cells_link, cells_intK, lits_int d ha, lits_int d hb]
theorem wf64 {a : Int} (h : -1000000000 ≤ a ∧ a ≤ 1000000000) : (Lit.int .i64 a).wf = true := WalkArith.wf_i64 (by omega)
theorem lits_links (d : Nat) {es : List Ed} (h : ∀ i, (Lit.int .i64 (padE es i).1).wf = true ∧ (Lit.int .i64 (padE es i).2).wf = true) : ∃ ls, Try.prog.keyLits (d + 3) 95 [.int .i64 (padE es 0).1, .int .i64 (padE es 0).2, .int .i64 (padE es 1).1, .int .i64 (padE es 1).2, .int .i64 (padE es 2).1, .int .i64 (padE es 2).2, .int .i64 (padE es 3).1, .int .i64 (padE es 3).2, .int .i64 (padE es 4).1, .int .i64 (padE es 4).2, .int .i64 (padE es 5).1, .int .i64 (padE es 5).2, .int .i64 (padE es 6).1, .int .i64 (padE es 6).2, .int .i64 (padE es 7).1, .int .i64 (padE es 7).2] = some ls := by
  unfold Program.keyLits
  rw [Try.underlying95]
  have hr : List.range 8 = [0, 1, 2, 3, 4, 5, 6, 7] := by decide
  have hl : ∀ i, Try.prog.keyLits (d + 2) 83 [.int .i64 (padE es i).1, .int .i64 (padE es i).2] = some [.int .i64 (padE es i).1, .int .i64 (padE es i).2] := fun i => lits_link d (h i).1 (h i).2
  simp [cells_link, cells_links8, hr, hl]
theorem lits_known (d : Nat) {k : Int} {ch : Bool} {p : Ed} {n : Int} {es : List Ed} (hk : (Lit.int .i64 k).wf = true) (hp1 : (Lit.int .i64 p.1).wf = true) (hp2 : (Lit.int .i64 p.2).wf = true) (hn : (Lit.int .i64 n).wf = true) (h : ∀ i, (Lit.int .i64 (padE es i).1).wf = true ∧ (Lit.int .i64 (padE es i).2).wf = true) : ∃ ls, Try.prog.keyLits (d + 4) 97 (knC k ch p n es).toList = some ls := by
  obtain ⟨ls, hls⟩ := lits_links d h
  unfold Program.keyLits
  rw [Try.underlying97]
  have h1 := lits_int (d + 2) hk
  have h2 := lits_bool (d + 2) ch
  have h3 := lits_link (d + 1) hp1 hp2
  have h4 := lits_int (d + 2) hn
  simp [cells_link, cells_links8, cells_known, cells_intK, cells_boolK, h1, h2, h3, h4, hls]
theorem size_types : ∃ d, Try.prog.types.size + 1 = d + 4 := ⟨Try.prog.types.size - 3, by have : 3 ≤ Try.prog.types.size := of_decide_eq_true (by kernel_rfl); omega⟩
set_option maxRecDepth 100000 in
theorem kn_key {x : Nd} (h : KN x) : ∃ l, keyOf Try.prog 97 (knV x) = some l := by
  obtain ⟨d, hd⟩ := size_types
  have hl : ((x.next.length : Nat) : Int) ≤ 8 := by have := h.len; omega
  obtain ⟨ls, hls⟩ := lits_known d (k := x.kind) (ch := x.chan) (p := x.pay) (n := (x.next.length : Int)) (es := x.next) (wf64 h.kind) (wf64 h.pay.1) (wf64 h.pay.2) (wf64 (by omega)) fun i => ⟨wf64 (h.pad i).1, wf64 (h.pad i).2⟩
  have hf : (knV x).formed Try.prog 97 = true := by
    unfold Value.formed
    rw [Try.underlying97, cells_known]
    rfl
  have hkt : Try.prog.keyType 97 = true := by kernel_rfl
  refine ⟨.string (keyBytes ls), ?_⟩
  unfold keyOf
  rw [Try.underlying97, hkt, hf, hd]
  show Option.map _ (Try.prog.keyLits (d + 4) 97 (knC x.kind x.chan x.pay (x.next.length : Int) x.next).toList) = _
  rw [hls]; rfl

/-! ### The map of what is known -/
def numElem : Value → Option (DataW Unit × List MemPlace)
  | .int .i64 z => some (.lit (.int .i64 z), [])
  | _ => none
theorem numElem_mk (z : Int) : numElem (.int .i64 z) = some (.lit (.int .i64 z), []) := rfl
theorem numElem_inv {v : Value} {z : Int} {ps : List MemPlace} (h : numElem v = some (.lit (.int .i64 z), ps)) : v = .int .i64 z := by
  unfold numElem at h
  split at h
  · simp only [Option.some.injEq, Prod.mk.injEq, DataW.lit.injEq, Lit.int.injEq, true_and] at h
    rw [h.1]
  · cases h
theorem num_zero (w : World) : (zeroValue 3).run Try.prog w = .ok (.int .i64 0) w := by kernel_rfl
set_option maxRecDepth 100000 in
theorem key_inj {x y : Nd} {l : Lit} (hx : KN x) (hy : KN y) (h : keyOf Try.prog 97 (knV x) = some l) (h' : keyOf Try.prog 97 (knV y) = some l) : x = y := by
  exact knA_inj hx hy (Value.agg.inj (known_law.inj h h'))
/-- Block b is a map, of at most m entries: it tells of each of ks where it stands. -/
def KMap (W : World) (b m : Nat) (ks : List Nd) : Prop := ∃ D : DataW Unit, W.ownsMap Try.prog 97 numElem b m D ∧ (∀ y ∈ ks, KN y) ∧
  ∀ x l, KN x → keyOf Try.prog 97 (knV x) = some l → (Maps.has D l = true ↔ x ∈ ks) ∧ (∀ c : Nat, ks[c]? = some x → D.atKey l (.lit (.int .i64 0)) = .lit (.int .i64 (c : Int))) ∧ (x ∉ ks → D.atKey l (.lit (.int .i64 0)) = .lit (.int .i64 0))
theorem KMap.made (W : World) : KMap (W.alloc (.map #[] 0)) W.heap.size 0 [] :=
  ⟨.map [], World.ownsMap_made _ _ _ _, fun y h => (by cases h), fun x l _ _ => ⟨⟨fun h => (by cases h), fun h => (by cases h)⟩, fun c h => (by simp at h), fun _ => rfl⟩⟩
theorem KMap.lt {W : World} {b m : Nat} {ks : List Nd} (h : KMap W b m ks) : b < W.heap.size := by obtain ⟨D, h, _⟩ := h; exact h.lt
theorem KMap.kept {W W' : World} {b m : Nat} {ks : List Nd} {row : Option Nat} (h : KMap W b m ks) (hg : W.grownBy W' row) (hne : some b ≠ row) : KMap W' b m ks := by
  obtain ⟨D, h, h2⟩ := h; exact ⟨D, h.kept hg hne, h2⟩
theorem KMap.setCell {W : World} {b m : Nat} {ks : List Nd} (h : KMap W b m ks) {a : Addr} (ha : b ≠ a.block) (u : Value) : KMap (W.setCell a u) b m ks := by
  obtain ⟨D, h, h2⟩ := h; exact ⟨D, h.setCell ha u, h2⟩
theorem KMap.look_new {W : World} {b m : Nat} {ks : List Nd} (h : KMap W b m ks) {x : Nd} (hx : KN x) (hn : x ∉ ks) :
    (Instr.lookup 114 (.map (some b)) (knV x) true).run Try.prog W = .ok (.tuple #[.int .i64 0, .bool false]) W := by
  obtain ⟨D, h, _, h2⟩ := h
  obtain ⟨l, hl⟩ := kn_key hx
  obtain ⟨v, ps, hrun, hv⟩ := h.look_ok known_law Try.underlying114 (num_zero _) (numElem_mk 0) hl
  obtain ⟨hh, _, ha⟩ := h2 x l hx hl
  rw [ha hn] at hv
  have : Maps.has D (l) = false := by
    cases e : Maps.has D (l) with
    | false => rfl
    | true => exact absurd (hh.1 e) hn
  rw [this, numElem_inv hv] at hrun
  exact hrun
theorem KMap.look_old {W : World} {b m : Nat} {ks : List Nd} (h : KMap W b m ks) {x : Nd} {c : Nat} (hx : KN x) (hc : ks[c]? = some x) :
    (Instr.lookup 114 (.map (some b)) (knV x) true).run Try.prog W = .ok (.tuple #[.int .i64 (c : Int), .bool true]) W := by
  obtain ⟨D, h, _, h2⟩ := h
  obtain ⟨l, hl⟩ := kn_key hx
  obtain ⟨v, ps, hrun, hv⟩ := h.look_ok known_law Try.underlying114 (num_zero _) (numElem_mk 0) hl
  obtain ⟨hh, ha, _⟩ := h2 x l hx hl
  rw [ha c hc] at hv
  rw [hh.2 (List.mem_of_getElem? hc), numElem_inv hv] at hrun
  exact hrun
theorem KMap.put {W : World} {b m : Nat} {ks : List Nd} (h : KMap W b m ks) {x : Nd} (hx : KN x) (hn : x ∉ ks) (hm : m ≤ 1000000) :
    ∃ W', (Instr.mapUpdate 114 (.map (some b)) (knV x) (.int .i64 (ks.length : Int))).run Try.prog W = .ok () W' ∧ KMap W' b (m + 1) (ks ++ [x]) ∧ W.mapTurned W' b := by
  obtain ⟨D, h, hks, h2⟩ := h
  obtain ⟨l, hl⟩ := kn_key hx
  obtain ⟨W', hrun, h3, h4⟩ := h.store known_law Try.underlying114 (by unfold maxLen; omega) hl (numElem_mk (ks.length : Int))
  refine ⟨W', hrun, ⟨_, h3, fun y hy => ?_, fun y ly hy hly => ?_⟩, h4⟩
  · rcases List.mem_append.1 hy with hy | hy
    · exact hks y hy
    · obtain rfl := List.mem_singleton.1 hy; exact hx
  have hmp := h.isMap
  have hk : WideAt.IsKeyLit l := known_law.key hl
  by_cases e : y = x
  · subst e
    obtain rfl : l = ly := Option.some.inj (hl.symm.trans hly)
    rw [has_put_same hmp hk, atKey_put_same hmp hk]
    refine ⟨⟨fun _ => by simp, fun _ => rfl⟩, fun c hc => ?_, fun hn' => absurd (by simp) hn'⟩
    have : c = ks.length := by
      rcases Nat.lt_trichotomy c ks.length with hlt | heq | hgt
      · rw [List.getElem?_append_left hlt] at hc
        exact absurd (List.mem_of_getElem? hc) hn
      · exact heq
      · rw [List.getElem?_eq_none (by simp; omega)] at hc; cases hc
    rw [this]
  · have hne : ly ≠ l := fun e' => e (key_inj hy hx hly (by rw [e']; exact hl))
    rw [has_put_other hne, atKey_put_other hne]
    obtain ⟨p1, p2, p3⟩ := h2 y ly hy hly
    refine ⟨p1.trans ⟨fun h => by simp [h], fun h => ?_⟩, fun c hc => p2 c ?_, fun hn' => p3 fun h => hn' (by simp [h])⟩
    · rcases List.mem_append.1 h with h | h
      · exact h
      · exact absurd (List.mem_singleton.1 h) e
    · rcases Nat.lt_or_ge c ks.length with hlt | hge
      · rwa [List.getElem?_append_left hlt] at hc
      · rw [List.getElem?_append_right hge] at hc
        have : c - ks.length = 0 := by
          rcases Nat.eq_zero_or_pos (c - ks.length) with h0 | h0
          · exact h0
          · rw [List.getElem?_eq_none (by simp; omega)] at hc; cases hc
        rw [this] at hc
        simp only [List.getElem?_cons_zero, Option.some.injEq] at hc
        exact absurd hc.symm e
end Go.Proofs.Ytmhbmeckdbdhpaa

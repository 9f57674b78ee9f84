/- Texts joined for the claim's sake: CDul, DCon. -/
import Derived.Test.YtmhbmeckdbdhpaaZSAddRow36
import Derived.Test.YtmhbmeckdbdhpaaZSAddRow32
namespace Go.Proofs.Ytmhbmeckdbdhpaa
open Go.RowKit

def mtN (n i : Nat) : Nat := if i < n then i + n else i - n
theorem mt_lt {n i : Nat} (h : i < 2 * n) : mtN n i < 2 * n := by unfold mtN; split <;> omega
theorem mt_mod {n i : Nat} (h : i < 2 * n) : (i + n) % (2 * n) = mtN n i := by
  unfold mtN
  split
  · exact Nat.mod_eq_of_lt (by omega)
  · rw [show i + n = (i - n) + 2 * n by omega, Nat.add_mod_right, Nat.mod_eq_of_lt (by omega)]
theorem dualK_inj {a b : Int} (h : dualK a = dualK b) : a = b := by rw [← dualK_twice a, h, dualK_twice]
def mtE (n : Nat) (e : Ed) : Ed := (((mtN n e.1.toNat : Nat) : Int), e.2)
theorem getD_someN {os : List Nat} {i c : Nat} (h : os[i]? = some c) : os.getD i 0 = c := by rw [List.getD_eq_getElem?_getD, h]; rfl
section
variable {xs : List Nd}
/-- A node's mate is its dual. -/
theorem mt_node (hk : OKT xs) {i : Nat} {x : Nd} (hx : (twoL xs)[i]? = some x) : ∃ y, (twoL xs)[mtN xs.length i]? = some y ∧ y.kind = dualK x.kind ∧ y.prio = x.prio ∧ y.chan = x.chan ∧ y.pay = x.pay ∧ y.next = x.next.map (mtE xs.length) := by
  have hi := (List.getElem?_eq_some_iff.1 hx).1
  rw [twoL_len] at hi
  unfold mtN
  by_cases h : i < xs.length
  · rw [if_pos h]
    obtain ⟨z, hz⟩ : ∃ z, xs[i]? = some z := ⟨_, List.getElem?_eq_getElem h⟩
    rw [two_at hz] at hx
    obtain rfl := Option.some.inj hx
    refine ⟨dualN xs.length z, by rw [Nat.add_comm]; exact two_up hz, rfl, rfl, rfl, rfl, List.map_congr_left fun e he => ?_⟩
    have := hk.edge hz (List.mem_append_left _ he)
    unfold upE mtE mtN
    rw [if_pos (by omega)]
    exact Prod.ext (by dsimp only; omega) rfl
  · rw [if_neg h]
    have h' : i - xs.length < xs.length := by omega
    obtain ⟨z, hz⟩ : ∃ z, xs[i - xs.length]? = some z := ⟨_, List.getElem?_eq_getElem h'⟩
    have hu := two_up hz
    rw [show xs.length + (i - xs.length) = i by omega, hx] at hu
    obtain rfl := Option.some.inj hu
    refine ⟨z, two_at hz, (dualK_twice z.kind).symm, rfl, rfl, rfl, ?_⟩
    show z.next = (z.next.map (upE xs.length)).map (mtE xs.length)
    rw [List.map_map]
    conv => lhs; rw [← List.map_id z.next]
    refine List.map_congr_left fun e he => ?_
    have := hk.edge hz (List.mem_append_left _ he)
    unfold upE mtE mtN
    dsimp only [Function.comp]
    rw [if_neg (by omega)]
    exact Prod.ext (by dsimp only [id]; omega) rfl
/-- What a node comes to, and what its mate comes to. -/
theorem mt_goal (hk : OKT xs) {t : Nat} (ht : t < 2 * xs.length) : ∃ (m : Nat) (s : Int), m < 2 * xs.length ∧ (∀ o, -1000000000 ≤ o → o ≤ 1000000000 → resolveL (twoL xs) ((t : Int), o) = ((m : Int), s + o)) ∧ ∀ o, -1000000000 ≤ o → o ≤ 1000000000 → resolveL (twoL xs) (((mtN xs.length t : Nat) : Int), o) = (((mtN xs.length m : Nat) : Int), s + o) := by
  have key : ∀ u : Nat, u < xs.length → ∃ (m : Nat) (s : Int), m < xs.length ∧ (∀ o, -1000000000 ≤ o → o ≤ 1000000000 → resolveL (twoL xs) ((u : Int), o) = ((m : Int), s + o)) ∧ ∀ o, -1000000000 ≤ o → o ≤ 1000000000 → resolveL (twoL xs) (((u + xs.length : Nat) : Int), o) = (((m + xs.length : Nat) : Int), s + o) := fun u hu => by
    obtain ⟨m, y, d, hy, _, _, _, hm, hr⟩ := hk.goal (t := (u : Int)) (by omega) (by omega)
    refine ⟨m, d, hm, fun o o0 o1 => ?_, fun o o0 o1 => ?_⟩
    · have h3 := resolve_two hk (t := ((u : Int), o)) false (by show (0 : Int) ≤ (u : Int); omega) (by show (u : Int) < _; omega) (by rw [hr o o0 o1]; show (0 : Int) ≤ (m : Int); omega)
      rw [hr o o0 o1] at h3
      exact h3
    · have h3 := resolve_two hk (t := ((u : Int), o)) true (by show (0 : Int) ≤ (u : Int); omega) (by show (u : Int) < _; omega) (by rw [hr o o0 o1]; show (0 : Int) ≤ (m : Int); omega)
      rw [hr o o0 o1] at h3
      have e1 : upS xs.length true ((u : Int), o) = (((u + xs.length : Nat) : Int), o) := by simp [upS, upE]
      have e2 : upS xs.length true ((m : Int), d + o) = (((m + xs.length : Nat) : Int), d + o) := by simp [upS, upE]
      rw [e1, e2] at h3
      exact h3
  by_cases h : t < xs.length
  · obtain ⟨m, s, hm, h1, h2⟩ := key t h
    exact ⟨m, s, by omega, h1, by unfold mtN; rw [if_pos h, if_pos hm]; exact h2⟩
  · obtain ⟨m, s, hm, h1, h2⟩ := key (t - xs.length) (by omega)
    rw [show t - xs.length + xs.length = t by omega] at h2
    exact ⟨m + xs.length, s, by omega, h2, by unfold mtN; rw [if_neg h, if_neg (by omega), Nat.add_sub_cancel]; exact h1⟩
theorem mt_root (hk : OKT xs) {t : Nat} (ht : t < 2 * xs.length) : rootL (twoL xs) (mtN xs.length t) = mtN xs.length (rootL (twoL xs) t) := by
  obtain ⟨m, s, _, h1, h2⟩ := mt_goal hk ht
  unfold rootL
  rw [h1 0 (by omega) (by omega), h2 0 (by omega) (by omega)]
  rfl
theorem mt_live (hk : OKT xs) {a : Nat} (h : liveB (twoL xs) a = true) : liveB (twoL xs) (mtN xs.length a) = true := by
  obtain ⟨x, hx, h5⟩ := live_some h
  obtain ⟨y, hy, hyk, _⟩ := mt_node hk hx
  exact live_of hy (by rw [hyk]; exact fun e => h5 ((dualK_5 _).1 e))
theorem mt_place (hk : OKT xs) {a : Nat} {x y : Nd} {e : Ed} (hx : (twoL xs)[a]? = some x) (hp : y.prio = x.prio) (he : e ∈ x.next) : placeL (twoL xs) y (mtE xs.length e) = (mtN xs.length (placeL (twoL xs) x e).1, (placeL (twoL xs) x e).2) := by
  have hL := tw_two hk
  have hb := hL.edge x (List.mem_of_getElem? hx) e (List.mem_append_left _ he)
  rw [twoL_len] at hb
  obtain ⟨t, o⟩ := e
  dsimp only at hb
  obtain ⟨t, rfl⟩ : ∃ n : Nat, t = (n : Int) := ⟨t.toNat, by omega⟩
  obtain ⟨m, s, hm, h1, h2⟩ := mt_goal hk (t := t) (by omega)
  have r1 := h1 o (by omega) (by omega)
  have r2 := h2 o (by omega) (by omega)
  obtain ⟨z, hz⟩ : ∃ z, (twoL xs)[m]? = some z := ⟨_, List.getElem?_eq_getElem (by rw [twoL_len]; exact hm)⟩
  obtain ⟨z', hz', hk', hp', _⟩ := mt_node hk hz
  have hk0 : z'.kind = 0 ↔ z.kind = 0 := by
    rw [hk']
    constructor
    · intro h
      have := congrArg dualK h
      rwa [dualK_twice] at this
    · intro h; rw [h]; rfl
  unfold placeL mtE
  rw [Int.toNat_natCast, r1, r2]
  simp only [Int.toNat_natCast, hz, hz', hp, hp']
  refine Prod.ext rfl ?_
  dsimp only
  by_cases h0 : z.kind = 0
  · rw [if_pos h0, if_pos (hk0.2 h0)]
  · rw [if_neg h0, if_neg (fun h => h0 (hk0.1 h))]
theorem any_zip_mt {M : Nat → Nat → Bool} {n : Nat} : ∀ {l k : List (Nat × Int)}, (∀ p ∈ l, ∀ q ∈ k, M (mtN n p.1) (mtN n q.1) = M p.1 q.1) →
    (((l.map fun p => (mtN n p.1, p.2)).zip (k.map fun p => (mtN n p.1, p.2))).any fun p => M p.1.1 p.2.1 || !decide (p.1.2 = p.2.2)) = ((l.zip k).any fun p => M p.1.1 p.2.1 || !decide (p.1.2 = p.2.2))
  | [], _, _ => rfl
  | _ :: _, [], _ => rfl
  | p :: l, q :: k, h => by
    rw [List.map_cons, List.map_cons, List.zip_cons_cons, List.zip_cons_cons, List.any_cons, List.any_cons]
    have h1 := any_zip_mt (l := l) (k := k) fun a ha b hb => h a (by simp [ha]) b (by simp [hb])
    have h2 := h p (by simp) q (by simp)
    dsimp only at h1 ⊢
    rw [h1, h2]
/-- What tells two nodes apart tells their mates apart. -/
theorem mt_apart (hk : OKT xs) : ∀ (k : Nat) {a b : Nat}, liveB (twoL xs) a = true → liveB (twoL xs) b = true → apK (twoL xs) k (mtN xs.length a) (mtN xs.length b) = apK (twoL xs) k a b
  | 0, _, _, _, _ => rfl
  | k + 1, a, b, ha, hb => by
    obtain ⟨x, hx, _⟩ := live_some ha
    obtain ⟨y, hy, _⟩ := live_some hb
    obtain ⟨x', hx', x1, x2, x3, x4, x5⟩ := mt_node hk hx
    obtain ⟨y', hy', y1, y2, y3, y4, y5⟩ := mt_node hk hy
    show unl _ _ (apK (twoL xs) k) _ _ = unl _ _ (apK (twoL xs) k) _ _
    have hd : hdL (twoL xs) (mtN xs.length a) = hdL (twoL xs) (mtN xs.length b) ↔ hdL (twoL xs) a = hdL (twoL xs) b := by
      unfold hdL
      rw [hx, hy, hx', hy']
      simp only [Prod.mk.injEq, x1, y1, x3, y3, x5, y5, List.length_map]
      exact ⟨fun ⟨h1, h2⟩ => ⟨dualK_inj h1, h2⟩, fun ⟨h1, h2⟩ => ⟨by rw [h1], h2⟩⟩
    by_cases he : hdL (twoL xs) a = hdL (twoL xs) b
    · have hs : ∀ {c : Nat} {z z' : Nd}, (twoL xs)[c]? = some z → (twoL xs)[mtN xs.length c]? = some z' → z'.prio = z.prio → z'.chan = z.chan → z'.pay = z.pay → z'.next = z.next.map (mtE xs.length) → scL (twoL xs) (mtN xs.length c) = (z.next.map (placeL (twoL xs) z)).map (fun p => (mtN xs.length p.1, p.2)) ++ (if z.chan then [placeL (twoL xs) z z.pay] else []) := fun {c z z'} hz hz' e2 e3 e4 e5 => by
        unfold scL
        rw [hz']
        dsimp only
        unfold allE
        rw [e5, List.map_append, List.map_map, List.map_map]
        congr 1
        · exact List.map_congr_left fun e he => mt_place hk hz e2 he
        · rw [e3, e4]
          have hp : ∀ e, placeL (twoL xs) z' e = placeL (twoL xs) z e := fun e => by unfold placeL; rw [e2]
          split
          · rw [List.map_cons, List.map_nil, hp]
          · rfl
      have hs0 : ∀ {c : Nat} {z : Nd}, (twoL xs)[c]? = some z → scL (twoL xs) c = z.next.map (placeL (twoL xs) z) ++ (if z.chan then [placeL (twoL xs) z z.pay] else []) := fun {c z} hz => by
        unfold scL
        rw [hz]
        dsimp only
        unfold allE
        rw [List.map_append]
        congr 1
        split <;> rfl
      have hl : x.next.length = y.next.length := by
        unfold hdL at he
        rw [hx, hy] at he
        simp only [Prod.mk.injEq] at he
        exact he.2.2
      unfold unl
      rw [decide_eq_true he, decide_eq_true (hd.2 he), hs hx hx' x2 x3 x4 x5, hs hy hy' y2 y3 y4 y5, hs0 hx, hs0 hy, List.zip_append (by simp [hl]), List.zip_append (by simp [hl]), List.any_append, List.any_append]
      congr 2
      refine any_zip_mt fun p hp q hq => ?_
      have hL := tw_two hk
      have live : ∀ {c : Nat} {z : Nd} {p : Nat × Int}, (twoL xs)[c]? = some z → p ∈ z.next.map (placeL (twoL xs) z) → liveB (twoL xs) p.1 = true := fun {c z p} hz hp => sc_live hL (a := c) (by rw [hs0 hz]; exact List.mem_append_left _ hp)
      exact mt_apart hk k (live hx hp) (live hy hq)
    · unfold unl
      rw [decide_eq_false he, decide_eq_false (fun h => he (hd.1 h))]
      rfl
/-- The class of a node's mate is that of its class' first node's mate. -/
theorem num_mate (hk : OKT xs) {i c m : Nat} (hi : (numL (twoL xs)).2[i]? = some c) (hm : (numL (twoL xs)).1[c]? = some m) : (numL (twoL xs)).2.getD (mtN xs.length i) 0 = (numL (twoL xs)).2.getD ((m + xs.length) % (twoL xs).length) 0 := by
  have hL := tw_two hk
  have hC := cls_num hL
  have hil : i < 2 * xs.length := by have := (List.getElem?_eq_some_iff.1 hi).1; rw [num_len hL, twoL_len] at this; exact this
  obtain ⟨j, hj, hjc, _⟩ := hC.first c m hm
  have hml : liveB (twoL xs) m = true := roots_live hL m (List.mem_of_getElem? hj)
  have hmb : m < 2 * xs.length := by have := live_lt hml; rwa [twoL_len] at this
  have hri := root_get (twoL xs) (i := i) (by rw [twoL_len]; exact hil)
  have hrl : liveB (twoL xs) (rootL (twoL xs) i) = true := roots_live hL _ (List.mem_of_getElem? hri)
  have hlike := (hC.iff (apL_alike (fun a => liveB (twoL xs) a = true)) (roots_live hL) hri hj hi hjc).1 rfl
  rw [twoL_len, mt_mod hmb]
  have h1 := root_get (twoL xs) (i := mtN xs.length i) (by rw [twoL_len]; exact mt_lt hil)
  rw [mt_root hk hil] at h1
  have h2 := root_self hL (mt_live hk hml)
  obtain ⟨d, hd⟩ : ∃ d, (numL (twoL xs)).2[mtN xs.length i]? = some d := ⟨_, List.getElem?_eq_getElem (by rw [num_len hL, twoL_len]; exact mt_lt hil)⟩
  obtain ⟨e, he⟩ : ∃ e, (numL (twoL xs)).2[mtN xs.length m]? = some e := ⟨_, List.getElem?_eq_getElem (by rw [num_len hL, twoL_len]; exact mt_lt hmb)⟩
  rw [getD_someN hd, getD_someN he]
  refine (hC.iff (apL_alike (fun a => liveB (twoL xs) a = true)) (roots_live hL) h1 h2 hd he).2 ?_
  have h3 : apL (twoL xs) (mtN xs.length (rootL (twoL xs) i)) (mtN xs.length m) = apL (twoL xs) (rootL (twoL xs) i) m := mt_apart hk (twoL xs).length hrl hml
  rw [h3]
  exact hlike
end
/-! ### Classes, as their duals are laid one by one -/
def duN (L : List Nd) (n : Nat) (os : List Nat) (i c m : Nat) : Nd := { knN L os m with prio := if c ∈ os.take i then ((os.getD ((m + n) % L.length) 0 : Nat) : Int) else 0 }
def duL (L : List Nd) (n : Nat) (fs os : List Nat) (i : Nat) : List Nd := fs.zipIdx.map fun p => duN L n os i p.2 p.1
theorem du_at {L : List Nd} {n : Nat} {fs os : List Nat} {i c m : Nat} (hm : fs[c]? = some m) : (duL L n fs os i)[c]? = some (duN L n os i c m) := by
  unfold duL
  rw [List.getElem?_map, List.getElem?_zipIdx, hm]
  simp
theorem du_len (L : List Nd) (n : Nat) (fs os : List Nat) (i : Nat) : (duL L n fs os i).length = fs.length := by unfold duL; simp
theorem du_zero (L : List Nd) (n : Nat) (fs os : List Nat) : duL L n fs os 0 = fs.map (knN L os) := by
  apply List.ext_getElem?
  intro c
  cases hm : fs[c]? with
  | none =>
    have hc : fs.length ≤ c := by simpa using hm
    rw [List.getElem?_eq_none (by rw [du_len]; exact hc), List.getElem?_eq_none (by rw [List.length_map]; exact hc)]
  | some m =>
    rw [du_at hm, List.getElem?_map, hm]
    show some (duN L n os 0 c m) = some (knN L os m)
    unfold duN
    rw [List.take_zero, if_neg (by simp)]
    unfold knN
    cases L[m]? <;> rfl
theorem du_succ {L : List Nd} {n : Nat} {fs os : List Nat} {i c m : Nat} (hi : os[i]? = some c) (hm : fs[c]? = some m) : duL L n fs os (i + 1) = (duL L n fs os i).set c { duN L n os i c m with prio := ((os.getD ((m + n) % L.length) 0 : Nat) : Int) } := by
  apply List.ext_getElem?
  intro d
  by_cases hd : d < fs.length
  · obtain ⟨z, hz⟩ : ∃ z, fs[d]? = some z := ⟨_, List.getElem?_eq_getElem hd⟩
    rw [du_at hz, List.getElem?_set]
    by_cases hne : d = c
    · subst hne
      rw [if_pos rfl, if_pos (by rw [du_len]; exact hd)]
      rw [hz] at hm
      obtain rfl := Option.some.inj hm
      unfold duN
      rw [List.take_add_one, hi, if_pos (by simp)]
    · rw [if_neg (Ne.symm hne), du_at hz]
      unfold duN
      rw [List.take_add_one, hi]
      have : (d ∈ os.take i ++ (some c).toList) ↔ d ∈ os.take i := by simp [hne]
      simp only [this]
  · rw [List.getElem?_eq_none (by rw [du_len]; omega), List.getElem?_eq_none (by rw [List.length_set, du_len]; omega)]
theorem du_full {L : List Nd} {n : Nat} {fs os : List Nat} {N : Nat} (hN : os.length ≤ N) (hf : ∀ (c m : Nat), fs[c]? = some m → c ∈ os) (hl : ∀ (c m : Nat), fs[c]? = some m → ∃ x, L[m]? = some x) : duL L n fs os N = fs.map (clsN L n os) := by
  apply List.ext_getElem?
  intro c
  cases hm : fs[c]? with
  | none =>
    have hc : fs.length ≤ c := by simpa using hm
    rw [List.getElem?_eq_none (by rw [du_len]; exact hc), List.getElem?_eq_none (by rw [List.length_map]; exact hc)]
  | some m =>
    rw [du_at hm, List.getElem?_map, hm]
    obtain ⟨x, hx⟩ := hl c m hm
    unfold duN knN
    rw [List.take_of_length_le hN, if_pos (hf c m hm), hx, Option.map_some]
    unfold clsN
    rw [hx]
end Go.Proofs.Ytmhbmeckdbdhpaa

namespace Go.Proofs.Ytmhbmeckdbdhpaa
open Go.RowKit Go.Shelf

end Go.Proofs.Ytmhbmeckdbdhpaa

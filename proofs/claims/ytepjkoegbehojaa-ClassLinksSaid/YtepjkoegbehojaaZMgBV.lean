/- Texts joined for the claim's sake: CLkP, CLkM. -/
import Derived.Test.YtepjkoegbehojaaZMgBJ
import Derived.Test.YtepjkoegbehojaaZMgAR
import Derived.Test.YtepjkoegbehojaaZMgBQ
import Derived.Test.YtepjkoegbehojaaZCTables
/- ClassLinks: what a class tells is what each of its nodes does, plainly. No program. -/
namespace Go.Proofs.Ytepjkoegbehojaa
open Go.RowKit

section
variable {xs : List Nd}
theorem ofK_num {L : List Nd} (hL : TW L) : ofK L L.length = (numL L).2 ∧ fsK L L.length = (numL L).1 := by
  have h := ofK_full hL (k := L.length) (Nat.le_refl _)
  unfold ofK fsK
  rw [h]
  exact ⟨rfl, rfl⟩
theorem num_root {L : List Nd} (hL : TW L) {i c : Nat} (hi : (numL L).2[i]? = some c) : (numL L).2[rootL L i]? = some c := by
  have hil : i < L.length := by have := (List.getElem?_eq_some_iff.1 hi).1; rwa [num_len hL] at this
  have h := ofK_root hL (k := L.length) hil
  rw [(ofK_num hL).1, getD_someN hi] at h
  have hr : liveB L (rootL L i) = true := roots_live hL _ (List.mem_of_getElem? (root_get L hil))
  obtain ⟨d, hd⟩ : ∃ d, (numL L).2[rootL L i]? = some d := ⟨_, List.getElem?_eq_getElem (by rw [num_len hL]; exact live_lt hr)⟩
  rw [getD_someN hd] at h
  rw [hd, h]
/-- A class tells what the node tells to which i comes. -/
theorem cls_node (hk : OKT xs) (ho : (orderL xs).2 = 0) {i c : Nat} (hi : (numL (twoL xs)).2[i]? = some c) {x : Nd} (hx : (twoL xs)[rootL (twoL xs) i]? = some x) :
    ∃ k : Nd, (clsT xs).cls[c]? = some k ∧ k.kind = x.kind ∧ k.chan = x.chan ∧ k.next = x.next.map (linkL (twoL xs) (numL (twoL xs)).2 x) ∧ (x.chan = true → k.pay = linkL (twoL xs) (numL (twoL xs)).2 x x.pay) ∧ (x.chan = false → k.pay = (0, 0)) ∧ k.prio = (((numL (twoL xs)).2.getD (mtN xs.length i) 0 : Nat) : Int) := by
  have hL := tw_two hk
  have hC := cls_num hL
  have hil : i < (twoL xs).length := by have := (List.getElem?_eq_some_iff.1 hi).1; rwa [num_len hL] at this
  have hri := root_get (twoL xs) hil
  have hrl : liveB (twoL xs) (rootL (twoL xs) i) = true := roots_live hL _ (List.mem_of_getElem? hri)
  obtain ⟨c', m, h1, h2, h3⟩ := hC.at_ i _ hri
  rw [hi] at h1
  obtain rfl := Option.some.inj h1
  have hml : liveB (twoL xs) m = true := by
    obtain ⟨j, hj, _⟩ := hC.first c m h2
    exact roots_live hL _ (List.mem_of_getElem? hj)
  have hkn : knN (twoL xs) (numL (twoL xs)).2 m = knN (twoL xs) (numL (twoL xs)).2 (rootL (twoL xs) i) := by
    have := (kn_iff hL (k := (twoL xs).length) hml hrl).2 (by rw [apK_full hL (Nat.le_succ _) hml hrl]; exact h3)
    rwa [(ofK_num hL).1] at this
  obtain ⟨y, hy, _⟩ := live_some hml
  have hcls : (clsT xs).cls[c]? = some (clsN (twoL xs) xs.length (numL (twoL xs)).2 m) := by
    unfold clsT
    rw [if_pos ho]
    dsimp only
    rw [List.getElem?_map, h2]
    rfl
  refine ⟨_, hcls, ?_⟩
  unfold knN at hkn
  rw [hy, hx] at hkn
  simp only [Nd.mk.injEq, true_and] at hkn
  obtain ⟨e1, e2, e3, e4⟩ := hkn
  unfold clsN
  rw [hy]
  dsimp only
  refine ⟨e1, e2, e4, fun h => ?_, fun h => ?_, ?_⟩
  · rw [e3, if_pos h]
  · rw [e3, h]; rfl
  · rw [← num_mate hk hi h2]
/-- What is asked of node i's class. -/
structure LkF (xs : List Nd) (off : Int) (i c m : Nat) (s : Int) (x k kd : Nd) : Prop where
  il : i < 2 * xs.length
  res : resolveL (twoL xs) ((i : Int), off) = ((m : Int), s + off)
  s0 : 0 ≤ s ∧ s ≤ 64000
  nx : (twoL xs)[m]? = some x
  alive : x.kind ≠ 5
  of_ : (clsT xs).of_[i]? = some (c : Int)
  cl : (clsT xs).cls[c]? = some k
  dual : ∃ d : Nat, k.prio = (d : Int) ∧ (clsT xs).of_[(i + xs.length) % (2 * xs.length)]? = some (d : Int) ∧ (clsT xs).cls[d]? = some kd ∧ kd.prio = (c : Int)
  kind : k.kind = x.kind ∧ k.chan = x.chan ∧ k.next.length = x.next.length ∧ kd.next.length = x.next.length
  small : (0 ≤ x.prio ∧ x.prio ≤ 1000) ∧ x.next.length ≤ 8
  ty : typeA (clsT xs) ((i : Int), off) = ((c : Int), if x.kind = 0 then 0 else x.prio + (s + off))
  next : ∀ (j : Nat) (e : Ed), x.next[j]? = some e → ∃ (a : Nat) (r p : Int) (ka : Nd), k.next[j]? = some ((a : Int), r) ∧ (clsT xs).cls[a]? = some ka ∧ kd.next[j]? = some (ka.prio, r) ∧
    nextA (clsT xs) (c : Int) (if x.kind = 0 then 0 else x.prio + (s + off)) (j : Int) = ((a : Int), p) ∧ typeA (clsT xs) (e.1, s + off + e.2) = ((a : Int), p)
  pay : x.chan = true → kd.pay = k.pay ∧ payA (clsT xs) (c : Int) (if x.kind = 0 then 0 else x.prio + (s + off)) = typeA (clsT xs) (x.pay.1, s + off + x.pay.2)
theorem type_root (hk : OKT xs) (ho : (orderL xs).2 = 0) {t a : Nat} (ht : (numL (twoL xs)).2[t]? = some a) {y : Nd} {q : Int} (hr : resolveL (twoL xs) ((t : Int), 0) = (((rootL (twoL xs) t : Nat) : Int), q)) (hy : (twoL xs)[rootL (twoL xs) t]? = some y) (hq : 0 ≤ q ∧ q ≤ 64000) (hp : 0 ≤ y.prio ∧ y.prio ≤ 1000) {o : Int} (h0 : -1000000000 ≤ o) (h1 : o ≤ 1000000000) :
    typeA (clsT xs) ((t : Int), o) = ((a : Int), if y.kind = 0 then 0 else y.prio + q + o) := by
  have hL := tw_two hk
  have htl : t < (twoL xs).length := by have := (List.getElem?_eq_some_iff.1 ht).1; rwa [num_len hL] at this
  obtain ⟨k, hkc, hkk, _⟩ := cls_node hk ho ht hy
  have hof : (clsT xs).of_ = (numL (twoL xs)).2.map Int.ofNat := by unfold clsT; rw [if_pos ho]
  have hpr : (clsT xs).prio = (List.range (twoL xs).length).map (prioL (twoL xs)) := by unfold clsT; rw [if_pos ho]
  have hol : (clsT xs).of_.length = (twoL xs).length := by rw [hof, List.length_map, num_len hL]
  have hog : (clsT xs).of_.getD t 0 = (a : Int) := by rw [hof, List.getD_eq_getElem?_getD, List.getElem?_map, ht]; rfl
  have hpg : (clsT xs).prio.getD t 0 = prioL (twoL xs) t := by rw [hpr, List.getD_eq_getElem?_getD, List.getElem?_map, List.getElem?_range htl]; rfl
  have hkd : kindC (clsT xs) (a : Int) = y.kind := by unfold kindC; rw [nodeAt_nat, hkc, ← hkk]
  have hpl : prioL (twoL xs) t = if y.kind = 0 then 0 else y.prio + q := by unfold prioL; rw [hy, hr]
  unfold typeA
  dsimp only
  rw [if_neg (by rw [hol]; omega), Int.toNat_natCast, hog, hkd, hpg, hpl]
  by_cases hz : y.kind = 0
  · rw [if_pos hz, if_pos hz]
  · rw [if_neg hz, if_neg hz, if_neg hz, wrap_in (by omega) (by omega)]
theorem end_two (hk : OKT xs) (h32 : xs.length ≤ 32) {m : Nat} {x : Nd} (hm : (twoL xs)[m]? = some x) (h : x.kind = 0) : allE x = [] :=
  end_none (ill_facts ((okt_two hk h32).good x (List.mem_of_getElem? hm)).1).1 h
theorem link_goes (hk : OKT xs) (h32 : xs.length ≤ 32) (ho : (orderL xs).2 = 0) {m : Nat} {x : Nd} (hm : (twoL xs)[m]? = some x) {e : Ed} (he : e ∈ allE x) {s off : Int} (hs : 0 ≤ s ∧ s ≤ 64000) (hf : 0 ≤ off ∧ off ≤ 65535) :
    ∃ (a : Nat) (r p : Int), linkL (twoL xs) (numL (twoL xs)).2 x e = ((a : Int), r) ∧ (numL (twoL xs)).2[(placeL (twoL xs) x e).1]? = some a ∧ r = (placeL (twoL xs) x e).2 ∧ alongA (clsT xs) ((a : Int), r) (if x.kind = 0 then 0 else x.prio + (s + off)) = ((a : Int), p) ∧ typeA (clsT xs) (e.1, s + off + e.2) = ((a : Int), p) := by
  have hL := tw_two hk
  have hxm := List.mem_of_getElem? hm
  obtain ⟨h0, h1, h2, h3⟩ := hL.edge x hxm e he
  obtain ⟨t, q, hgood⟩ : ∃ (t : Nat) (q : Int), e = ((t : Int), q) := ⟨e.1.toNat, e.2, Prod.ext (by dsimp only; omega) rfl⟩
  subst hgood
  dsimp only at h0 h1 h2 h3 ⊢
  obtain ⟨m', y, s', hy, hy5, hs0, hs1, hrm, _, hra⟩ := root_at hL (i := t) (by omega)
  have hrp := root_place hL hxm he
  dsimp only at hrp
  rw [Int.toNat_natCast, hrm] at hrp
  have hg := hL.good y (List.mem_of_getElem? hy)
  have hgx := hL.good x hxm
  have hx0 : x.kind ≠ 0 := fun h => by
    have hact := List.ne_nil_of_mem he
    exact hact (end_two hk h32 hm h)
  have hpl : placeL (twoL xs) x ((t : Int), q) = (m', if y.kind = 0 then 0 else y.prio + (s' + q) - x.prio) := by
    unfold placeL
    rw [hra q (by omega) (by omega)]
    simp only [Int.toNat_natCast, hy]
  obtain ⟨a, ha⟩ : ∃ a, (numL (twoL xs)).2[m']? = some a := ⟨_, List.getElem?_eq_getElem (by rw [num_len hL]; exact (List.getElem?_eq_some_iff.1 hy).1)⟩
  have hat : (numL (twoL xs)).2[t]? = some a := by
    obtain ⟨b, hb⟩ : ∃ b, (numL (twoL xs)).2[t]? = some b := ⟨_, List.getElem?_eq_getElem (by rw [num_len hL]; omega)⟩
    have := num_root hL hb
    rw [hrm, ha] at this
    rw [hb, Option.some.inj this]
  have hr0 := hra 0 (by omega) (by omega)
  rw [Int.add_zero] at hr0
  have hty := type_root hk ho hat (y := y) (q := s') (by rw [hrm]; exact hr0) (by rw [hrm]; exact hy) ⟨hs0, hs1⟩ hg.2.1 (o := s + off + q) (by omega) (by omega)
  obtain ⟨ka, hka, hkk, _⟩ := cls_node hk ho hat (x := y) (by rw [hrm]; exact hy)
  refine ⟨a, (placeL (twoL xs) x ((t : Int), q)).2, if y.kind = 0 then 0 else y.prio + s' + (s + off + q), ?_, ?_, rfl, ?_, hty⟩
  · unfold linkL
    rw [hpl]
    dsimp only
    rw [getD_someN ha]
  · rw [hpl]; exact ha
  · have hkd : kindC (clsT xs) (a : Int) = y.kind := by unfold kindC; rw [nodeAt_nat, hka, ← hkk]
    unfold alongA
    dsimp only
    rw [hkd, hpl, if_neg hx0]
    dsimp only
    by_cases hz : y.kind = 0
    · rw [if_pos hz, if_pos hz]
    · rw [if_neg hz, if_neg hz, if_neg hz, wrap_in (by omega) (by omega)]
      exact Prod.ext rfl (by dsimp only; omega)
theorem place_prio {L : List Nd} {x y : Nd} (h : y.prio = x.prio) (e : Ed) : placeL L y e = placeL L x e := by unfold placeL; rw [h]
theorem link_facts (hk : OKT xs) (h32 : xs.length ≤ 32) (ho : (orderL xs).2 = 0) {off : Int} (hf : 0 ≤ off ∧ off ≤ 65535) {i : Nat} (hi : i < 2 * xs.length) : ∃ (c m : Nat) (s : Int) (x k kd : Nd), LkF xs off i c m s x k kd ∧ (numL (twoL xs)).2[i]? = some c := by
  have hL := tw_two hk
  have hlen := twoL_len xs
  obtain ⟨m, x, s, hx, hx5, hs0, hs1, hrm, _, hra⟩ := root_at hL (i := i) (by omega)
  obtain ⟨c, hc⟩ : ∃ c, (numL (twoL xs)).2[i]? = some c := ⟨_, List.getElem?_eq_getElem (by rw [num_len hL]; omega)⟩
  obtain ⟨k, hkc, k1, k2, k3, k4, k5, k6⟩ := cls_node hk ho hc (x := x) (by rw [hrm]; exact hx)
  have hmi := mt_lt hi
  obtain ⟨d, hd⟩ : ∃ d, (numL (twoL xs)).2[mtN xs.length i]? = some d := ⟨_, List.getElem?_eq_getElem (by rw [num_len hL]; omega)⟩
  obtain ⟨x', hx', y1, y2, y3, y4, y5⟩ := mt_node hk hx
  have hrm' : rootL (twoL xs) (mtN xs.length i) = mtN xs.length m := by rw [mt_root hk hi, hrm]
  obtain ⟨kd, hkd, d1, d2, d3, d4, d5, d6⟩ := cls_node hk ho hd (x := x') (by rw [hrm']; exact hx')
  have hg := hL.good x (List.mem_of_getElem? hx)
  have hof : (clsT xs).of_ = (numL (twoL xs)).2.map Int.ofNat := by unfold clsT; rw [if_pos ho]
  have hr0 := hra 0 (by omega) (by omega)
  rw [Int.add_zero] at hr0
  have hty := type_root hk ho hc (y := x) (q := s) (by rw [hrm]; exact hr0) (by rw [hrm]; exact hx) ⟨hs0, hs1⟩ hg.2.1 (o := off) (by omega) (by omega)
  refine ⟨c, m, s, x, k, kd, ⟨hi, hra off (by omega) (by omega), ⟨hs0, hs1⟩, hx, hx5, by rw [hof, List.getElem?_map, hc]; rfl, hkc, ⟨d, by rw [k6, getD_someN hd], by rw [mt_mod hi, hof, List.getElem?_map, hd]; rfl, hkd, by rw [d6, mt_mt hi, getD_someN hc]⟩, ⟨k1, k2, by rw [k3, List.length_map], by rw [d3, List.length_map, y5, List.length_map]⟩, ⟨hg.2.1, hg.2.2⟩, ?_, fun j e he => ?_, fun hch => ?_⟩, hc⟩
  · rw [hty]
    refine Prod.ext rfl ?_
    dsimp only
    split
    · rfl
    · omega
  · have hmem : e ∈ allE x := List.mem_append_left _ (List.mem_of_getElem? he)
    obtain ⟨a, r, p, l1, l2, l3, l4, l5⟩ := link_goes hk h32 ho hx hmem ⟨hs0, hs1⟩ hf
    have hpl := mt_place hk hx y2 (List.mem_of_getElem? he)
    have hpt : (placeL (twoL xs) x e).1 < 2 * xs.length := by
      have := (List.getElem?_eq_some_iff.1 l2).1
      rw [num_len hL] at this
      omega
    obtain ⟨ya, hya, hya5⟩ := live_some (sc_live hL (a := m) (p := placeL (twoL xs) x e) (by unfold scL; rw [hx]; exact List.mem_map_of_mem hmem))
    have hself : rootL (twoL xs) (placeL (twoL xs) x e).1 = (placeL (twoL xs) x e).1 := by
      have h1 := root_self hL (live_of hya hya5)
      have h2 := root_get (twoL xs) (i := (placeL (twoL xs) x e).1) (by omega)
      rw [h1] at h2
      exact (Option.some.inj h2).symm
    obtain ⟨ka, hka, _, _, _, _, _, a6⟩ := cls_node hk ho l2 (x := ya) (by rw [hself]; exact hya)
    refine ⟨a, r, p, ka, by rw [k3, List.getElem?_map, he, Option.map_some, l1], hka, ?_, ?_, l5⟩
    · rw [d3, y5, List.map_map, List.getElem?_map, he]
      show some (linkL (twoL xs) (numL (twoL xs)).2 x' (mtE xs.length e)) = _
      unfold linkL
      rw [hpl, a6, l3]
    · unfold nextA
      rw [nodeAt_nat, hkc]
      dsimp only
      have hj : j < k.next.length := by rw [k3, List.length_map]; exact (List.getElem?_eq_some_iff.1 he).1
      rw [if_neg (by omega), Int.toNat_natCast, List.getD_eq_getElem?_getD, k3, List.getElem?_map, he, Option.map_some, Option.getD_some, l1]
      exact l4
  · have hmem : x.pay ∈ allE x := by unfold allE; rw [hch]; simp
    obtain ⟨a, r, p, l1, l2, l3, l4, l5⟩ := link_goes hk h32 ho hx hmem ⟨hs0, hs1⟩ hf
    have hpp : kd.pay = k.pay := by
      rw [d4 (by rw [y3]; exact hch), k4 hch, y4]
      unfold linkL
      rw [place_prio y2]
    refine ⟨hpp, ?_⟩
    unfold payA
    rw [nodeAt_nat, hkc]
    dsimp only
    rw [k2, hch, if_pos rfl, k4 hch, l1, l4, l5]
/-- How many classes have come among the first i. -/
def seenN (os : List Nat) : Nat → Nat
  | 0 => 0
  | i + 1 => max (seenN os i) (os.getD i 0 + 1)
theorem seen_ge {os : List Nat} : ∀ {i j c : Nat}, j < i → os[j]? = some c → c < seenN os i
  | i + 1, j, c, h, hc => by
    unfold seenN
    by_cases e : j = i
    · subst e; rw [getD_someN hc]; omega
    · have := seen_ge (i := i) (by omega) hc
      omega
theorem seen_le {L : List Nd} (hL : TW L) : ∀ i, i ≤ L.length → seenN (numL L).2 i ≤ (numL L).1.length
  | 0, _ => Nat.zero_le _
  | i + 1, h => by
    unfold seenN
    have := seen_le hL i (by omega)
    have := num_lt hL (by omega) i
    omega
theorem seen_cls {L : List Nd} (hL : TW L) {i c : Nat} (hc : (numL L).2[i]? = some c) : c ≤ seenN (numL L).2 i := by
  rcases Nat.eq_zero_or_pos c with h | h
  · omega
  · obtain ⟨j, hj, hjc⟩ := (cls_num hL).next hc (c - 1) (by omega)
    have := seen_ge hj hjc
    omega
theorem seen_all {L : List Nd} (hL : TW L) : seenN (numL L).2 L.length = (numL L).1.length := by
  have h := seen_le hL L.length (Nat.le_refl _)
  rcases Nat.eq_zero_or_pos (numL L).1.length with h0 | h0
  · omega
  · obtain ⟨y, hy⟩ : ∃ y, (numL L).1[(numL L).1.length - 1]? = some y := ⟨_, List.getElem?_eq_getElem (by omega)⟩
    obtain ⟨j, hj, hjc, _⟩ := (cls_num hL).first _ y hy
    have := seen_ge (i := L.length) (by have := (List.getElem?_eq_some_iff.1 hj).1; rwa [roots_len] at this) hjc
    omega
end
end Go.Proofs.Ytepjkoegbehojaa

/- ClassLinks: where classes, numbers and nodes lie. No walk. -/
namespace Go.Proofs.Ytepjkoegbehojaa
open Go.RowKit

theorem lk_open {W : World} {zs : List Nd} {A2 A3 A4 A5 : Option Addr} {n2 c2 c3 c4 c5 ll : Nat} (hT : TabV W (.agg #[.slice A2 n2 c2, .slice A3 ll c3, .slice A4 ll c4]) (clsT zs)) (hN : Tbl W (.slice A5 ll c5) (twoL zs)) (h0 : 0 < ll) (hl : (twoL zs).length = ll) (ho : (clsT zs).of_.length = ll) :
    ∃ bw ow bc oc bo oo, A5 = some ⟨bw, ow, none⟩ ∧ A2 = some ⟨bc, oc, none⟩ ∧ A3 = some ⟨bo, oo, none⟩ ∧ (∀ (i : Nat) (x : Nd), (twoL zs)[i]? = some x → NdAt W bw (ow + i * 6) x) ∧ (∀ (i : Nat) (k : Nd), (clsT zs).cls[i]? = some k → NdAt W bc (oc + i * 6) k) ∧
      ∀ (i : Nat) (z : Int), (clsT zs).of_[i]? = some z → W.cell? ⟨bo, oo + i, none⟩ = some (.int .i64 z) := by
  obtain ⟨hC, hO, _⟩ := tab_parts hT
  obtain ⟨z, hz⟩ : ∃ z, (clsT zs).of_[0]? = some z := ⟨_, List.getElem?_eq_getElem (by omega)⟩
  have hw := (wf_clsT zs).of_ z (List.mem_of_getElem? hz)
  obtain ⟨Ax, cx, e1, hcl⟩ := hN
  obtain ⟨bw, ow, rfl, hcl1⟩ := hcl (fun e => by rw [e] at hl; simp at hl; omega)
  simp only [Value.slice.injEq] at e1
  obtain ⟨rfl, _, rfl⟩ := e1
  obtain ⟨Ay, cy, e2, hcc⟩ := hC
  obtain ⟨bc, oc, rfl, hcc1⟩ := hcc (fun e => by rw [e] at hw; simp at hw; omega)
  simp only [Value.slice.injEq] at e2
  obtain ⟨rfl, _, rfl⟩ := e2
  obtain ⟨Az, cz, e3, _, hco⟩ := hO
  obtain ⟨bo, oo, rfl, hco1⟩ := hco (fun e => by rw [e] at hz; simp at hz)
  simp only [Value.slice.injEq] at e3
  obtain ⟨rfl, _, rfl⟩ := e3
  exact ⟨bw, ow, bc, oc, bo, oo, rfl, rfl, rfl, hcl1, hcc1, hco1⟩
/-- What stands in a turn: the boxes of the table, the type, the node and the class; the dual's class. -/
structure LkW (zs : List Nd) (Bt By Bn Bk bc oc n2 c2 bo oo ll c3 : Nat) (A4 : Option Addr) (c4 m cc d nx : Nat) (o : Int) (x k kd : Nd) (Ax Ak Ad : Option Addr) (cx ck cd : Nat) (W : World) : Prop where
  tab : TabV W (.agg #[.slice (some ⟨bc, oc, none⟩) n2 c2, .slice (some ⟨bo, oo, none⟩) ll c3, .slice A4 ll c4]) (clsT zs)
  bt : Blk W Bt 27 #[.slice (some ⟨bc, oc, none⟩) n2 c2, .slice (some ⟨bo, oo, none⟩) ll c3, .slice A4 ll c4]
  by_ : Blk W By 35 #[.int .i64 (m : Int), .int .i64 o]
  bn : Blk W Bn 46 #[.int .i64 x.kind, .int .i64 x.prio, .bool x.chan, .int .i64 x.pay.1, .int .i64 x.pay.2, .slice Ax nx cx]
  bk : Blk W Bk 57 #[.int .i64 x.kind, .int .i64 (d : Int), .bool x.chan, .int .i64 k.pay.1, .int .i64 k.pay.2, .slice Ak nx ck]
  ex : Edges W (.slice Ax nx cx) x.next
  ek : Edges W (.slice Ak nx ck) k.next
  ed : Edges W (.slice Ad nx cd) kd.next
  cls : ∀ (i : Nat) (y : Nd), (clsT zs).cls[i]? = some y → NdAt W bc (oc + i * 6) y
  d1 : W.cell? ⟨bc, oc + d * 6 + 1, none⟩ = some (.int .i64 (cc : Int))
  d3 : W.cell? ⟨bc, oc + d * 6 + 3, none⟩ = some (.int .i64 kd.pay.1)
  d4 : W.cell? ⟨bc, oc + d * 6 + 4, none⟩ = some (.int .i64 kd.pay.2)
  d5 : W.cell? ⟨bc, oc + d * 6 + 5, none⟩ = some (.slice Ad nx cd)
section
variable {zs : List Nd} {Bt By Bn Bk bc oc n2 c2 bo oo ll c3 : Nat} {A4 : Option Addr} {c4 m cc d nx : Nat} {o : Int} {x k kd : Nd} {Ax Ak Ad : Option Addr} {cx ck cd : Nat} {W W' : World}
theorem LkW.kept (h : LkW zs Bt By Bn Bk bc oc n2 c2 bo oo ll c3 A4 c4 m cc d nx o x k kd Ax Ak Ad cx ck cd W) (hg : W.grownBy W' none) : LkW zs Bt By Bn Bk bc oc n2 c2 bo oo ll c3 A4 c4 m cc d nx o x k kd Ax Ak Ad cx ck cd W' :=
  have q := Keeps.grown hg
  ⟨h.tab.keep q, h.bt.kept hg, h.by_.kept hg, h.bn.kept hg, h.bk.kept hg, h.ex.keep q, h.ek.keep q, h.ed.keep q, fun i y hy => (h.cls i y hy).keep q, q _ _ h.d1, q _ _ h.d3, q _ _ h.d4, q _ _ h.d5⟩
/-- The edges' cells at an index. -/
theorem edges_cell {W : World} {A : Option Addr} {n c j : Nat} {es : List Ed} {e : Ed} (h : Edges W (.slice A n c) es) (hj : es[j]? = some e) : ∃ b off, A = some ⟨b, off, none⟩ ∧ W.cell? ⟨b, off + j * 2, none⟩ = some (.int .i64 e.1) ∧ W.cell? ⟨b, off + j * 2 + 1, none⟩ = some (.int .i64 e.2) := by
  obtain ⟨A', c', e1, _, hcl⟩ := h
  obtain ⟨b, off, rfl, hcl1⟩ := hcl (fun e => by rw [e] at hj; simp at hj)
  simp only [Value.slice.injEq] at e1
  exact ⟨b, off, e1.1, hcl1 j e hj⟩
theorem edges_shape {W : World} {v : Value} {es : List Ed} {n : Nat} (h : Edges W v es) (hn : es.length = n) : ∃ A c, v = .slice A n c := by
  obtain ⟨A, c, rfl, _⟩ := h
  exact ⟨A, c, by rw [hn]⟩
end
end Go.Proofs.Ytepjkoegbehojaa

/- Texts joined for the claim's sake: CAprP, Grd, Ovs. -/
import Derived.Test.YtepjkoegbehojaaZMgBJ
import Derived.Test.YtepjkoegbehojaaZMgAN
import Derived.Test.YtepjkoegbehojaaZMgAC
/- Told apart by a way of a few steps: what the law's own 'apart' reckons, of a table and its duals. No program. -/
namespace Go.Proofs.Ytepjkoegbehojaa
open Go.RowKit

section
variable {xs : List Nd}
theorem head_dual (n : Nat) (x : Nd) : headB (dualN n x) = headB (turnN x) := by
  unfold headB dualN turnN payB
  simp only [List.length_map]
theorem okt_two (hk : OKT xs) (h32 : xs.length ≤ 32) : OKT (twoL xs) := by
  refine ⟨by rw [twoL_len]; have := hk.pos; omega, by rw [twoL_len]; omega, fun x hx => ?_, fun j hj => ?_⟩
  · rw [twoL_len]
    unfold twoL at hx
    rcases List.mem_append.1 hx with hx | hx
    · have hg := hk.good x hx
      have hf := ill_facts hg.1
      exact good_of hf.1 hf.2.1 (fun e he => by have := hf.2.2 e he; omega) hg.2
    · obtain ⟨y, hy, rfl⟩ := List.mem_map.1 hx
      have hg := hk.good y hy
      have hf := ill_facts hg.1
      have hed : ∀ e ∈ edgesL (dualN xs.length y), ∃ f ∈ edgesL y, e.2 = f.2 ∧ (e.1 = f.1 ∨ e.1 = f.1 + xs.length) := fun e he => by
        unfold edgesL dualN at he
        rcases List.mem_append.1 he with he | he
        · exact ⟨e, by unfold edgesL; exact List.mem_append_left _ he, rfl, .inl rfl⟩
        · obtain ⟨f, hf, rfl⟩ := List.mem_map.1 he
          exact ⟨f, by unfold edgesL; exact List.mem_append_right _ hf, rfl, .inr rfl⟩
      refine good_of (by rw [head_dual, head_turn]; exact hf.1) (fun e he => ?_) (fun e he => ?_) (by show (y.next.map _).length ≤ 8; rw [List.length_map]; exact hg.2)
      · obtain ⟨f, h1, h2, _⟩ := hed e he
        have := hf.2.1 f h1
        omega
      · obtain ⟨f, h1, _, h2⟩ := hed e he
        have := hf.2.2 f h1
        omega
  · have hL := tw_two hk
    obtain ⟨m, y, s, hy, _, _, _, hr⟩ := hL.root (j : Int) (by omega) (by omega)
    cases hb : lostB (twoL xs) j with
    | false => rfl
    | true =>
      have := (lost_iff (twoL xs) j).2 hb
      rw [hr 0 (by omega) (by omega)] at this
      dsimp only at this
      omega
/-- What the edge of a table rises, where all rises are. -/
theorem rise_one (hk : OKT xs) (ho : (orderL xs).2 = 0) {u : Nat} {x : Nd} {e : Ed} (hx : xs[u]? = some x) (hxa : actB x.kind = true) (he : e ∈ allE x) : ∀ (m : Nat) (y : Nd) (s : Int), xs[m]? = some y → resolveL xs e = ((m : Int), s) → y.kind ≠ 0 → 1 ≤ y.prio + s - x.prio := by
  intro m y s hy hr h0
  have hc := hk.check
  have hlow : lowB xs x = false := by
    unfold orderL at ho
    rw [hc, if_pos rfl] at ho
    exact low_all ho x (List.mem_of_getElem? hx)
  unfold lowB at hlow
  rw [hxa, Bool.true_and, List.any_eq_false] at hlow
  have hl := hlow e he
  obtain ⟨m', y', s', hy', h5, _, _, _, hr', _, hj⟩ := hk.jump hx he
  have hre := hr' 0 (by omega) (by omega)
  rw [Int.zero_add, Int.add_zero] at hre
  have hre2 : resolveL xs e = ((m' : Int), s') := hre
  rw [hr] at hre2
  simp only [Prod.mk.injEq] at hre2
  obtain ⟨e1, rfl⟩ := hre2
  obtain rfl : m = m' := by omega
  rw [hy] at hy'
  obtain rfl := Option.some.inj hy'
  unfold lowE at hl
  rw [hj, if_neg h0] at hl
  simpa using hl
theorem end_none {x : Nd} (h : headB x = true) (h0 : x.kind = 0) : allE x = [] := by
  unfold headB at h
  simp only [h0, Bool.and_eq_true] at h
  obtain ⟨⟨⟨_, h1⟩, _⟩, h2⟩ := h
  have hn : x.next = [] := by
    have h3 : withinB (x.next.length : Int) 0 0 = true := h1
    unfold withinB at h3
    simpa using h3
  have hc : x.chan = false := by
    cases hb : x.chan with
    | false => rfl
    | true => unfold payB at h2; rw [hb] at h2; cases h2
  unfold allE
  rw [hn, hc]
  rfl
theorem act_of (hk : OKT xs) {u : Nat} {x : Nd} {e : Ed} (hx : xs[u]? = some x) (h5 : x.kind ≠ 5) (he : e ∈ allE x) : actB x.kind = true := by
  have h0 : x.kind ≠ 0 := fun h => by
    rw [end_none (ill_facts (hk.good x (List.mem_of_getElem? hx)).1).1 h] at he
    cases he
  unfold actB
  simp [h0, h5]
theorem kind0_dual {k : Int} : dualK k = 0 ↔ k = 0 := by
  constructor
  · intro h
    have := congrArg dualK h
    rwa [dualK_twice] at this
  · intro h; rw [h]; rfl
/-- An edge of a table or of its duals comes to an End, or rises. -/
theorem rise_low (hk : OKT xs) (ho : (orderL xs).2 = 0) {u : Nat} {x : Nd} {e : Ed} (hx : xs[u]? = some x) (h5 : x.kind ≠ 5) (he : e ∈ allE x) :
    ∃ y, (twoL xs)[(placeL (twoL xs) x e).1]? = some y ∧ y.kind ≠ 5 ∧ (y.kind = 0 ∧ (placeL (twoL xs) x e).2 = 0 ∨ y.kind ≠ 0 ∧ 1 ≤ (placeL (twoL xs) x e).2) := by
  obtain ⟨m, y, s, hy, hy5, hm, _, _, hr, _, _⟩ := hk.jump hx he
  have hre := hr 0 (by omega) (by omega)
  rw [Int.zero_add, Int.add_zero] at hre
  have hre2 : resolveL xs e = ((m : Int), s) := hre
  have hb := hk.edge hx he
  have h3 := resolve_two hk (t := e) false hb.1 hb.2.1 (by rw [hre2]; show (0 : Int) ≤ (m : Int); omega)
  rw [hre2] at h3
  have h4 : resolveL (twoL xs) e = ((m : Int), s) := h3
  have hy2 := two_at hy
  unfold placeL
  rw [h4]
  simp only [Int.toNat_natCast, hy2]
  refine ⟨y, rfl, hy5, ?_⟩
  by_cases h0 : y.kind = 0
  · exact .inl ⟨h0, if_pos h0⟩
  · rw [if_neg h0]
    exact .inr ⟨h0, rise_one hk ho hx (act_of hk hx h5 he) he m y s hy hre2 h0⟩
theorem rise_two (hk : OKT xs) (ho : (orderL xs).2 = 0) {a : Nat} {x : Nd} {e : Ed} (hx : (twoL xs)[a]? = some x) (h5 : x.kind ≠ 5) (he : e ∈ allE x) :
    ∃ y, (twoL xs)[(placeL (twoL xs) x e).1]? = some y ∧ y.kind ≠ 5 ∧ (y.kind = 0 ∧ (placeL (twoL xs) x e).2 = 0 ∨ y.kind ≠ 0 ∧ 1 ≤ (placeL (twoL xs) x e).2) := by
  have ha := (List.getElem?_eq_some_iff.1 hx).1
  rw [twoL_len] at ha
  by_cases h : a < xs.length
  · obtain ⟨z, hz⟩ : ∃ z, xs[a]? = some z := ⟨_, List.getElem?_eq_getElem h⟩
    rw [two_at hz] at hx
    obtain rfl := Option.some.inj hx
    exact rise_low hk ho hz h5 he
  · obtain ⟨z, hz⟩ : ∃ z, xs[a - xs.length]? = some z := ⟨_, List.getElem?_eq_getElem (by omega)⟩
    have hu := two_up hz
    rw [show xs.length + (a - xs.length) = a by omega, hx] at hu
    obtain rfl := Option.some.inj hu
    have hz5 : z.kind ≠ 5 := fun e => h5 ((dualK_5 _).2 e)
    unfold allE at he
    rcases List.mem_append.1 he with he | he
    · obtain ⟨f, hf, rfl⟩ := List.mem_map.1 he
      have hfe : f ∈ allE z := List.mem_append_left _ hf
      have hb := hk.edge hz hfe
      have hmt : mtE xs.length f = upE xs.length f := by
        unfold mtE mtN upE
        rw [if_pos (by omega)]
        exact Prod.ext (by dsimp only; omega) rfl
      have hp := mt_place hk (two_at hz) (y := dualN xs.length z) rfl hf
      rw [hmt] at hp
      obtain ⟨y, hy, hy5, hc⟩ := rise_low hk ho hz hz5 hfe
      obtain ⟨y', hy', hyk, _⟩ := mt_node hk hy
      rw [hp]
      refine ⟨y', hy', by rw [hyk]; exact fun e => hy5 ((dualK_5 _).1 e), ?_⟩
      rw [hyk]
      exact hc.imp (fun h => ⟨kind0_dual.2 h.1, h.2⟩) (fun h => ⟨fun e => h.1 (kind0_dual.1 e), h.2⟩)
    · have hfe : e ∈ allE z := List.mem_append_right _ he
      have hpl : placeL (twoL xs) (dualN xs.length z) e = placeL (twoL xs) z e := rfl
      rw [hpl]
      exact rise_low hk ho hz hz5 hfe
theorem jump_two (hk : OKT xs) (h32 : xs.length ≤ 32) (ho : (orderL xs).2 = 0) {a : Nat} {x : Nd} {e : Ed} (hx : (twoL xs)[a]? = some x) (h5 : x.kind ≠ 5) (he : e ∈ allE x) :
    jumpA (twoL xs) (a : Int) e = ((placeL (twoL xs) x e).2, decide (0 < (placeL (twoL xs) x e).2)) := by
  have hk2 := okt_two hk h32
  have hb := hk2.edge hx he
  rw [jumpA_4 (by rw [hk2.check]) (nodeB_true.2 ⟨hb.1, hb.2.1⟩) (nodeAt_nat.trans hx)]
  obtain ⟨y, hy, hy5, hc⟩ := rise_two hk ho hx h5 he
  obtain ⟨m, z, s, hz, _, _, _, _, hr, _, hj⟩ := hk2.jump hx he
  have hre := hr 0 (by omega) (by omega)
  rw [Int.zero_add, Int.add_zero] at hre
  have hre2 : resolveL (twoL xs) e = ((m : Int), s) := hre
  have hpl : placeL (twoL xs) x e = (m, if z.kind = 0 then 0 else z.prio + s - x.prio) := by
    unfold placeL
    rw [hre2]
    simp only [Int.toNat_natCast, hz]
  rw [hj]
  rw [hpl] at hy hc ⊢
  dsimp only at hy hc ⊢
  rw [hz] at hy
  obtain rfl := Option.some.inj hy
  by_cases h0 : z.kind = 0
  · rw [if_pos h0, if_pos h0]
    rfl
  · rw [if_neg h0] at hc ⊢
    rw [if_neg h0]
    rcases hc with hc | hc
    · exact absurd hc.1 h0
    · dsimp only
      rw [decide_eq_true (by omega)]
theorem root_place {L : List Nd} (hL : TW L) {x : Nd} {e : Ed} (hx : x ∈ L) (he : e ∈ allE x) : rootL L e.1.toNat = (placeL L x e).1 := by
  obtain ⟨h0, h1, h2, h3⟩ := hL.edge x hx e he
  obtain ⟨m, y, s, hy, _, _, _, hr⟩ := hL.root e.1 h0 h1
  have hre : resolveL L e = ((m : Int), s + e.2) := hr e.2 (by omega) (by omega)
  unfold rootL placeL
  rw [show ((e.1.toNat : Nat) : Int) = e.1 by omega, hr 0 (by omega) (by omega), hre]
theorem apt_ten {L : List Nd} (hL : TW L) (h : L.length ≤ 10) {a b : Nat} (ha : liveB L a = true) (hb : liveB L b = true) : aptK (hdL L) (scL L) 10 a b = apL L a b := by
  rw [Bool.eq_iff_iff]
  refine ⟨fun h1 => (apL_iff hL ha hb).2 (aptK_apt 10 a b h1), fun h1 => aptK_le h h1⟩
/-- Of two nodes: they are told apart just if their classes are two. -/
theorem apart_two {L : List Nd} (hL : TW L) (h : L.length ≤ 10) {i j c d : Nat} (hi : (numL L).2[i]? = some c) (hj : (numL L).2[j]? = some d) : aptK (hdL L) (scL L) 10 (rootL L i) (rootL L j) = !decide (c = d) := by
  have hC := cls_num hL
  have hil : i < L.length := by have := (List.getElem?_eq_some_iff.1 hi).1; rw [num_len hL] at this; exact this
  have hjl : j < L.length := by have := (List.getElem?_eq_some_iff.1 hj).1; rw [num_len hL] at this; exact this
  have hri := root_get L hil
  have hrj := root_get L hjl
  have hl1 := roots_live hL _ (List.mem_of_getElem? hri)
  have hl2 := roots_live hL _ (List.mem_of_getElem? hrj)
  have hiff := hC.iff (apL_alike (fun a => liveB L a = true)) (roots_live hL) hri hrj hi hj
  rw [apt_ten hL h hl1 hl2]
  cases hb : apL L (rootL L i) (rootL L j) with
  | false => rw [decide_eq_true (hiff.2 hb)]; rfl
  | true =>
    rw [decide_eq_false (fun e => by have := hiff.1 e; rw [hb] at this; cases this)]
    rfl
end
end Go.Proofs.Ytepjkoegbehojaa

/- A region that draws its order, whose operations only read, call and make memory, and some of which are guarded by values that are known: in whatever order, at the end each operation that is wanted has answered its value. No program. -/
namespace Go.Proofs.Ytepjkoegbehojaa
open Go.RowKit

def guardOk (vals : List (Tmp × Value)) (ops : Array Oper) (o : Oper) : Bool := match o.guard with
  | none => (o.dst.bind fun t => vals.lookup t).isSome
  | some (j, want) => (o.after.toList.any fun e => Region.binds .any e && e.on == j) && (match (((ops[j]?).bind (·.dst)).bind fun t => vals.lookup t) with
    | some (.bool c) => o.dst.isSome && (if c == want then (o.dst.bind fun t => vals.lookup t).isSome else (o.dst.bind fun t => vals.lookup t).isNone)
    | _ => false)
def depsG (vals : List (Tmp × Value)) (ops : Array Oper) (o : Oper) : Bool := o.op.operands.toList.all fun
  | .tmp t => (vals.lookup t).isNone || (ops.toList.all fun oj => oj.dst != some t) || o.after.toList.any fun e => Region.binds .any e && ((ops[e.on]?).bind (·.dst) == some t)
  | _ => true
def regOkG (vals : List (Tmp × Value)) (ops : Array Oper) : Bool := ops.toList.zipIdx.all fun (o, i) => guardOk vals ops o && (o.after.toList.all fun e => !Region.binds .any e || decide (e.on < i)) && depsG vals ops o
section
variable {vals : List (Tmp × Value)} {ops : Array Oper}
theorem regOkG_at (h : regOkG vals ops = true) {i : Nat} {o : Oper} (hi : ops[i]? = some o) : guardOk vals ops o = true ∧ (∀ e ∈ o.after, Region.binds .any e = true → e.on < i) ∧ depsG vals ops o = true := by
  unfold regOkG at h
  rw [List.all_eq_true] at h
  have h1 := h (o, i) (List.mem_iff_getElem?.2 ⟨i, by rw [List.getElem?_zipIdx, Array.getElem?_toList, hi]; simp⟩)
  simp only [Bool.and_eq_true, List.all_eq_true, Bool.or_eq_true, Bool.not_eq_true', decide_eq_true_eq] at h1
  refine ⟨h1.1.1, fun e he hb => ?_, h1.2⟩
  rcases h1.1.2 e (Array.mem_toList_iff.2 he) with h2 | h2
  · rw [hb] at h2; cases h2
  · exact h2
theorem all_listedG (hok : regOkG vals ops = true) {listed : Array Bool} (hs : listed.size = ops.size) (hr : Region.ready .any ops listed = []) : ∀ i, i < ops.size → listed.getD i false = true := by
  intro i
  induction i using Nat.strongRecOn with
  | _ i ih =>
    intro hi
    cases hl : listed.getD i false with
    | true => rfl
    | false =>
      have ho : ops[i]? = some ops[i] := Array.getElem?_eq_getElem hi
      have hm : i ∈ Region.ready .any ops listed := mem_ready.2 ⟨by simpa [hs, hi] using hl, ops[i], ho, fun e he hb => by
        have := (regOkG_at hok ho).2.1 e he hb
        exact ih e.on this (by omega)⟩
      rw [hr] at hm
      cases hm
/-- An operation is wanted, and answers; or it is not wanted. -/
theorem guard_cases {o : Oper} (h : guardOk vals ops o = true) {listed : Array Bool} {tmps : Array Value} (hall : ∀ e ∈ o.after, Region.binds .any e = true → listed.getD e.on false = true)
    (hv : ∀ (i : Nat) (oi : Oper) (t : Tmp) (c : Value), listed.getD i false = true → ops[i]? = some oi → oi.dst = some t → vals.lookup t = some c → tmps.getD t undef = c) :
    ∃ t, o.dst = some t ∧ (Region.wanted o (yielded ops tmps) = true ∧ (∃ c, vals.lookup t = some c) ∨ Region.wanted o (yielded ops tmps) = false ∧ vals.lookup t = none) := by
  unfold guardOk at h
  cases hg : o.guard with
  | none =>
    rw [hg] at h
    dsimp only at h
    obtain ⟨c, hc⟩ := Option.isSome_iff_exists.1 h
    obtain ⟨t, ht, hc⟩ := Option.bind_eq_some_iff.1 hc
    exact ⟨t, ht, .inl ⟨by simp [Region.wanted, hg], c, hc⟩⟩
  | some p =>
    obtain ⟨j, want⟩ := p
    rw [hg] at h
    dsimp only at h
    rw [Bool.and_eq_true, List.any_eq_true] at h
    obtain ⟨⟨e, he, hb⟩, h2⟩ := h
    simp only [Bool.and_eq_true, beq_iff_eq] at hb
    have hl := hall e (Array.mem_toList_iff.1 he) hb.1
    rw [hb.2] at hl
    split at h2
    · rename_i c hc
      obtain ⟨tj, htj, hc⟩ := Option.bind_eq_some_iff.1 hc
      obtain ⟨oj, hoj, htj⟩ := Option.bind_eq_some_iff.1 htj
      rw [Bool.and_eq_true] at h2
      obtain ⟨t, ht⟩ := Option.isSome_iff_exists.1 h2.1
      have h3 := h2.2
      rw [ht, Option.bind_some] at h3
      have hw := hv j oj tj (.bool c) hl hoj htj hc
      have hy : yielded ops tmps j = some c := by
        unfold yielded
        have hlt : tj < tmps.size := by
          rcases Nat.lt_or_ge tj tmps.size with h | h
          · exact h
          · have hn : ¬ tj < tmps.size := Nat.not_lt.2 h
            simp [Array.getD_eq_getD_getElem?, hn] at hw
            cases hw
        have hx : tmps[tj]? = some (.bool c) := by
          rw [Array.getD_eq_getD_getElem?, Array.getElem?_eq_getElem hlt] at hw
          rw [Array.getElem?_eq_getElem hlt]
          exact congrArg some hw
        simp [hoj, htj, hx]
      refine ⟨t, ht, ?_⟩
      by_cases hcw : c = want
      · rw [if_pos (by simp [hcw])] at h3
        exact .inl ⟨by simp [Region.wanted, hg, hy, hcw], Option.isSome_iff_exists.1 h3⟩
      · rw [if_neg (by simp [hcw])] at h3
        exact .inr ⟨by simp [Region.wanted, hg, hy, hcw], by simpa using h3⟩
    · cases h2
end

theorem region_guards {P : Program} {ops : Array Oper} {Q : Exit → Act → World → Prop} {id : Nat} {a : Act} {w : World} (hm : P.follows .mixedOrders = true) (vals : List (Tmp × Value)) (hok : regOkG vals ops = true) (ds : List Tmp) (hds : dstsOf ops = ds) (hlt : (ds.all fun t => decide (t < a.tmps.size)) = true) (hdn : ds.Nodup)
    (h0 : ∀ p ∈ vals, p.1 ∉ ds → a.tmps.getD p.1 undef = p.2)
    (hops : AllOps (fun _ o => ∀ t c, o.dst = some t → vals.lookup t = some c → OpVal P o vals w c) ops.toList 0)
    (hQ : ∀ (vs : Tmp → Value) (W : World), w.grownBy W none → (∀ t v, vals.lookup t = some v → t ∈ ds → vs t = v) →
      Q .normal { a with tmps := ds.foldl (fun (ts : Array Value) t => ts.setIfInBounds t (vs t)) a.tmps } W) :
    (Code.region id ops true).wp P Q a w := by
  subst hds
  have hu : ∀ (i j : Nat) (oi oj : Oper) (t : Tmp), ops[i]? = some oi → ops[j]? = some oj → oi.dst = some t → oj.dst = some t → i = j := fun i j oi oj t hi hj ei ej =>
    nodup_at hdn (by rw [Array.getElem?_toList]; exact hi) (by rw [Array.getElem?_toList]; exact hj) ei ej
  have hdl : ∀ t ∈ dstsOf ops, t < a.tmps.size := fun t ht => by simpa using List.all_eq_true.1 hlt t ht
  refine wp_region_any hm (wpAny_inv (fun listed b W => w.grownBy W none ∧ b.defers = a.defers ∧ b.tmps.size = a.tmps.size ∧ (∀ t, t ∉ dstsOf ops → b.tmps[t]? = a.tmps[t]?) ∧
    (∀ (i : Nat) (o : Oper) (t : Tmp) (c : Value), listed.getD i false = true → ops[i]? = some o → o.dst = some t → vals.lookup t = some c → b.tmps.getD t undef = c)) ?_ ?_ ops.size _ _ _ (by simp) (by
      have := List.countP_le_length (p := (! ·)) (l := (Array.replicate ops.size false).toList)
      simpa using this) ?_)
  · rintro listed b W hs ⟨i1, i2, i3, i4, i5⟩ i hi
    obtain ⟨hni, o, ho, hall⟩ := mem_ready.1 hi
    have hil : i < ops.size := (Array.getElem?_eq_some_iff.1 ho).1
    obtain ⟨g1, g2, g3⟩ := regOkG_at hok ho
    have henv : ∀ t v, Operand.tmp t ∈ o.op.operands → vals.lookup t = some v → b.eval (.tmp t) = v := fun t v ht hv => by
      unfold depsG at g3
      rw [List.all_eq_true] at g3
      have h1 := g3 (.tmp t) (Array.mem_toList_iff.2 ht)
      simp only [Bool.or_eq_true, List.all_eq_true, List.any_eq_true, Bool.and_eq_true, bne_iff_ne, ne_eq, beq_iff_eq, hv, Option.isNone_some, Bool.false_eq_true, false_or] at h1
      rcases h1 with h1 | ⟨e, he, hb, hx⟩
      · have h4 : t ∉ dstsOf ops := fun hm => by
          obtain ⟨i, oi, hi, e⟩ := mem_dsts.1 hm
          exact h1 oi (List.mem_iff_getElem?.2 ⟨i, by rw [Array.getElem?_toList]; exact hi⟩) e
        have h5 := i4 t h4
        show b.tmps.getD t undef = v
        rw [Array.getD_eq_getD_getElem?, h5, ← Array.getD_eq_getD_getElem?]
        exact h0 (t, v) (lookup_mem hv) h4
      · obtain ⟨oj, hoj, e1⟩ := Option.bind_eq_some_iff.1 hx
        exact i5 e.on oj t v (hall e (Array.mem_toList_iff.1 he) hb) hoj e1 hv
    have hset : ∀ j, i ≠ j → (listed.setIfInBounds i true).getD j false = listed.getD j false := fun j hij => getD_set_ne false hij
    obtain ⟨t, htd, hcase⟩ := guard_cases g1 hall i5
    have key : ∀ (x : Value) W', W.grownBy W' none → (∀ c, vals.lookup t = some c → x = c) → w.grownBy W' none ∧ (b.put o.dst x).defers = a.defers ∧ (b.put o.dst x).tmps.size = a.tmps.size ∧ (∀ t, t ∉ dstsOf ops → (b.put o.dst x).tmps[t]? = a.tmps[t]?) ∧
        (∀ (j : Nat) (oj : Oper) (t' : Tmp) (c' : Value), (listed.setIfInBounds i true).getD j false = true → ops[j]? = some oj → oj.dst = some t' → vals.lookup t' = some c' → (b.put o.dst x).tmps.getD t' undef = c') := fun x W' hg hx => by
      refine ⟨only_trans i1 hg, by rw [htd]; exact i2, by simp [Act.put, htd, i3], fun t' ht' => ?_, fun j oj t' c' hl hoj e1 e2 => ?_⟩
      · have hne : t ≠ t' := fun e => ht' (mem_dsts.2 ⟨i, o, ho, by rw [htd, e]⟩)
        rw [htd]
        simp only [Act.put]
        rw [Array.getElem?_setIfInBounds_ne hne]
        exact i4 t' ht'
      · by_cases hij : i = j
        · subst hij
          rw [ho] at hoj
          obtain rfl := Option.some.inj hoj
          rw [htd] at e1
          obtain rfl := Option.some.inj e1
          have : t < b.tmps.size := by rw [i3]; exact hdl t (mem_dsts.2 ⟨i, o, ho, htd⟩)
          rw [htd, ← hx c' e2]
          simp [Act.put, this]
        · have hne : t ≠ t' := fun e => hij (hu i j o oj t ho hoj htd (by rw [e]; exact e1))
          rw [hset j hij] at hl
          rw [htd]
          simp only [Act.put]
          rw [Array.getD_eq_getD_getElem?, Array.getElem?_setIfInBounds_ne hne, ← Array.getD_eq_getD_getElem?]
          exact i5 j oj t' c' hl hoj e1 e2
    unfold wpOp
    simp only [ho]
    rcases hcase with ⟨hw, c, hc⟩ | ⟨hw, hc⟩
    · rw [if_pos hw]
      refine .inl ?_
      have hop := hops.at_ i o (by rw [Array.getElem?_toList]; exact ho) t c htd hc
      unfold Oper.wp
      rcases hop b W i1 henv with h | ⟨f, args, h, hcall⟩
      · rw [h, Oper.upon_value]
        exact key c W (only_refl _ _) (fun c' h' => by rw [hc] at h'; exact Option.some.inj h')
      · rw [h, Oper.upon_enter]
        refine hcall.mono ?_
        rintro e w'' ⟨rfl, hg⟩
        exact key c w'' hg (fun c' h' => by rw [hc] at h'; exact Option.some.inj h')
    · rw [if_neg (by rw [hw]; decide)]
      exact key undef W (only_refl _ _) (fun c' h' => by rw [hc] at h'; cases h')
  · rintro listed b W hs ⟨i1, i2, i3, i4, i5⟩ hr
    have hl := all_listedG hok hs hr
    have hlo : ∀ {i o}, ops[i]? = some o → listed.getD i false = true := fun h => hl _ (Array.getElem?_eq_some_iff.1 h).1
    have hb : b = { a with tmps := (dstsOf ops).foldl (fun (ts : Array Value) t => ts.setIfInBounds t (b.tmps.getD t undef)) a.tmps } := by
      obtain ⟨bt, bd⟩ := b
      obtain ⟨at_, ad⟩ := a
      simp only [Act.mk.injEq]
      refine ⟨?_, i2⟩
      apply Array.ext_getElem?
      intro t
      dsimp only at i3 i4
      rw [foldSet]
      by_cases h1 : t ∈ dstsOf ops
      · by_cases h2 : t < at_.size
        · have : t < bt.size := by omega
          simp [h1, h2, this]
        · simp [h2, i3]
      · simp only [h1, false_and, if_false]
        exact i4 t h1
    rw [hb]
    refine hQ (fun t => b.tmps.getD t undef) W i1 (fun t v hv ht => ?_)
    obtain ⟨i, o, ho, e⟩ := mem_dsts.1 ht
    exact i5 i o t v (hlo ho) ho e hv
  · have hno : ∀ j, (Array.replicate ops.size false).getD j false = false := fun j => by
      simp only [Array.getD_eq_getD_getElem?, Array.getElem?_replicate]
      split <;> rfl
    refine ⟨only_drew (only_refl w none), rfl, rfl, fun _ _ => rfl, fun i o t c hl => ?_⟩
    rw [hno] at hl; cases hl

/-! ### What single operations answer -/
section
variable {vals : List (Tmp × Value)} {w : World} {o : Oper}
/-- Of an operation that is wanted. -/
theorem og {P : Program} {t : Tmp} {c : Value} (ho : o.dst = some t) (hv : vals.lookup t = some c) (h : OpVal P o vals w c) : ∀ t c, o.dst = some t → vals.lookup t = some c → OpVal P o vals w c := fun t' c' h1 h2 => by
  rw [ho] at h1
  obtain rfl := Option.some.inj h1
  rw [hv] at h2
  obtain rfl := Option.some.inj h2
  exact h
/-- Of one that is not. -/
theorem oskip {P : Program} {t : Tmp} (ho : o.dst = some t) (hv : vals.lookup t = none) : ∀ t c, o.dst = some t → vals.lookup t = some c → OpVal P o vals w c := fun t' c' h1 h2 => by
  rw [ho] at h1
  obtain rfl := Option.some.inj h1
  rw [hv] at h2
  cases h2
theorem ov_neq_int {s i : Tmp} {a c : Int} {b : Bool} {ty : TypeId} (ho : o.op = .binOp .neq 3 (.tmp s) (.tmp i) ty) (hs : vals.lookup s = some (.int .i64 a)) (hi : vals.lookup i = some (.int .i64 c)) (hb : (a != c) = b) : OpVal Try.prog o vals w (.bool b) := fun b' W hg hr => by
  have he := hr s _ (by rw [ho]; simp [Op.operands]) hs
  have hf := hr i _ (by rw [ho]; simp [Op.operands]) hi
  obtain ⟨dst, op, type, pos, after, guard⟩ := o
  dsimp only at ho
  subst ho
  subst hb
  refine .inl ?_
  simp only [execOp, he, hf]
  go_simp
theorem ov_eql_int {s i : Tmp} {a c : Int} {b : Bool} {ty : TypeId} (ho : o.op = .binOp .eql 3 (.tmp s) (.tmp i) ty) (hs : vals.lookup s = some (.int .i64 a)) (hi : vals.lookup i = some (.int .i64 c)) (hb : (a == c) = b) : OpVal Try.prog o vals w (.bool b) := fun b' W hg hr => by
  have he := hr s _ (by rw [ho]; simp [Op.operands]) hs
  have hf := hr i _ (by rw [ho]; simp [Op.operands]) hi
  obtain ⟨dst, op, type, pos, after, guard⟩ := o
  dsimp only at ho
  subst ho
  subst hb
  refine .inl ?_
  simp only [execOp, he, hf]
  go_simp
theorem ov_neq_bool {s i : Tmp} {a c : Bool} {b : Bool} {ty : TypeId} (ho : o.op = .binOp .neq 4 (.tmp s) (.tmp i) ty) (hs : vals.lookup s = some (.bool a)) (hi : vals.lookup i = some (.bool c)) (hb : (a != c) = b) : OpVal Try.prog o vals w (.bool b) := fun b' W hg hr => by
  have he := hr s _ (by rw [ho]; simp [Op.operands]) hs
  have hf := hr i _ (by rw [ho]; simp [Op.operands]) hi
  obtain ⟨dst, op, type, pos, after, guard⟩ := o
  dsimp only at ho
  subst ho
  subst hb
  refine .inl ?_
  simp only [execOp, he, hf]
  cases a <;> cases c <;> go_simp
theorem ov_gtr_c {s : Tmp} {a c : Int} {b : Bool} {ty : TypeId} (ho : o.op = .binOp .gtr 3 (.tmp s) (.const (.int .i64 c)) ty) (hs : vals.lookup s = some (.int .i64 a)) (hb : decide (a > c) = b) : OpVal Try.prog o vals w (.bool b) := fun b' W hg hr => by
  have he := hr s _ (by rw [ho]; simp [Op.operands]) hs
  obtain ⟨dst, op, type, pos, after, guard⟩ := o
  dsimp only at ho
  subst ho
  subst hb
  refine .inl ?_
  simp only [execOp, he]
  go_simp
theorem ov_sub_c {s : Tmp} {a c : Int} {ty : TypeId} (ho : o.op = .binOp .sub 3 (.tmp s) (.const (.int .i64 c)) ty) (hs : vals.lookup s = some (.int .i64 a)) (h0 : -1000000000 ≤ a) (h1 : a ≤ 1000000000) (h2 : -1000000000 ≤ c) (h3 : c ≤ 1000000000) : OpVal Try.prog o vals w (.int .i64 (a - c)) := fun b' W hg hr => by
  have he := hr s _ (by rw [ho]; simp [Op.operands]) hs
  have hw : IntKind.i64.wrap (a - c) = a - c := IntWalk.i64_in _ ⟨by omega, by omega⟩
  obtain ⟨dst, op, type, pos, after, guard⟩ := o
  dsimp only at ho
  subst ho
  refine .inl ?_
  simp only [execOp, he]
  go_simp
theorem ov_pick_true {s : Tmp} {u v : Operand} {c : Value} (ho : o.op = .pick (.tmp s) u v) (hs : vals.lookup s = some (.bool true)) (hu : ∀ b : Act, (∀ t v, Operand.tmp t ∈ o.op.operands → vals.lookup t = some v → b.eval (.tmp t) = v) → b.eval u = c) : OpVal Try.prog o vals w c := fun b W hg hr => by
  have he := hr s _ (by rw [ho]; simp [Op.operands]) hs
  have hf := hu b hr
  obtain ⟨dst, op, type, pos, after, guard⟩ := o
  dsimp only at ho
  subst ho
  refine .inl ?_
  simp only [execOp, he, hf]
  go_simp
theorem ov_pick_false {s : Tmp} {u v : Operand} {c : Value} (ho : o.op = .pick (.tmp s) u v) (hs : vals.lookup s = some (.bool false)) (hu : ∀ b : Act, (∀ t v, Operand.tmp t ∈ o.op.operands → vals.lookup t = some v → b.eval (.tmp t) = v) → b.eval v = c) : OpVal Try.prog o vals w c := fun b W hg hr => by
  have he := hr s _ (by rw [ho]; simp [Op.operands]) hs
  have hf := hu b hr
  obtain ⟨dst, op, type, pos, after, guard⟩ := o
  dsimp only at ho
  subst ho
  refine .inl ?_
  simp only [execOp, he, hf]
  go_simp
theorem ov_index_edge {s i : Tmp} {b0 off n c k : Nat} (ho : o.op = .indexAddr 44 (.tmp s) (.tmp i)) (hs : vals.lookup s = some (.slice (some ⟨b0, off, none⟩) n c)) (hi : vals.lookup i = some (.int .i64 (k : Int))) (hk : k < n) : OpVal Try.prog o vals w (.pointer (some ⟨b0, off + k * 2, none⟩)) := fun b W hg hr => by
  have he := hr s _ (by rw [ho]; simp [Op.operands]) hs
  have hf := hr i _ (by rw [ho]; simp [Op.operands]) hi
  have hk0 : (0 : Int) ≤ (k : Int) := by omega
  have hk1 : (k : Int) < (n : Int) := by omega
  obtain ⟨dst, op, type, pos, after, guard⟩ := o
  dsimp only at ho
  subst ho
  refine .inl ?_
  simp only [execOp, he, hf]
  go_simp
theorem ov_field_edge0 {t : Tmp} {g off : Nat} (ho : o.op = .fieldAddr 43 (.tmp t) 0) (hv : vals.lookup t = some (.pointer (some ⟨g, off, none⟩))) : OpVal Try.prog o vals w (.pointer (some ⟨g, off, none⟩)) := fun b W hg hr => by
  have he := hr t _ (by rw [ho]; simp [Op.operands]) hv
  obtain ⟨dst, op, type, pos, after, guard⟩ := o
  dsimp only at ho
  subst ho
  refine .inl ?_
  simp only [execOp, he]
  go_simp
/-- A call of four arguments. -/
theorem ov_call4 {f : FuncId} {t1 t2 t3 t4 : Tmp} {c1 c2 c3 c4 r : Value} {ts : Array TypeId} (ho : o.op = .call { callee := .value (.func f), args := #[.tmp t1, .tmp t2, .tmp t3, .tmp t4], argTypes := ts }) (h1 : vals.lookup t1 = some c1) (h2 : vals.lookup t2 = some c2) (h3 : vals.lookup t3 = some c3) (h4 : vals.lookup t4 = some c4) (hrun : ∀ W, (callFunc f #[c1, c2, c3, c4]).run Try.prog W = .ok (.enter f #[c1, c2, c3, c4]) W)
    (hc : ∀ W, w.grownBy W none → Calls Try.prog f #[c1, c2, c3, c4] W fun e w'' => e = .returned r ∧ W.grownBy w'' none) : OpVal Try.prog o vals w r := fun b W hg hr => by
  have e1 := hr t1 _ (by rw [ho]; simp [Op.operands, Call.operands]) h1
  have e2 := hr t2 _ (by rw [ho]; simp [Op.operands, Call.operands]) h2
  have e3 := hr t3 _ (by rw [ho]; simp [Op.operands, Call.operands]) h3
  have e4 := hr t4 _ (by rw [ho]; simp [Op.operands, Call.operands]) h4
  obtain ⟨dst, op, type, pos, after, guard⟩ := o
  dsimp only at ho
  subst ho
  refine .inr ⟨f, #[c1, c2, c3, c4], ?_, hc W hg⟩
  have e1' : b.tmps[t1]?.getD undef = c1 := by simpa [Act.eval] using e1
  have e2' : b.tmps[t2]?.getD undef = c2 := by simpa [Act.eval] using e2
  have e3' : b.tmps[t3]?.getD undef = c3 := by simpa [Act.eval] using e3
  have e4' : b.tmps[t4]?.getD undef = c4 := by simpa [Act.eval] using e4
  simp [execOp, resolve, Deferred.ofValue, invoke, Act.eval, e1', e2', e3', e4', hrun W]
end
end Go.Proofs.Ytepjkoegbehojaa

/- What more single operations answer, in a region that draws its order. No walk. -/
namespace Go.Proofs.Ytepjkoegbehojaa
open Go.RowKit

section
variable {vals : List (Tmp × Value)} {w : World} {o : Oper}
theorem ov_eql_bool {s i : Tmp} {a c : Bool} {b : Bool} {ty : TypeId} (ho : o.op = .binOp .eql 4 (.tmp s) (.tmp i) ty) (hs : vals.lookup s = some (.bool a)) (hi : vals.lookup i = some (.bool c)) (hb : (a == c) = b) : OpVal Try.prog o vals w (.bool b) := fun b' W hg hr => by
  have he := hr s _ (by rw [ho]; simp [Op.operands]) hs
  have hf := hr i _ (by rw [ho]; simp [Op.operands]) hi
  obtain ⟨dst, op, type, pos, after, guard⟩ := o
  dsimp only at ho
  subst ho
  subst hb
  refine .inl ?_
  simp only [execOp, he, hf]
  cases a <;> cases c <;> go_simp
theorem ov_assign {t : Tmp} {c : Value} (ho : o.op = .assign (.tmp t)) (hv : vals.lookup t = some c) : OpVal Try.prog o vals w c := fun b W _ hr => by
  have e := hr t c (by rw [ho]; simp [Op.operands]) hv
  obtain ⟨dst, op, type, pos, after, guard⟩ := o
  dsimp only at ho
  subst ho
  exact .inl (by simp only [execOp, e, Sem.run_pure])
theorem ov_table1 {t : Tmp} {g : Nat} (ho : o.op = .fieldAddr 27 (.tmp t) 1) (hv : vals.lookup t = some (.pointer (some ⟨g, 0, none⟩))) : OpVal Try.prog o vals w (.pointer (some ⟨g, 1, none⟩)) := fun b W hg hr => by
  have he := hr t _ (by rw [ho]; simp [Op.operands]) hv
  obtain ⟨dst, op, type, pos, after, guard⟩ := o
  dsimp only at ho
  subst ho
  refine .inl ?_
  simp only [execOp, he]
  go_simp
theorem ov_table0 {t : Tmp} {g : Nat} (ho : o.op = .fieldAddr 27 (.tmp t) 0) (hv : vals.lookup t = some (.pointer (some ⟨g, 0, none⟩))) : OpVal Try.prog o vals w (.pointer (some ⟨g, 0, none⟩)) := fun b W hg hr => by
  have he := hr t _ (by rw [ho]; simp [Op.operands]) hv
  obtain ⟨dst, op, type, pos, after, guard⟩ := o
  dsimp only at ho
  subst ho
  refine .inl ?_
  simp only [execOp, he]
  go_simp
theorem ov_load_ints {t : Tmp} {p : Addr} {A : Option Addr} {n c : Nat} (ho : o.op = .load 25 (.tmp t)) (hv : vals.lookup t = some (.pointer (some p))) (hc : w.cell? p = some (.slice A n c)) : OpVal Try.prog o vals w (.slice A n c) := fun b W hg hr => by
  have he := hr t _ (by rw [ho]; simp [Op.operands]) hv
  have c0 := Keeps.grown hg _ _ hc
  obtain ⟨dst, op, type, pos, after, guard⟩ := o
  dsimp only at ho
  subst ho
  refine .inl ?_
  simp only [execOp, he]
  go_simp
theorem ov_index_int {s i : Tmp} {b0 off n c k : Nat} (ho : o.op = .indexAddr 25 (.tmp s) (.tmp i)) (hs : vals.lookup s = some (.slice (some ⟨b0, off, none⟩) n c)) (hi : vals.lookup i = some (.int .i64 (k : Int))) (hk : k < n) : OpVal Try.prog o vals w (.pointer (some ⟨b0, off + k, none⟩)) := fun b W hg hr => by
  have he := hr s _ (by rw [ho]; simp [Op.operands]) hs
  have hf := hr i _ (by rw [ho]; simp [Op.operands]) hi
  have hk0 : (0 : Int) ≤ (k : Int) := by omega
  have hk1 : (k : Int) < (n : Int) := by omega
  obtain ⟨dst, op, type, pos, after, guard⟩ := o
  dsimp only at ho
  subst ho
  refine .inl ?_
  simp only [execOp, he, hf]
  go_simp
/-- A call of three arguments and a constant one. -/
theorem ov_call3c {f : FuncId} {t1 t2 t3 : Tmp} {c1 c2 c3 c4 r : Value} {ts : Array TypeId} (ho : o.op = .call { callee := .value (.func f), args := #[.tmp t1, .tmp t2, .tmp t3, .const c4], argTypes := ts }) (h1 : vals.lookup t1 = some c1) (h2 : vals.lookup t2 = some c2) (h3 : vals.lookup t3 = some c3) (hrun : ∀ W, (callFunc f #[c1, c2, c3, c4]).run Try.prog W = .ok (.enter f #[c1, c2, c3, c4]) W)
    (hc : ∀ W, w.grownBy W none → Calls Try.prog f #[c1, c2, c3, c4] W fun e w'' => e = .returned r ∧ W.grownBy w'' none) : OpVal Try.prog o vals w r := fun b W hg hr => by
  have e1 := hr t1 _ (by rw [ho]; simp [Op.operands, Call.operands]) h1
  have e2 := hr t2 _ (by rw [ho]; simp [Op.operands, Call.operands]) h2
  have e3 := hr t3 _ (by rw [ho]; simp [Op.operands, Call.operands]) h3
  obtain ⟨dst, op, type, pos, after, guard⟩ := o
  dsimp only at ho
  subst ho
  refine .inr ⟨f, #[c1, c2, c3, c4], ?_, hc W hg⟩
  have e1' : b.tmps[t1]?.getD undef = c1 := by simpa [Act.eval] using e1
  have e2' : b.tmps[t2]?.getD undef = c2 := by simpa [Act.eval] using e2
  have e3' : b.tmps[t3]?.getD undef = c3 := by simpa [Act.eval] using e3
  simp [execOp, resolve, Deferred.ofValue, invoke, Act.eval, e1', e2', e3', hrun W]
end
end Go.Proofs.Ytepjkoegbehojaa

/- Texts joined for the claim's sake: ChW, DRef. -/
import Derived.Test.YtmhbmeckdbdhpaaZSAddRow20
import Derived.Test.YtmhbmeckdbdhpaaZSAddRow10
import Derived.Deep.QuietTactic
import Derived.BigQuiet
namespace Go.Proofs.Ytmhbmeckdbdhpaa
open Go.RowKit

theorem region_chainW {P : Program} {ops : Array Oper} {Q : Exit → Act → World → Prop} {id : Nat} {a : Act} {w : World} (hm : P.follows .mixedOrders = true) (hok : regOkB ops = true) (hdef : (ops.toList.all fun o => match o.op with | .defer _ => false | _ => true) = true) (ds : List Tmp) (hds : dstsOf ops = ds) (hlt : (ds.all fun t => decide (t < a.tmps.size)) = true) (hdn : ds.Nodup)
    (vals : List (Tmp × Value)) (h0 : ∀ p ∈ vals, p.1 ∉ ds → a.tmps.getD p.1 undef = p.2)
    (ch : List Nat) (hch : chainOk ops ch = true) (hnee : neededOk ops ch = true) (hnd : ch.Nodup) (hin : (ch.all fun i => decide (i < ops.size)) = true)
    (T : Nat → (Tmp → Value) → World → Prop) (hT : ∀ j f g W, T j f W → (∀ (k i : Nat) (o : Oper) (t : Tmp), k < j → ch[k]? = some i → ops[i]? = some o → o.dst = some t → f t = g t) → T j g W)
    (hreads : ∀ (i : Nat) (o : Oper), ops[i]? = some o → i ∉ ch → ∃ t c, o.dst = some t ∧ vals.lookup t = some c ∧ ∀ j f (b : Act) W, j < ch.length → T j f W → (∀ t v, Operand.tmp t ∈ o.op.operands → vals.lookup t = some v → b.eval (.tmp t) = v) → (execOp b.eval o).run P W = .ok (.value c) W)
    (hsteps : ∀ (j i : Nat) (o : Oper), ch[j]? = some i → ops[i]? = some o → (∀ t, o.dst = some t → vals.lookup t = none) ∧ ∀ (b : Act) W, b.tmps.size = a.tmps.size → T j (fun t => b.tmps.getD t undef) W → (∀ t v, Operand.tmp t ∈ o.op.operands → vals.lookup t = some v → b.eval (.tmp t) = v) →
      o.wp P b W (fun b' W' => ∃ x, b' = b.put o.dst x ∧ T (j + 1) (fun t => (b.put o.dst x).tmps.getD t undef) W') Q)
    (hT0 : T 0 (fun t => a.tmps.getD t undef) w.drew)
    (hQ : ∀ (vs : Tmp → Value) (W : World), (∀ t v, vals.lookup t = some v → t ∈ ds → vs t = v) → T ch.length vs W →
      Q .normal { a with tmps := ds.foldl (fun (ts : Array Value) t => ts.setIfInBounds t (vs t)) a.tmps } W) :
    (Code.region id ops true).wp P Q a w := by
  subst hds
  have hu : ∀ (i j : Nat) (oi oj : Oper) (t : Tmp), ops[i]? = some oi → ops[j]? = some oj → oi.dst = some t → oj.dst = some t → i = j := fun i j oi oj t hi hj ei ej =>
    nodup_at hdn (by rw [Array.getElem?_toList]; exact hi) (by rw [Array.getElem?_toList]; exact hj) ei ej
  have hdl : ∀ t ∈ dstsOf ops, t < a.tmps.size := fun t ht => by simpa using List.all_eq_true.1 hlt t ht
  have chlt : ∀ (j j' i : Nat), ch[j]? = some i → ch[j']? = some i → j = j' := fun j j' i h1 h2 => by
    obtain ⟨l1, e1⟩ := List.getElem?_eq_some_iff.1 h1
    obtain ⟨l2, e2⟩ := List.getElem?_eq_some_iff.1 h2
    exact (List.getElem_inj hnd).1 (e1.trans e2.symm)
  refine wp_region_any hm (wpAny_inv (fun listed b W => b.defers = a.defers ∧ b.tmps.size = a.tmps.size ∧ (∀ t, t ∉ dstsOf ops → b.tmps[t]? = a.tmps[t]?) ∧
    (∀ (i : Nat) (o : Oper) (t : Tmp) (c : Value), listed.getD i false = true → ops[i]? = some o → o.dst = some t → vals.lookup t = some c → b.tmps.getD t undef = c) ∧
    (∀ (k : Nat) (o : Oper) (e : Edge), listed.getD k false = true → ops[k]? = some o → e ∈ o.after → Region.binds .any e = true → listed.getD e.on false = true) ∧
    ∃ j, j ≤ ch.length ∧ (∀ k i, ch[k]? = some i → i < ops.size → (listed.getD i false = true ↔ k < j)) ∧ T j (fun t => b.tmps.getD t undef) W) ?_ ?_ ops.size _ _ _ (by simp) (by
      have := List.countP_le_length (p := (! ·)) (l := (Array.replicate ops.size false).toList)
      simpa using this) ?_)
  · rintro listed b W hs ⟨i2, i3, i4, i5, i7, j, hjl, i6, hTj⟩ i hi
    obtain ⟨hni, o, ho, hall⟩ := mem_ready.1 hi
    have hil : i < ops.size := (Array.getElem?_eq_some_iff.1 ho).1
    have hni' : listed.getD i false = false := by
      have hl : i < listed.size := by omega
      simpa [hl] using hni
    obtain ⟨g1, g2, g3⟩ := regOkB_at hok ho
    have henv : ∀ t v, Operand.tmp t ∈ o.op.operands → vals.lookup t = some v → b.eval (.tmp t) = v := fun t v ht hv => by
      unfold depsOk at g3
      rw [List.all_eq_true] at g3
      have h1 := g3 (.tmp t) (Array.mem_toList_iff.2 ht)
      simp only [Bool.or_eq_true, List.all_eq_true, List.any_eq_true, Bool.and_eq_true, bne_iff_ne, ne_eq, beq_iff_eq] at h1
      rcases h1 with h1 | ⟨e, he, hb, hx⟩
      · have h4 : t ∉ dstsOf ops := fun hm => by
          obtain ⟨i, oi, hi, e⟩ := mem_dsts.1 hm
          exact h1 oi (List.mem_iff_getElem?.2 ⟨i, by rw [Array.getElem?_toList]; exact hi⟩) e
        have h5 := i4 t h4
        show b.tmps.getD t undef = v
        rw [Array.getD_eq_getD_getElem?, h5, ← Array.getD_eq_getD_getElem?]
        exact h0 (t, v) (lookup_mem hv) h4
      · obtain ⟨oj, hoj, e1⟩ := Option.bind_eq_some_iff.1 hx
        exact i5 e.on oj t v (hall e (Array.mem_toList_iff.1 he) hb) hoj e1 hv
    have hset : ∀ j, i ≠ j → (listed.setIfInBounds i true).getD j false = listed.getD j false := fun j hij => getD_set_ne false hij
    have hseti : (listed.setIfInBounds i true).getD i false = true := getD_set_at (by omega)
    have hnd' : ∀ c, o.op ≠ .defer c := fun c e => by
      rw [List.all_eq_true] at hdef
      have := hdef o (List.mem_iff_getElem?.2 ⟨i, by rw [Array.getElem?_toList]; exact ho⟩)
      rw [e] at this
      cases this
    unfold wpOp
    simp only [ho]
    rw [if_pos (by simp [Region.wanted, g1])]
    have other : ∀ (x : Value) (t' : Tmp), o.dst ≠ some t' → (b.put o.dst x).tmps[t']? = b.tmps[t']? := fun x t' hne => by
      cases hd : o.dst with
      | none => rfl
      | some t =>
        rw [hd] at hne
        simp only [Act.put]
        rw [Array.getElem?_setIfInBounds_ne (fun e => hne (by rw [e]))]
    have otherD : ∀ (x : Value) (t' : Tmp), o.dst ≠ some t' → (b.put o.dst x).tmps.getD t' undef = b.tmps.getD t' undef := fun x t' hne => by
      rw [Array.getD_eq_getD_getElem?, other x t' hne, ← Array.getD_eq_getD_getElem?]
    have basic : ∀ x : Value, (b.put o.dst x).defers = a.defers ∧ (b.put o.dst x).tmps.size = a.tmps.size ∧ (∀ t, t ∉ dstsOf ops → (b.put o.dst x).tmps[t]? = a.tmps[t]?) := fun x => by
      refine ⟨?_, ?_, fun t ht => ?_⟩
      · cases o.dst <;> exact i2
      · cases o.dst <;> simp [Act.put, i3]
      · rw [other x t (fun e => ht (mem_dsts.2 ⟨i, o, ho, e⟩))]
        exact i4 t ht
    have closed : ∀ (k : Nat) (ok : Oper) (e : Edge), (listed.setIfInBounds i true).getD k false = true → ops[k]? = some ok → e ∈ ok.after → Region.binds .any e = true → (listed.setIfInBounds i true).getD e.on false = true := fun k ok e hl hok he hb => by
      by_cases hie : i = e.on
      · rw [← hie]; exact hseti
      · rw [hset _ hie]
        by_cases hik : i = k
        · subst hik
          rw [ho] at hok
          obtain rfl := Option.some.inj hok
          exact hall e he hb
        · rw [hset _ hik] at hl
          exact i7 k ok e hl hok he hb
    by_cases hmem : i ∈ ch
    · obtain ⟨j', hj'⟩ := List.mem_iff_getElem?.1 hmem
      have hjj : ¬ j' < j := fun h => by
        have := (i6 j' i hj' hil).2 h
        rw [hni'] at this
        cases this
      have hej : j' = j := by
        rcases Nat.lt_or_ge j j' with h | h
        · obtain ⟨m, rfl⟩ : ∃ m, j' = m + 1 := ⟨j' - 1, by omega⟩
          have hml : m < ch.length := by have := (List.getElem?_eq_some_iff.1 hj').1; omega
          obtain ⟨k, hk⟩ : ∃ k, ch[m]? = some k := ⟨_, List.getElem?_eq_getElem hml⟩
          obtain ⟨e, he, hb, hx⟩ := chainOk_at m hch hk hj' ho
          have hon := hall e he hb
          rw [hx] at hon
          have hkl : k < ops.size := by
            rcases Nat.lt_or_ge k ops.size with h' | h'
            · exact h'
            · have hk2 : ¬ k < listed.size := by omega
              simp [Array.getD_eq_getD_getElem?, hk2] at hon
          have := (i6 m k hk hkl).1 hon
          omega
        · omega
      subst hej
      obtain ⟨hv, hstep⟩ := hsteps j' i o hj' ho
      refine .inl (Oper.wp_mono ?_ (hstep b W i3 hTj henv))
      rintro b' W' ⟨x, rfl, hT'⟩
      refine ⟨(basic x).1, (basic x).2.1, (basic x).2.2, fun m om t' c' hl hom e1 e2 => ?_, closed, j' + 1, (List.getElem?_eq_some_iff.1 hj').1, fun k m hk hm => ?_, hT'⟩
      · have hne : o.dst ≠ some t' := fun e => by rw [hv t' e] at e2; cases e2
        have him : i ≠ m := fun e => by subst e; rw [ho] at hom; cases hom; exact hne e1
        rw [hset m him] at hl
        rw [otherD x t' hne]
        exact i5 m om t' c' hl hom e1 e2
      · by_cases him : i = m
        · subst him
          have := chlt _ _ _ hj' hk
          exact ⟨fun _ => by omega, fun _ => hseti⟩
        · rw [hset m him, i6 k m hk hm]
          have : k ≠ j' := fun e => by subst e; rw [hj'] at hk; exact him (Option.some.inj hk)
          omega
    · obtain ⟨t, c, b1, b2, b3⟩ := hreads i o ho hmem
      refine .inl ?_
      unfold Oper.wp
      have hjlt : j < ch.length := by
        rcases Nat.lt_or_ge j ch.length with h | h
        · exact h
        · obtain ⟨k, hk, ok, hok', e, he, hb, hx⟩ := neededOk_at hnee hil hmem
          obtain ⟨m, hm'⟩ := List.mem_iff_getElem?.1 hk
          have hml := (List.getElem?_eq_some_iff.1 hm').1
          have hkl := (i6 m k hm' (Array.getElem?_eq_some_iff.1 hok').1).2 (by omega)
          have := i7 k ok e hkl hok' he hb
          rw [hx, hni'] at this
          cases this
      rw [b3 j _ b W hjlt hTj henv, Oper.upon_value]
      refine ⟨(basic c).1, (basic c).2.1, (basic c).2.2, fun m om t' c' hl hom e1 e2 => ?_, closed, j, hjl, fun k m hk hm => ?_, hT _ _ _ _ hTj fun k m om t' hkj hk hom e1 => ?_⟩
      · by_cases him : i = m
        · subst him
          rw [ho] at hom
          obtain rfl := Option.some.inj hom
          rw [b1] at e1
          obtain rfl := Option.some.inj e1
          rw [b2] at e2
          obtain rfl := Option.some.inj e2
          have : t < b.tmps.size := by rw [i3]; exact hdl t (mem_dsts.2 ⟨i, o, ho, b1⟩)
          rw [b1]
          simp [Act.put, this]
        · have hne : o.dst ≠ some t' := fun e => him (hu i m o om t' ho hom e e1)
          rw [hset m him] at hl
          rw [otherD c t' hne]
          exact i5 m om t' c' hl hom e1 e2
      · have him : i ≠ m := fun e => by subst e; exact hmem (List.mem_of_getElem? hk)
        rw [hset m him]
        exact i6 k m hk hm
      · have hne : o.dst ≠ some t' := fun e => by
          have := hu i m o om t' ho hom e e1
          subst this
          exact hmem (List.mem_of_getElem? hk)
        exact (otherD c t' hne).symm
  · rintro listed b W hs ⟨i2, i3, i4, i5, i7, j, hjl, i6, hTj⟩ hr
    have hl := all_listedB hok hs hr
    have hlo : ∀ {i o}, ops[i]? = some o → listed.getD i false = true := fun h => hl _ (Array.getElem?_eq_some_iff.1 h).1
    have hj : j = ch.length := by
      rcases Nat.lt_or_ge j ch.length with h | h
      · obtain ⟨i, hi⟩ : ∃ i, ch[j]? = some i := ⟨_, List.getElem?_eq_getElem h⟩
        have hil : i < ops.size := by simpa using List.all_eq_true.1 hin i (List.mem_of_getElem? hi)
        have := (i6 j i hi hil).1 (hl _ hil)
        omega
      · omega
    subst hj
    have hb : b = { a with tmps := (dstsOf ops).foldl (fun (ts : Array Value) t => ts.setIfInBounds t (b.tmps.getD t undef)) a.tmps } := by
      obtain ⟨bt, bd⟩ := b
      obtain ⟨at_, ad⟩ := a
      simp only [Act.mk.injEq]
      refine ⟨?_, i2⟩
      apply Array.ext_getElem?
      intro t
      dsimp only at i3 i4
      rw [foldSet]
      by_cases h1 : t ∈ dstsOf ops
      · by_cases h2 : t < at_.size
        · have : t < bt.size := by omega
          simp [h1, h2, this]
        · simp [h2, i3]
      · simp only [h1, false_and, if_false]
        exact i4 t h1
    rw [hb]
    refine hQ (fun t => b.tmps.getD t undef) W (fun t v hv ht => ?_) hTj
    obtain ⟨i, o, ho, e⟩ := mem_dsts.1 ht
    exact i5 i o t v (hlo ho) ho e hv
  · have hno : ∀ j, (Array.replicate ops.size false).getD j false = false := fun j => by
      simp only [Array.getD_eq_getD_getElem?, Array.getElem?_replicate]
      split <;> rfl
    refine ⟨rfl, rfl, fun _ _ => rfl, fun i o t d hl => ?_, fun k o e hl => ?_, 0, Nat.zero_le _, fun k i _ _ => ?_, hT0⟩
    · rw [hno] at hl; cases hl
    · rw [hno] at hl; cases hl
    · rw [hno]; simp
/-- What an operation is in a region that makes one box. -/
inductive IsOp1 (P : Program) (vals : List (Tmp × Value)) (w : World) (x : Bx) : Nat → Oper → Prop where
  | val {i : Nat} {o : Oper} (t : Tmp) (c : Value) : o.dst = some t → vals.lookup t = some c → (x.slot != t && x.al != i && x.st != i) = true → OpVal P o vals w c → IsOp1 P vals w x i o
  | al {i : Nat} {o : Oper} : x.al = i → o.op = .alloc x.ty → o.dst = some x.slot → IsOp1 P vals w x i o
  | st {i : Nat} {o : Oper} : x.st = i → o.op = .store x.ty (.tmp x.slot) (.tmp x.src) → o.dst = none → IsOp1 P vals w x i o
end Go.Proofs.Ytmhbmeckdbdhpaa

namespace Go.Proofs.Ytmhbmeckdbdhpaa
open Go.RowKit Go.Shelf

end Go.Proofs.Ytmhbmeckdbdhpaa

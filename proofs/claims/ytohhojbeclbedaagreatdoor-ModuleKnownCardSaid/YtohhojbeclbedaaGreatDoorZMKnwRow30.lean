/- Texts joined for the claim's sake: MPuI, ChW, MAtA, MAtB, MAtC. -/
import Derived.Test.YtohhojbeclbedaaGreatDoorZMKnwRow29
import Derived.Test.YtohhojbeclbedaaGreatDoorZMKnwRow24
import Derived.Test.YtohhojbeclbedaaGreatDoorZMKnwRow21
import Derived.Laws.Rows
namespace Go.Proofs.YtohhojbeclbedaaGreatDoor
open Go.RowKit

section
variable {B g : Nat} {w : World} {bs : List UInt8}
set_option maxRecDepth 100000 in
set_option maxHeartbeats 1000000 in
theorem mclo_Ins {bx : Nat} {S : Nat → Prop} (h : Wtr B w g bs) (hB : B ≤ w.heap.size) (hS : ∀ b, S b → b < B) (hbx : Blk w bx 79 #[.pointer (some ⟨g, 0, none⟩)]) (x : Ins) (A : Option Addr) (n c : Nat) (hx : IntsA S w (.slice A n c) x.l) (ha : Whole x.a) (hl : bs.length + 500 ≤ 1099511627776) :
    Calls Tryz.prog 73 #[.agg #[.int .i64 x.op, .int .i64 x.a, .int .i64 x.b, .int .i64 x.c, .int .i64 x.d, .slice A n c], .pointer (some ⟨bx, 0, none⟩)] w (LaidR B g w bs (insO x)) := by
  have hg0 : w.grownBy (w.alloc (.cells #[.int .i64 x.op, .int .i64 x.a, .int .i64 x.b, .int .i64 x.c, .int .i64 x.d, .slice A n c] 52)) none := only_alloc (only_refl _ _) _
  have HP : Hid (PM B g w bs [] (w.alloc (.cells #[.int .i64 x.op, .int .i64 x.a, .int .i64 x.b, .int .i64 x.c, .int .i64 x.d, .slice A n c] 52))) := Lib.hid (PM.start h hg0)
  have HX := Lib.hid (Blk.new w 52 #[.int .i64 x.op, .int .i64 x.a, .int .i64 x.b, .int .i64 x.c, .int .i64 x.d, .slice A n c])
  have HBX := Lib.hid (hbx.kept hg0)
  have HZ : Hid (B ≤ (w.alloc (.cells #[.int .i64 x.op, .int .i64 x.a, .int .i64 x.b, .int .i64 x.c, .int .i64 x.d, .slice A n c] 52)).heap.size) := Lib.hid (by have := hg0.size; omega)
  have HL : Hid (bs.length + 500 ≤ 1099511627776) := Lib.hid hl
  have HI : Hid (IntsA (fun b => b < B) (w.alloc (.cells #[.int .i64 x.op, .int .i64 x.a, .int .i64 x.b, .int .i64 x.c, .int .i64 x.d, .slice A n c] 52)) (.slice A n c) x.l) := Lib.hid (hx.keptS (KeptS.none_ hg0)).moreS (fun b hb _ => hS b hb)
  have HA := Lib.hid ha
  clear h hB hl hg0 hbx hx ha hS
  go_enter Tryz.func73, Tryz.ntmps73
  go_upto_region 1 with fail
  generalize w.alloc (.cells #[.int .i64 x.op, .int .i64 x.a, .int .i64 x.b, .int .i64 x.c, .int .i64 x.d, .slice A n c] 52) = W1 at *
  generalize w.heap.size = bn at *
  have cb : W1.cell? ⟨bx, 0, none⟩ = some (.pointer (some ⟨g, 0, none⟩)) := HBX.out.cell 0
  have c0 : W1.cell? ⟨bn, 0, none⟩ = some (.int .i64 x.op) := HX.out.cell 0
  have c1 : W1.cell? ⟨bn, 1, none⟩ = some (.int .i64 x.a) := HX.out.cell 1
  have c2 : W1.cell? ⟨bn, 2, none⟩ = some (.int .i64 x.b) := HX.out.cell 2
  have c3 : W1.cell? ⟨bn, 3, none⟩ = some (.int .i64 x.c) := HX.out.cell 3
  have c4 : W1.cell? ⟨bn, 4, none⟩ = some (.int .i64 x.d) := HX.out.cell 4
  have c5 : W1.cell? ⟨bn, 5, none⟩ = some (.slice A n c) := HX.out.cell 5
  by_cases hc : chkI x = 0
  · have e : insO x = some (bytesI x) := by unfold insO; rw [if_pos hc]
    rw [e]
    have hp := put_any HP.out.wt HZ.out ⟨x.a, x.b, x.c, x.d, .slice A n c, x.l⟩ x.op HI.out HA.out hc (by have := HL.out; simp; omega)
    clear e hc
    go_wp2_with fail
    refine hp.mono ?_
    rintro e w1 ⟨rfl, hw1, ht1⟩
    have HR := Lib.hid (HP.out.next hw1 ht1).ret
    clear hw1 ht1 hp
    go_wp2_with fail
    refine (mrefuse_no _).mono ?_
    rintro e w9 ⟨rfl, rfl⟩
    go_wp2_with fail
    go_end0
    exact HR.out
  · have e : insO x = none := by unfold insO; rw [if_neg hc]
    rw [e]
    have hp := put_bad (pp := some ⟨g, 0, none⟩) ⟨x.a, x.b, x.c, x.d, .slice A n c, x.l⟩ x.op W1 (by
      obtain ⟨A9, c9, k1, k2⟩ := HI.out
      refine ⟨A9, c9, k1, fun hn => ?_⟩
      obtain ⟨b9, o9, k3, k4, k5⟩ := k2 hn
      exact ⟨b9, o9, k3, Nat.lt_of_lt_of_le k4 HZ.out, k5⟩) hc
    obtain ⟨q, hq⟩ : ∃ q, chkI x = q := ⟨_, rfl⟩
    have hp' : Calls Tryz.prog 75 #[.pointer (some ⟨g, 0, none⟩), .agg #[.int .i64 x.op, .int .i64 x.a, .int .i64 x.b, .int .i64 x.c, .int .i64 x.d, .slice A n c]] W1 fun e w' => e = .returned (.int .i64 q) ∧ W1.grownBy w' none := by rw [← hq]; exact hp
    rw [hq] at hc
    have hq0 : (q == 0) = false := beq_eq_false_iff_ne.2 hc
    have hq1 : (q != 0) = true := bne_iff_ne.2 hc
    clear e hq hp
    go_wp2_with fail
    refine hp'.mono ?_
    rintro e w1 ⟨rfl, g1⟩
    have HG := Lib.hid g1
    clear g1 hp'
    go_wp2_with fail
    refine (mrefuse_yes _).mono ?_
    rintro e w9 ⟨rfl, g9⟩
    have HR := Lib.hid (HP.out.out (Turn.none_ (only_trans HG.out g9)))
    clear g9
    go_wp2_with fail
    exact ⟨rfl, HR.out⟩
end
end Go.Proofs.YtohhojbeclbedaaGreatDoor

namespace Go.Proofs.YtohhojbeclbedaaGreatDoor
open Go.RowKit

theorem region_chainW {P : Program} {ops : Array Oper} {Q : Exit → Act → World → Prop} {id : Nat} {a : Act} {w : World} (hm : P.follows .mixedOrders = true) (hok : regOkB ops = true) (hdef : (ops.toList.all fun o => match o.op with | .defer _ => false | _ => true) = true) (ds : List Tmp) (hds : dstsOf ops = ds) (hlt : (ds.all fun t => decide (t < a.tmps.size)) = true) (hdn : ds.Nodup)
    (vals : List (Tmp × Value)) (h0 : ∀ p ∈ vals, p.1 ∉ ds → a.tmps.getD p.1 undef = p.2)
    (ch : List Nat) (hch : chainOk ops ch = true) (hnee : neededOk ops ch = true) (hnd : ch.Nodup) (hin : (ch.all fun i => decide (i < ops.size)) = true)
    (T : Nat → (Tmp → Value) → World → Prop) (hT : ∀ j f g W, T j f W → (∀ (k i : Nat) (o : Oper) (t : Tmp), k < j → ch[k]? = some i → ops[i]? = some o → o.dst = some t → f t = g t) → T j g W)
    (hreads : ∀ (i : Nat) (o : Oper), ops[i]? = some o → i ∉ ch → ∃ t c, o.dst = some t ∧ vals.lookup t = some c ∧ ∀ j f (b : Act) W, j < ch.length → T j f W → (∀ t v, Operand.tmp t ∈ o.op.operands → vals.lookup t = some v → b.eval (.tmp t) = v) → (execOp b.eval o).run P W = .ok (.value c) W)
    (hsteps : ∀ (j i : Nat) (o : Oper), ch[j]? = some i → ops[i]? = some o → (∀ t, o.dst = some t → vals.lookup t = none) ∧ ∀ (b : Act) W, b.tmps.size = a.tmps.size → T j (fun t => b.tmps.getD t undef) W → (∀ t v, Operand.tmp t ∈ o.op.operands → vals.lookup t = some v → b.eval (.tmp t) = v) →
      o.wp P b W (fun b' W' => ∃ x, b' = b.put o.dst x ∧ T (j + 1) (fun t => (b.put o.dst x).tmps.getD t undef) W') Q)
    (hT0 : T 0 (fun t => a.tmps.getD t undef) w.drew)
    (hQ : ∀ (vs : Tmp → Value) (W : World), (∀ t v, vals.lookup t = some v → t ∈ ds → vs t = v) → T ch.length vs W →
      Q .normal { a with tmps := ds.foldl (fun (ts : Array Value) t => ts.setIfInBounds t (vs t)) a.tmps } W) :
    (Code.region id ops true).wp P Q a w := by
  subst hds
  have hu : ∀ (i j : Nat) (oi oj : Oper) (t : Tmp), ops[i]? = some oi → ops[j]? = some oj → oi.dst = some t → oj.dst = some t → i = j := fun i j oi oj t hi hj ei ej =>
    nodup_at hdn (by rw [Array.getElem?_toList]; exact hi) (by rw [Array.getElem?_toList]; exact hj) ei ej
  have hdl : ∀ t ∈ dstsOf ops, t < a.tmps.size := fun t ht => by simpa using List.all_eq_true.1 hlt t ht
  have chlt : ∀ (j j' i : Nat), ch[j]? = some i → ch[j']? = some i → j = j' := fun j j' i h1 h2 => by
    obtain ⟨l1, e1⟩ := List.getElem?_eq_some_iff.1 h1
    obtain ⟨l2, e2⟩ := List.getElem?_eq_some_iff.1 h2
    exact (List.getElem_inj hnd).1 (e1.trans e2.symm)
  refine wp_region_any hm (wpAny_inv (fun listed b W => b.defers = a.defers ∧ b.tmps.size = a.tmps.size ∧ (∀ t, t ∉ dstsOf ops → b.tmps[t]? = a.tmps[t]?) ∧
    (∀ (i : Nat) (o : Oper) (t : Tmp) (c : Value), listed.getD i false = true → ops[i]? = some o → o.dst = some t → vals.lookup t = some c → b.tmps.getD t undef = c) ∧
    (∀ (k : Nat) (o : Oper) (e : Edge), listed.getD k false = true → ops[k]? = some o → e ∈ o.after → Region.binds .any e = true → listed.getD e.on false = true) ∧
    ∃ j, j ≤ ch.length ∧ (∀ k i, ch[k]? = some i → i < ops.size → (listed.getD i false = true ↔ k < j)) ∧ T j (fun t => b.tmps.getD t undef) W) ?_ ?_ ops.size _ _ _ (by simp) (by
      have := List.countP_le_length (p := (! ·)) (l := (Array.replicate ops.size false).toList)
      simpa using this) ?_)
  · rintro listed b W hs ⟨i2, i3, i4, i5, i7, j, hjl, i6, hTj⟩ i hi
    obtain ⟨hni, o, ho, hall⟩ := mem_ready.1 hi
    have hil : i < ops.size := (Array.getElem?_eq_some_iff.1 ho).1
    have hni' : listed.getD i false = false := by
      have hl : i < listed.size := by omega
      simpa [hl] using hni
    obtain ⟨g1, g2, g3⟩ := regOkB_at hok ho
    have henv : ∀ t v, Operand.tmp t ∈ o.op.operands → vals.lookup t = some v → b.eval (.tmp t) = v := fun t v ht hv => by
      unfold depsOk at g3
      rw [List.all_eq_true] at g3
      have h1 := g3 (.tmp t) (Array.mem_toList_iff.2 ht)
      simp only [Bool.or_eq_true, List.all_eq_true, List.any_eq_true, Bool.and_eq_true, bne_iff_ne, ne_eq, beq_iff_eq] at h1
      rcases h1 with h1 | ⟨e, he, hb, hx⟩
      · have h4 : t ∉ dstsOf ops := fun hm => by
          obtain ⟨i, oi, hi, e⟩ := mem_dsts.1 hm
          exact h1 oi (List.mem_iff_getElem?.2 ⟨i, by rw [Array.getElem?_toList]; exact hi⟩) e
        have h5 := i4 t h4
        show b.tmps.getD t undef = v
        rw [Array.getD_eq_getD_getElem?, h5, ← Array.getD_eq_getD_getElem?]
        exact h0 (t, v) (lookup_mem hv) h4
      · obtain ⟨oj, hoj, e1⟩ := Option.bind_eq_some_iff.1 hx
        exact i5 e.on oj t v (hall e (Array.mem_toList_iff.1 he) hb) hoj e1 hv
    have hset : ∀ j, i ≠ j → (listed.setIfInBounds i true).getD j false = listed.getD j false := fun j hij => getD_set_ne false hij
    have hseti : (listed.setIfInBounds i true).getD i false = true := getD_set_at (by omega)
    have hnd' : ∀ c, o.op ≠ .defer c := fun c e => by
      rw [List.all_eq_true] at hdef
      have := hdef o (List.mem_iff_getElem?.2 ⟨i, by rw [Array.getElem?_toList]; exact ho⟩)
      rw [e] at this
      cases this
    unfold wpOp
    simp only [ho]
    rw [if_pos (by simp [Region.wanted, g1])]
    have other : ∀ (x : Value) (t' : Tmp), o.dst ≠ some t' → (b.put o.dst x).tmps[t']? = b.tmps[t']? := fun x t' hne => by
      cases hd : o.dst with
      | none => rfl
      | some t =>
        rw [hd] at hne
        simp only [Act.put]
        rw [Array.getElem?_setIfInBounds_ne (fun e => hne (by rw [e]))]
    have otherD : ∀ (x : Value) (t' : Tmp), o.dst ≠ some t' → (b.put o.dst x).tmps.getD t' undef = b.tmps.getD t' undef := fun x t' hne => by
      rw [Array.getD_eq_getD_getElem?, other x t' hne, ← Array.getD_eq_getD_getElem?]
    have basic : ∀ x : Value, (b.put o.dst x).defers = a.defers ∧ (b.put o.dst x).tmps.size = a.tmps.size ∧ (∀ t, t ∉ dstsOf ops → (b.put o.dst x).tmps[t]? = a.tmps[t]?) := fun x => by
      refine ⟨?_, ?_, fun t ht => ?_⟩
      · cases o.dst <;> exact i2
      · cases o.dst <;> simp [Act.put, i3]
      · rw [other x t (fun e => ht (mem_dsts.2 ⟨i, o, ho, e⟩))]
        exact i4 t ht
    have closed : ∀ (k : Nat) (ok : Oper) (e : Edge), (listed.setIfInBounds i true).getD k false = true → ops[k]? = some ok → e ∈ ok.after → Region.binds .any e = true → (listed.setIfInBounds i true).getD e.on false = true := fun k ok e hl hok he hb => by
      by_cases hie : i = e.on
      · rw [← hie]; exact hseti
      · rw [hset _ hie]
        by_cases hik : i = k
        · subst hik
          rw [ho] at hok
          obtain rfl := Option.some.inj hok
          exact hall e he hb
        · rw [hset _ hik] at hl
          exact i7 k ok e hl hok he hb
    by_cases hmem : i ∈ ch
    · obtain ⟨j', hj'⟩ := List.mem_iff_getElem?.1 hmem
      have hjj : ¬ j' < j := fun h => by
        have := (i6 j' i hj' hil).2 h
        rw [hni'] at this
        cases this
      have hej : j' = j := by
        rcases Nat.lt_or_ge j j' with h | h
        · obtain ⟨m, rfl⟩ : ∃ m, j' = m + 1 := ⟨j' - 1, by omega⟩
          have hml : m < ch.length := by have := (List.getElem?_eq_some_iff.1 hj').1; omega
          obtain ⟨k, hk⟩ : ∃ k, ch[m]? = some k := ⟨_, List.getElem?_eq_getElem hml⟩
          obtain ⟨e, he, hb, hx⟩ := chainOk_at m hch hk hj' ho
          have hon := hall e he hb
          rw [hx] at hon
          have hkl : k < ops.size := by
            rcases Nat.lt_or_ge k ops.size with h' | h'
            · exact h'
            · have hk2 : ¬ k < listed.size := by omega
              simp [Array.getD_eq_getD_getElem?, hk2] at hon
          have := (i6 m k hk hkl).1 hon
          omega
        · omega
      subst hej
      obtain ⟨hv, hstep⟩ := hsteps j' i o hj' ho
      refine .inl (Oper.wp_mono ?_ (hstep b W i3 hTj henv))
      rintro b' W' ⟨x, rfl, hT'⟩
      refine ⟨(basic x).1, (basic x).2.1, (basic x).2.2, fun m om t' c' hl hom e1 e2 => ?_, closed, j' + 1, (List.getElem?_eq_some_iff.1 hj').1, fun k m hk hm => ?_, hT'⟩
      · have hne : o.dst ≠ some t' := fun e => by rw [hv t' e] at e2; cases e2
        have him : i ≠ m := fun e => by subst e; rw [ho] at hom; cases hom; exact hne e1
        rw [hset m him] at hl
        rw [otherD x t' hne]
        exact i5 m om t' c' hl hom e1 e2
      · by_cases him : i = m
        · subst him
          have := chlt _ _ _ hj' hk
          exact ⟨fun _ => by omega, fun _ => hseti⟩
        · rw [hset m him, i6 k m hk hm]
          have : k ≠ j' := fun e => by subst e; rw [hj'] at hk; exact him (Option.some.inj hk)
          omega
    · obtain ⟨t, c, b1, b2, b3⟩ := hreads i o ho hmem
      refine .inl ?_
      unfold Oper.wp
      have hjlt : j < ch.length := by
        rcases Nat.lt_or_ge j ch.length with h | h
        · exact h
        · obtain ⟨k, hk, ok, hok', e, he, hb, hx⟩ := neededOk_at hnee hil hmem
          obtain ⟨m, hm'⟩ := List.mem_iff_getElem?.1 hk
          have hml := (List.getElem?_eq_some_iff.1 hm').1
          have hkl := (i6 m k hm' (Array.getElem?_eq_some_iff.1 hok').1).2 (by omega)
          have := i7 k ok e hkl hok' he hb
          rw [hx, hni'] at this
          cases this
      rw [b3 j _ b W hjlt hTj henv, Oper.upon_value]
      refine ⟨(basic c).1, (basic c).2.1, (basic c).2.2, fun m om t' c' hl hom e1 e2 => ?_, closed, j, hjl, fun k m hk hm => ?_, hT _ _ _ _ hTj fun k m om t' hkj hk hom e1 => ?_⟩
      · by_cases him : i = m
        · subst him
          rw [ho] at hom
          obtain rfl := Option.some.inj hom
          rw [b1] at e1
          obtain rfl := Option.some.inj e1
          rw [b2] at e2
          obtain rfl := Option.some.inj e2
          have : t < b.tmps.size := by rw [i3]; exact hdl t (mem_dsts.2 ⟨i, o, ho, b1⟩)
          rw [b1]
          simp [Act.put, this]
        · have hne : o.dst ≠ some t' := fun e => him (hu i m o om t' ho hom e e1)
          rw [hset m him] at hl
          rw [otherD c t' hne]
          exact i5 m om t' c' hl hom e1 e2
      · have him : i ≠ m := fun e => by subst e; exact hmem (List.mem_of_getElem? hk)
        rw [hset m him]
        exact i6 k m hk hm
      · have hne : o.dst ≠ some t' := fun e => by
          have := hu i m o om t' ho hom e e1
          subst this
          exact hmem (List.mem_of_getElem? hk)
        exact (otherD c t' hne).symm
  · rintro listed b W hs ⟨i2, i3, i4, i5, i7, j, hjl, i6, hTj⟩ hr
    have hl := all_listedB hok hs hr
    have hlo : ∀ {i o}, ops[i]? = some o → listed.getD i false = true := fun h => hl _ (Array.getElem?_eq_some_iff.1 h).1
    have hj : j = ch.length := by
      rcases Nat.lt_or_ge j ch.length with h | h
      · obtain ⟨i, hi⟩ : ∃ i, ch[j]? = some i := ⟨_, List.getElem?_eq_getElem h⟩
        have hil : i < ops.size := by simpa using List.all_eq_true.1 hin i (List.mem_of_getElem? hi)
        have := (i6 j i hi hil).1 (hl _ hil)
        omega
      · omega
    subst hj
    have hb : b = { a with tmps := (dstsOf ops).foldl (fun (ts : Array Value) t => ts.setIfInBounds t (b.tmps.getD t undef)) a.tmps } := by
      obtain ⟨bt, bd⟩ := b
      obtain ⟨at_, ad⟩ := a
      simp only [Act.mk.injEq]
      refine ⟨?_, i2⟩
      apply Array.ext_getElem?
      intro t
      dsimp only at i3 i4
      rw [foldSet]
      by_cases h1 : t ∈ dstsOf ops
      · by_cases h2 : t < at_.size
        · have : t < bt.size := by omega
          simp [h1, h2, this]
        · simp [h2, i3]
      · simp only [h1, false_and, if_false]
        exact i4 t h1
    rw [hb]
    refine hQ (fun t => b.tmps.getD t undef) W (fun t v hv ht => ?_) hTj
    obtain ⟨i, o, ho, e⟩ := mem_dsts.1 ht
    exact i5 i o t v (hlo ho) ho e hv
  · have hno : ∀ j, (Array.replicate ops.size false).getD j false = false := fun j => by
      simp only [Array.getD_eq_getD_getElem?, Array.getElem?_replicate]
      split <;> rfl
    refine ⟨rfl, rfl, fun _ _ => rfl, fun i o t d hl => ?_, fun k o e hl => ?_, 0, Nat.zero_le _, fun k i _ _ => ?_, hT0⟩
    · rw [hno] at hl; cases hl
    · rw [hno] at hl; cases hl
    · rw [hno]; simp
/-- What an operation is in a region that makes one box. -/
inductive IsOp1 (P : Program) (vals : List (Tmp × Value)) (w : World) (x : Bx) : Nat → Oper → Prop where
  | val {i : Nat} {o : Oper} (t : Tmp) (c : Value) : o.dst = some t → vals.lookup t = some c → (x.slot != t && x.al != i && x.st != i) = true → OpVal P o vals w c → IsOp1 P vals w x i o
  | al {i : Nat} {o : Oper} : x.al = i → o.op = .alloc x.ty → o.dst = some x.slot → IsOp1 P vals w x i o
  | st {i : Nat} {o : Oper} : x.st = i → o.op = .store x.ty (.tmp x.slot) (.tmp x.src) → o.dst = none → IsOp1 P vals w x i o
end Go.Proofs.YtohhojbeclbedaaGreatDoor

namespace Go.Proofs.YtohhojbeclbedaaGreatDoor
open Go.RowKit

/-- A row of numbers of the call's own. -/
def AO (base : Nat) (W : World) (v : Value) (zs : List Int) : Prop := W.ownsRow base 3 1 v zs.length (zs.map fun z => .int .i64 z)
theorem ao_info : (Tryz.prog.info? 3).map (fun i => (i.zero, i.size, i.bytes)) = some (some (.int .i64 0), 1, 8) := by kernel_rfl
theorem AO.kept {base : Nat} {W W' : World} {v : Value} {zs : List Int} {row : Option Nat} (h : AO base W v zs) (hg : W.grownBy W' row) (hr : v.ownBlock = none ∨ v.ownBlock ≠ row) : AO base W' v zs := World.ownsRow.kept h hg hr
theorem AO.none_ {base : Nat} {W W' : World} {v : Value} {zs : List Int} (h : AO base W v zs) (hg : W.grownBy W' none) : AO base W' v zs := World.ownsRow.kept h hg (by cases hv : v.ownBlock <;> simp)
theorem AO.nil_ (base : Nat) (W : World) : AO base W (.slice none 0 0) [] := World.ownsRow_nil _ _ _ _
theorem AO.list {base : Nat} {W : World} {v : Value} {zs : List Int} {S : Nat → Prop} (h : AO base W v zs) (hS : ∀ k, v.ownBlock = some k → S k) : ListA IntE 1 S W v zs := by
  rcases h.2 with ⟨rfl, hn⟩ | ⟨g, cap, cur, rfl, hb, hh, hn, hm, _, _⟩
  · obtain rfl : zs = [] := List.length_eq_zero_iff.1 hn
    exact ListA.nil_ _ _
  · refine ⟨some ⟨g, 0, none⟩, cap, rfl, hn, by unfold maxLen at hm; omega, fun _ => ⟨g, 0, rfl, hS g rfl, fun i z hz => ⟨_, rfl, fun j u hu => ?_⟩⟩⟩
    have hj : j = 0 := by have := (Array.getElem?_eq_some_iff.1 hu).1; simpa using this
    subst hj
    have := World.ownsRow.cells h (g := g) rfl i (.int .i64 z) (by rw [List.getElem?_map, hz]; rfl)
    rw [addr_M, Nat.zero_add] at this
    simp only [Nat.zero_add, Nat.mul_one, Nat.add_zero]
    rw [this]
    simpa using hu
theorem act_putM {b : Act} {t : Tmp} (x : Value) (h : t < b.tmps.size) : (b.put (some t) x).tmps.getD t undef = x := by simp [Act.put, h]
/-- What stands, step by step: the slots of the place, of the row of one, of the longer row; the block and the cell that hold the row. -/
def TA (X : World) (tC tB tA : Tmp) (bb fi base : Nat) (v : Value) (zs : List Int) (p : Int) : Nat → (Tmp → Value) → World → Prop
  | 0, _, W => X.grownBy W none
  | 1, f, W => f tC = .int .i64 p ∧ X.grownBy W none
  | 2, f, W => ∃ g, f tB = .slice (some ⟨g, 0, none⟩) 1 1 ∧ Blk W g 3 #[.int .i64 p] ∧ X.grownBy W none
  | 3, f, W => ∃ v' W1, f tA = v' ∧ X.grownBy W1 none ∧ W1.grownBy W v.ownBlock ∧ AO base W v' (zs ++ [p]) ∧ (v'.ownBlock = v.ownBlock ∨ v'.ownBlock = some W1.heap.size)
  | 4, _, W => ∃ v' W1 W2, W = W2.setCell ⟨bb, fi, none⟩ v' ∧ X.grownBy W1 none ∧ W1.grownBy W2 v.ownBlock ∧ AO base W2 v' (zs ++ [p]) ∧ (v'.ownBlock = v.ownBlock ∨ v'.ownBlock = some W1.heap.size)
  | _, _, _ => False
section
variable {b : Act} {o : Oper} {t : Tmp} {W : World} {K : Act → World → Prop} {Q : Exit → Act → World → Prop}
theorem wp_placeM {c1 : Value} {ts : Array TypeId} {R : Ending → World → Prop} (ho : o.op = .call { callee := .value (.func 110), args := #[.tmp t], argTypes := ts })
    (h1 : b.eval (.tmp t) = c1) (hc : Calls Tryz.prog 110 #[c1] W R) (hR : ∀ e W', R e W' → ∃ x, e = .returned x ∧ K (b.put o.dst x) W') : o.wp Tryz.prog b W K Q := by
  have h1' : b.tmps[t]?.getD undef = c1 := by simpa [Act.eval] using h1
  obtain ⟨dst, op, type, pos, after, guard⟩ := o
  dsimp only at ho
  subst ho
  have hrun : ∀ args W, (callFunc 110 args).run Tryz.prog W = .ok (.enter 110 args) W := enters_of Tryz.func110 (by kernel_rfl) rfl
  have hr : (execOp b.eval ⟨dst, .call { callee := .value (.func 110), args := #[.tmp t], argTypes := ts }, type, pos, after, guard⟩).run Tryz.prog W = .ok (.enter 110 #[c1]) W := by
    simp [execOp, resolve, Deferred.ofValue, invoke, Act.eval, h1', hrun]
  unfold Oper.wp
  rw [hr, Oper.upon_enter]
  refine hc.mono fun e W' h => ?_
  obtain ⟨x, rfl, hk⟩ := hR e W' h
  exact hk
theorem wp_buildM {z : Int} (ho : o.op = .buildSlice 26 1 #[(0, .tmp t)]) (h : b.eval (.tmp t) = .int .i64 z)
    (hK : K (b.put o.dst (.slice (some ⟨W.heap.size, 0, none⟩) 1 1)) (W.alloc (.cells #[.int .i64 z] 3))) : o.wp Tryz.prog b W K Q := by
  obtain ⟨dst, op, type, pos, after, guard⟩ := o
  dsimp only at ho
  subst ho
  have h' : b.tmps[t]?.getD undef = .int .i64 z := by simpa [Act.eval] using h
  unfold Oper.wp
  simp only [execOp]
  go_simp
  exact hK
theorem wp_appendM (s x : Operand) (ho : o.op = .call { callee := .builtin .append, args := #[s, x], argTypes := #[26, 26] })
    {base : Nat} {v : Value} {zs : List Int} {z : Int} {g : Nat} (hs : b.eval s = v) (hx : b.eval x = .slice (some ⟨g, 0, none⟩) 1 1)
    (hot : AO base W v zs) (hb : Blk W g 3 #[.int .i64 z]) (hn : zs.length ≤ 1000) (hbase : base ≤ W.heap.size)
    (h : ∀ v' W', AO base W' v' (zs ++ [z]) → W.grownBy W' v.ownBlock → (v'.ownBlock = v.ownBlock ∨ v'.ownBlock = some W.heap.size) → K (b.put o.dst v') W') : o.wp Tryz.prog b W K Q := by
  obtain ⟨i0, hi, hz0, hz1, hz2⟩ := info_parts ao_info
  obtain ⟨v', W', hr, h2, h3, _, h5⟩ := run_append_own_at (P := Tryz.prog) W base 26 o.type 3 i0 _ 1 8 Tryz.underlying26 hi hz0 hz1 hz2 rfl (by decide) v zs.length _ hot ⟨g, 0, none⟩ 1 1 [.int .i64 z] rfl (fun j u hu => by
    rw [addr_M, Nat.zero_add, hb.cell j, ← hu]; simp) (fun u hu => by obtain rfl := List.mem_singleton.1 hu; rfl) (by unfold maxLen; omega) (by omega) hbase
  unfold Oper.wp execOp
  simp only [ho, resolve, invoke, builtin, Sem.run_bind, Sem.run_pure, Result.andThen_ok, List.map_toArray, List.map_cons, List.map_nil, hs, hx, hr]
  refine h v' W' ?_ h3 h5
  unfold AO
  rw [List.length_append, List.map_append]
  exact h2
theorem wp_storeM {u : Tmp} {g fi : Nat} {ty : TypeId} {cs : Array Value} {A0 A : Option Addr} {n0 c0 n c : Nat} (ho : o.op = .store 26 (.tmp t) (.tmp u)) (ht : b.eval (.tmp t) = .pointer (some ⟨g, fi, none⟩)) (h : b.eval (.tmp u) = .slice A n c)
    (hb : Blk W g ty cs) (hc : cs[fi]? = some (.slice A0 n0 c0)) (hK : K (b.put o.dst undef) (W.setCell ⟨g, fi, none⟩ (.slice A n c))) : o.wp Tryz.prog b W K Q := by
  obtain ⟨dst, op, type, pos, after, guard⟩ := o
  dsimp only at ho
  subst ho
  have c5 : W.cell? ⟨g, fi, none⟩ = some (.slice A0 n0 c0) := (hb.cell fi).trans hc
  have f5 := hb.frozen fi
  unfold Oper.wp
  simp only [execOp, h, ht]
  go_simp
  exact hK
theorem rv_loadI {p : Addr} {A : Option Addr} {n c : Nat} (ho : o.op = .load 26 (.tmp t)) (h1 : b.eval (.tmp t) = .pointer (some p)) (hc : W.cell? p = some (.slice A n c)) : (execOp b.eval o).run Tryz.prog W = .ok (.value (.slice A n c)) W := by
  obtain ⟨dst, op, type, pos, after, guard⟩ := o
  dsimp only at ho
  subst ho
  simp only [execOp, h1]
  go_simp
theorem rv_loadR {p : Addr} {q : Option Addr} (ho : o.op = .load 54 (.tmp t)) (h1 : b.eval (.tmp t) = .pointer (some p)) (hc : W.cell? p = some (.pointer q)) : (execOp b.eval o).run Tryz.prog W = .ok (.value (.pointer q)) W := by
  obtain ⟨dst, op, type, pos, after, guard⟩ := o
  dsimp only at ho
  subst ho
  simp only [execOp, h1]
  go_simp
theorem rv_loadPM {p : Addr} {q : Option Addr} (ho : o.op = .load 99 (.tmp t)) (h1 : b.eval (.tmp t) = .pointer (some p)) (hc : W.cell? p = some (.pointer q)) : (execOp b.eval o).run Tryz.prog W = .ok (.value (.pointer q)) W := by
  obtain ⟨dst, op, type, pos, after, guard⟩ := o
  dsimp only at ho
  subst ho
  simp only [execOp, h1]
  go_simp
theorem rv_nilM {q : Addr} (ho : o.op = .nilCheck (.tmp t)) (h1 : b.eval (.tmp t) = .pointer (some q)) : (execOp b.eval o).run Tryz.prog W = .ok (.value (.pointer (some q))) W := by
  obtain ⟨dst, op, type, pos, after, guard⟩ := o
  dsimp only at ho
  subst ho
  simp only [execOp, h1]
  go_simp
theorem rv_fldT {g : Nat} (ho : o.op = .fieldAddr 50 (.tmp t) 2) (h1 : b.eval (.tmp t) = .pointer (some ⟨g, 0, none⟩)) : (execOp b.eval o).run Tryz.prog W = .ok (.value (.pointer (some ⟨g, 2, none⟩))) W := by
  obtain ⟨dst, op, type, pos, after, guard⟩ := o
  dsimp only at ho
  subst ho
  simp only [execOp, h1]
  go_simp
end
end Go.Proofs.YtohhojbeclbedaaGreatDoor

namespace Go.Proofs.YtohhojbeclbedaaGreatDoor
open Go.RowKit

/-- What stands behind 'x.At = append(x.At, r.Place())'. -/
theorem ta_end {base bt fi : Nat} {X W1 W2 : World} {v v' : Value} {zs : List Int} {p : Int} {T : TypeId} {cs : Array Value} (g1 : X.grownBy W1 none) (g2 : W1.grownBy W2 v.ownBlock) (ho : AO base W2 v' (zs ++ [p])) (hv : v'.ownBlock = v.ownBlock ∨ v'.ownBlock = some W1.heap.size) (ho0 : AO base X v zs) (hbt : Blk X bt T cs) (hT : T ≠ 3) (hT8 : T ≠ 5) :
    Blk (W2.setCell ⟨bt, fi, none⟩ v') bt T (cs.setIfInBounds fi v') ∧ AO base (W2.setCell ⟨bt, fi, none⟩ v') v' (zs ++ [p]) ∧
    (∀ k t cs', Blk X k t cs' → t ≠ 3 → k ≠ bt → Blk (W2.setCell ⟨bt, fi, none⟩ v') k t cs') ∧ (∀ g bs b bg, Rdr X g bs b bg → g ≠ bt → Rdr (W2.setCell ⟨bt, fi, none⟩ v') g bs b bg) ∧
    Turn (fun k => k = bt ∨ v.ownBlock = some k) X (W2.setCell ⟨bt, fi, none⟩ v') ∧ (∀ k, k < X.heap.size → v.ownBlock ≠ some k → v'.ownBlock ≠ some k) ∧ X.heap.size ≤ (W2.setCell ⟨bt, fi, none⟩ v').heap.size := by
  have ho1 : AO base W1 v zs := ho0.none_ g1
  have other : ∀ k t cs', Blk X k t cs' → t ≠ 3 → Blk W2 k t cs' := fun k t cs' hb ht => (hb.kept g1).grown g2 (fun e => own_ne ho1 (hb.kept g1) (Ne.symm ht) e.symm)
  have hb2 := other bt T cs hbt hT
  have hs : W2.grownBy (W2.setCell ⟨bt, fi, none⟩ v') (some bt) := only_setCell (only_refl _ _) rfl _
  have hrow : ∀ k, v.ownBlock = some k → k < X.heap.size := fun k hk => (World.ownsRow.lt ho0 k hk).2
  have ht : Turn (fun k => k = bt ∨ v.ownBlock = some k) X (W2.setCell ⟨bt, fi, none⟩ v') :=
    ⟨(hs.os.trans g2.os).trans g1.os, (hs.tape.trans g2.tape).trans g1.tape, (hs.output.trans g2.output).trans g1.output, Nat.le_trans g1.size (Nat.le_trans g2.size hs.size), fun i hi hn => by
      rw [hs.block i (Nat.lt_of_lt_of_le hi (Nat.le_trans g1.size g2.size)) (fun e => hn (.inl (by injection e))), g2.block i (Nat.lt_of_lt_of_le hi g1.size) (fun e => hn (.inr e.symm)), g1.block i hi (fun e => by cases e)]⟩
  refine ⟨hb2.set_ fi v', ho.kept hs (.inr fun e => own_ne ho hb2 (Ne.symm hT) e), fun k t cs' hb ht hk => (other k t cs' hb ht).grown hs (fun e => hk (by injection e)), fun g bs b bg hr hg => ?_, ht, fun k hk hn => ?_, ht.size⟩
  · obtain ⟨cg, hbg⟩ := hr.blk
    have h2 : Rdr W2 g bs b bg := (hr.kept g1).grown g2 (fun e => own_ne ho1 (hbg.kept g1) (by decide) e.symm) (fun j e => by
      obtain ⟨_, cs', hb'⟩ := own_rowM ho1 j e
      exact ⟨_, _, hb', by decide⟩)
    exact h2.grown hs (fun e => hg (by injection e)) (fun j e => by injection e with e; subst e; exact ⟨_, _, hb2, hT8⟩)
  · rcases hv with hv | hv
    · rw [hv]; exact hn
    · rw [hv]
      intro e
      injection e with e
      have := g1.size
      omega
/-- What the closure that reads instructions keeps: the reader's box, the template's, its row of places. -/
def TmI (bt bx g base bg : Nat) (pv : Value) : Inv Ins := fun pre T W => ∃ v, (∀ k, T k ↔ (k = g ∨ k = bt ∨ v.ownBlock = some k)) ∧ Blk W bx 54 #[.pointer (some ⟨g, 0, none⟩)] ∧ Blk W bt 50 #[pv, .slice none 0 0, v] ∧ AO base W v (ats bg pre) ∧ bx < base ∧ bt < base ∧ bx ≠ g ∧ bt ≠ g ∧ bx ≠ bt ∧ g < base ∧ base ≤ W.heap.size
theorem tmi_ok {bt bx g base bg : Nat} {pv : Value} : (TmI bt bx g base bg pv).Ok (fun _ => True) g base where
  jj := fun _ => trivial
  keep := fun {pre T W W' row} ⟨v, h1, h2, h3, h4, h5, h6, h7, h8, h9, h10, h11⟩ hg hr => ⟨v, h1, h2.grown hg (fun e => by have := (hr bx e.symm).1; omega), h3.grown hg (fun e => by have := (hr bt e.symm).1; omega), h4.kept hg (by
    cases hv : v.ownBlock with
    | none => exact .inl rfl
    | some u => exact .inr fun e => (hr u e.symm).2 ((h1 u).2 (.inr (.inr hv)))), h5, h6, h7, h8, h9, h10, Nat.le_trans h11 hg.size⟩
  mv := fun {pre T W W'} ⟨v, h1, h2, h3, h4, h5, h6, h7, h8, h9, h10, h11⟩ hg => ⟨v, h1, h2.grown hg (fun e => h7 (by injection e)), h3.grown hg (fun e => h8 (by injection e)), h4.kept hg (.inr fun e => by have := (World.ownsRow.lt h4 g e).1; omega), h5, h6, h7, h8, h9, h10, Nat.le_trans h11 hg.size⟩
  lt := fun {pre T W k} ⟨v, h1, h2, h3, h4, h5, h6, h7, h8, h9, h10, h11⟩ hk => by
    rcases (h1 k).1 hk with rfl | rfl | hk
    · omega
    · exact h3.lt
    · exact (World.ownsRow.lt h4 k hk).2
  rd := fun {pre T W} ⟨v, h1, _⟩ => (h1 g).2 (.inl rfl)
set_option maxRecDepth 100000 in
set_option maxHeartbeats 1000000 in
theorem mmustI_no (a b c d e : Int) (A : Option Addr) (n q : Nat) (w : World) : Calls Tryz.prog 164 #[.agg #[.int .i64 a, .int .i64 b, .int .i64 c, .int .i64 d, .int .i64 e, .slice A n q], .nilIface] w fun en w' => en = .returned (.agg #[.int .i64 a, .int .i64 b, .int .i64 c, .int .i64 d, .int .i64 e, .slice A n q]) ∧ w.grownBy w' none := by
  have hg0 : w.grownBy ((w.alloc (.cells #[.int .i64 a, .int .i64 b, .int .i64 c, .int .i64 d, .int .i64 e, .slice A n q] 52)).alloc (.cells #[.int .i64 0, .int .i64 0, .int .i64 0, .int .i64 0, .int .i64 0, .slice none 0 0] 52)) none := only_alloc (only_alloc (only_refl _ _) _) _
  have HX := Lib.hid ((Blk.new w 52 #[.int .i64 a, .int .i64 b, .int .i64 c, .int .i64 d, .int .i64 e, .slice A n q]).alloc (.cells #[.int .i64 0, .int .i64 0, .int .i64 0, .int .i64 0, .int .i64 0, .slice none 0 0] 52))
  have HY : Hid (Blk ((w.alloc (.cells #[.int .i64 a, .int .i64 b, .int .i64 c, .int .i64 d, .int .i64 e, .slice A n q] 52)).alloc (.cells #[.int .i64 0, .int .i64 0, .int .i64 0, .int .i64 0, .int .i64 0, .slice none 0 0] 52)) (w.heap.size + 1) 52 #[.int .i64 0, .int .i64 0, .int .i64 0, .int .i64 0, .int .i64 0, .slice none 0 0]) := Lib.hid (blk_new_at (by simp) _ _)
  have HG := Lib.hid hg0
  clear hg0
  go_enter Tryz.func164, Tryz.ntmps164
  go_upto_region 1 with fail
  generalize ((w.alloc (.cells #[.int .i64 a, .int .i64 b, .int .i64 c, .int .i64 d, .int .i64 e, .slice A n q] 52)).alloc (.cells #[.int .i64 0, .int .i64 0, .int .i64 0, .int .i64 0, .int .i64 0, .slice none 0 0] 52)) = W0 at *
  generalize hbr : w.heap.size + 1 = br at *
  generalize hbx : w.heap.size = bx at *
  have HBR : Hid (w.heap.size ≤ br) := Lib.hid (by omega)
  clear hbr hbx
  go_wp2_with fail
  refine (mgive_no _).mono ?_
  rintro en w1 ⟨rfl, rfl⟩
  have n0 := HX.out.cell 0
  have c0 := HY.out.cell 0
  have f0 := HY.out.frozen 0
  have n1 := HX.out.cell 1
  have c1 := HY.out.cell 1
  have f1 := HY.out.frozen 1
  have n2 := HX.out.cell 2
  have c2 := HY.out.cell 2
  have f2 := HY.out.frozen 2
  have n3 := HX.out.cell 3
  have c3 := HY.out.cell 3
  have f3 := HY.out.frozen 3
  have n4 := HX.out.cell 4
  have c4 := HY.out.cell 4
  have f4 := HY.out.frozen 4
  have n5 := HX.out.cell 5
  have c5 := HY.out.cell 5
  have f5 := HY.out.frozen 5
  go_wp2_with fail
  have hst := only_setCell (g := br) (p := ⟨br, 5, none⟩) (only_setCell (g := br) (p := ⟨br, 4, none⟩) (only_setCell (g := br) (p := ⟨br, 3, none⟩) (only_setCell (g := br) (p := ⟨br, 2, none⟩) (only_setCell (g := br) (p := ⟨br, 1, none⟩) (only_setCell (g := br) (p := ⟨br, 0, none⟩) (only_refl W0 _) rfl (.int .i64 a)) rfl (.int .i64 b)) rfl (.int .i64 c)) rfl (.int .i64 d)) rfl (.int .i64 e)) rfl (.slice A n q)
  have hbf : Blk ((((((W0.setCell ⟨br, 0, none⟩ (.int .i64 a)).setCell ⟨br, 1, none⟩ (.int .i64 b)).setCell ⟨br, 2, none⟩ (.int .i64 c)).setCell ⟨br, 3, none⟩ (.int .i64 d)).setCell ⟨br, 4, none⟩ (.int .i64 e)).setCell ⟨br, 5, none⟩ (.slice A n q)) br 52 #[.int .i64 a, .int .i64 b, .int .i64 c, .int .i64 d, .int .i64 e, .slice A n q] := ((((((HY.out.set_ 0 (.int .i64 a)).set_ 1 (.int .i64 b)).set_ 2 (.int .i64 c)).set_ 3 (.int .i64 d)).set_ 4 (.int .i64 e)).set_ 5 (.slice A n q))
  have HGF := Lib.hid (only_new' (only_weak HG.out none) hst HBR.out)
  clear hst n0 c0 f0 n1 c1 f1 n2 c2 f2 n3 c3 f3 n4 c4 f4 n5 c5 f5
  generalize ((((((W0.setCell ⟨br, 0, none⟩ (.int .i64 a)).setCell ⟨br, 1, none⟩ (.int .i64 b)).setCell ⟨br, 2, none⟩ (.int .i64 c)).setCell ⟨br, 3, none⟩ (.int .i64 d)).setCell ⟨br, 4, none⟩ (.int .i64 e)).setCell ⟨br, 5, none⟩ (.slice A n q)) = Wf at *
  refine bodyPost_ret (results_cell_row rfl _ _ br 52 #[.int .i64 a, .int .i64 b, .int .i64 c, .int .i64 d, .int .i64 e, .slice A n q] _ _ rfl hbf Tryz.underlying52 rfl (by kernel_rfl)) rfl ?_
  exact ⟨rfl, HGF.out⟩
set_option maxRecDepth 100000 in
set_option maxHeartbeats 1000000 in
theorem mmustI_yes (fb : Nat) (w : World) : Calls Tryz.prog 164 #[.agg J.zI, .iface 94 (.pointer (some ⟨fb, 0, none⟩))] w fun en w' => en = gaveF fb ∧ w.grownBy w' none := by
  unfold J.zI
  go_enter Tryz.func164, Tryz.ntmps164
  go_wp2_with fail
  refine (mgive_yes _ _).mono ?_
  rintro en w1 ⟨rfl, rfl⟩
  go_wp2_with fail
  exact ⟨rfl, rfl, only_alloc (only_alloc (only_refl _ _) _) _⟩
theorem Turn.weak {S T : Nat → Prop} {a b : World} (h : Turn S a b) (hS : ∀ k, S k → T k) : Turn T a b := ⟨h.os, h.tape, h.output, h.size, fun i hi hn => h.block i hi (fun hs => hn (hS i hs))⟩
theorem Turn.plus {T : Nat → Prop} {a b c : World} (h : Turn T a b) (k : Turn T b c) : Turn T a c := h.then_ k (fun _ _ h => h)
theorem ats_snoc {α : Type} (bg b : Nat) (pre : List (α × Nat)) (x : α) : ats bg (pre ++ [(x, b)]) = ats bg pre ++ [(bg : Int) + (b : Int)] := by simp [ats]
theorem ats_len {α : Type} (bg : Nat) (pre : List (α × Nat)) : (ats bg pre).length = pre.length := by simp [ats]
end Go.Proofs.YtohhojbeclbedaaGreatDoor

namespace Go.Proofs.YtohhojbeclbedaaGreatDoor
open Go.RowKit

set_option maxRecDepth 100000 in
set_option maxHeartbeats 4000000 in
theorem rclo_Ins {g b bg bt bx base : Nat} {pv : Value} {bs : List UInt8} {pre : List (Ins × Nat)} {T : Nat → Prop} {W : World} (hi : TmI bt bx g base bg pv pre T W) (hr : Rdr W g bs b bg) (hn : pre.length ≤ 1000) :
    Calls Tryz.prog 163 #[.pointer (some ⟨bt, 0, none⟩), .pointer (some ⟨bx, 0, none⟩)] W (CloR (encV InsE) (TmI bt bx g base bg pv) (fun _ => True) g bs bg pre T b (readI bs b) W) := by
  obtain ⟨res, hres⟩ : ∃ r, readI bs b = r := ⟨_, rfl⟩
  rw [hres]
  have HRES := Lib.hid hres
  clear hres
  obtain ⟨v, h1, h2, h3, h4, h5, h6, h7, h8, h9, h10, h11⟩ := hi
  obtain ⟨zs, hzs⟩ : ∃ zs, ats bg pre = zs := ⟨_, rfl⟩
  have HZL : Hid (zs.length ≤ 1000) := Lib.hid (by rw [← hzs, ats_len]; exact hn)
  rw [hzs] at h4
  have HZS := Lib.hid hzs
  obtain ⟨Av, cv, rfl⟩ := own_shape h4
  have hg0 : W.grownBy (W.alloc (.cells #[.int .i64 0, .int .i64 0, .int .i64 0, .int .i64 0, .int .i64 0, .slice none 0 0] 52)) none := only_alloc (only_refl _ _) _
  have HT1 := Lib.hid h1
  have BX := Lib.hid (h2.kept hg0)
  have BT := Lib.hid (h3.kept hg0)
  have HAO := Lib.hid (h4.none_ hg0)
  have BR := Lib.hid (Blk.new W 52 #[.int .i64 0, .int .i64 0, .int .i64 0, .int .i64 0, .int .i64 0, .slice none 0 0])
  have HRX := Lib.hid (hr.kept hg0)
  have HBX0 : Hid (base ≤ (W.alloc (.cells #[.int .i64 0, .int .i64 0, .int .i64 0, .int .i64 0, .int .i64 0, .slice none 0 0] 52)).heap.size) := Lib.hid (Nat.le_trans h11 hg0.size)
  have HNE : Hid (bx < base ∧ bt < base ∧ bx ≠ g ∧ bt ≠ g ∧ bx ≠ bt ∧ g < base) := Lib.hid ⟨h5, h6, h7, h8, h9, h10⟩
  have HBB : Hid (base ≤ W.heap.size) := Lib.hid h11
  have HTX : Hid (Turn T W (W.alloc (.cells #[.int .i64 0, .int .i64 0, .int .i64 0, .int .i64 0, .int .i64 0, .slice none 0 0] 52))) := Lib.hid (Turn.none_ hg0)
  obtain ⟨pl, hpl⟩ : ∃ pl : Int, (bg : Int) + (b : Int) = pl := ⟨_, rfl⟩
  have HPL := Lib.hid hpl
  clear h1 h2 h3 h4 h5 h6 h7 h8 h9 h10 h11 hg0 hr hn hzs hpl
  go_enter Tryz.func163, Tryz.ntmps163
  go_upto_region 1 with fail
  generalize (W.alloc (.cells #[.int .i64 0, .int .i64 0, .int .i64 0, .int .i64 0, .int .i64 0, .slice none 0 0] 52)) = X at *
  generalize hbr : W.heap.size = br at *
  have HBR : Hid (W.heap.size ≤ br) := Lib.hid (Nat.le_of_eq hbr)
  clear hbr
  refine region_chainW (by kernel_rfl) (by kernel_rfl) (by kernel_rfl) [3, 4, 5, 6, 7, 8, 9] (by kernel_rfl) (by kernel_rfl) (by decide)
    [(0, .pointer (some ⟨bt, 0, none⟩)), (1, .pointer (some ⟨bx, 0, none⟩)), (3, .pointer (some ⟨bt, 2, none⟩)), (4, .slice Av zs.length cv), (5, .pointer (some ⟨g, 0, none⟩)), (9, .pointer (some ⟨bt, 2, none⟩))]
    ?h0 [3, 4, 5, 7] (by kernel_rfl) (by kernel_rfl) (by decide) (by kernel_rfl) (TA X 6 7 8 bt 2 base (.slice Av zs.length cv) zs pl) ?hT ?reads ?steps (only_drew (only_refl _ _)) ?hQ
  case h0 =>
    intro p hp hn
    simp only [List.mem_cons, List.not_mem_nil, or_false] at hp
    rcases hp with rfl | rfl | rfl | rfl | rfl | rfl
    all_goals first | rfl | exact absurd (by dsimp only; decide) hn
  case hT =>
    intro j f g' W' hj he
    match j, hj with
    | 0, hj => exact hj
    | 1, ⟨h1, h2⟩ => exact ⟨(he 0 3 _ 6 (by decide) rfl rfl rfl).symm.trans h1, h2⟩
    | 2, ⟨k, h1, h2⟩ => exact ⟨k, (he 1 4 _ 7 (by decide) rfl rfl rfl).symm.trans h1, h2⟩
    | 3, ⟨v', Wa, h1, h2⟩ => exact ⟨v', Wa, (he 2 5 _ 8 (by decide) rfl rfl rfl).symm.trans h1, h2⟩
    | 4, hj => exact hj
  case reads =>
    intro i o ho hn
    have hrd : ∀ j f W', j < 4 → TA X 6 7 8 bt 2 base (.slice Av zs.length cv) zs pl j f W' → ∀ k t cs, Blk X k t cs → t ≠ 3 → Blk W' k t cs := by
      intro j f W' hj hT' k t cs hb ht
      match j, hj, hT' with
      | 0, _, hT' => exact hb.kept hT'
      | 1, _, ⟨_, hg⟩ => exact hb.kept hg
      | 2, _, ⟨_, _, _, hg⟩ => exact hb.kept hg
      | 3, _, ⟨_, Wa, _, hg, hg5, _⟩ => exact (hb.kept hg).grown hg5 (fun e => own_ne (HAO.out.none_ hg) (hb.kept hg) (Ne.symm ht) e.symm)
    have h9 : i = 0 ∨ i = 1 ∨ i = 2 ∨ i = 6 := by
      have h1 := (Array.getElem?_eq_some_iff.1 ho).1
      simp only [List.size_toArray, List.length_cons, List.length_nil] at h1
      simp only [List.mem_cons, List.not_mem_nil, or_false] at hn
      omega
    rcases h9 with rfl | rfl | rfl | rfl
    · cases ho
      exact ⟨3, _, rfl, rfl, fun j f b W' hj hT' henv => rv_fldT rfl (henv 0 _ (by simp [Op.operands]) rfl)⟩
    · cases ho
      exact ⟨4, _, rfl, rfl, fun j f b W' hj hT' henv => rv_loadI rfl (henv 3 _ (by simp [Op.operands]) rfl) ((hrd j f W' hj hT' bt _ _ BT.out (by decide)).cell 2)⟩
    · cases ho
      exact ⟨5, _, rfl, rfl, fun j f b W' hj hT' henv => rv_loadR rfl (henv 1 _ (by simp [Op.operands]) rfl) ((hrd j f W' hj hT' bx _ _ BX.out (by decide)).cell 0)⟩
    · cases ho
      exact ⟨9, _, rfl, rfl, fun j f b W' hj hT' henv => rv_fldT rfl (henv 0 _ (by simp [Op.operands]) rfl)⟩
  case steps =>
    intro j i o hj ho
    have h4 : j = 0 ∨ j = 1 ∨ j = 2 ∨ j = 3 := by
      have := (List.getElem?_eq_some_iff.1 hj).1
      simp only [List.length_cons, List.length_nil] at this
      omega
    rcases h4 with rfl | rfl | rfl | rfl
    · cases hj
      cases ho
      refine ⟨fun t e => by cases e; rfl, fun b W' hb hT1 henv => ?_⟩
      have hg : X.grownBy W' none := hT1
      refine wp_placeM rfl (henv 5 _ (by simp [Op.operands, Call.operands]) rfl) (place_step (HRX.out.kept hg)) ?_
      rintro en W5' ⟨rfl, hg5⟩
      exact ⟨_, rfl, _, rfl, (act_putM _ (by rw [hb]; show _ < 15; decide)).trans (congrArg (Value.int .i64) HPL.out), only_trans hg hg5⟩
    · cases hj
      cases ho
      refine ⟨fun t e => by cases e; rfl, fun b W' hb hT1 henv => ?_⟩
      obtain ⟨h1, hg⟩ := hT1
      exact wp_buildM rfl h1 ⟨_, rfl, W'.heap.size, act_putM _ (by rw [hb]; show _ < 15; decide), Blk.new _ _ _, only_alloc hg _⟩
    · cases hj
      cases ho
      refine ⟨fun t e => by cases e; rfl, fun b W' hb hT1 henv => ?_⟩
      obtain ⟨k, h1, h3, hg⟩ := hT1
      exact wp_appendM (.tmp 4) (.tmp 7) rfl (henv 4 _ (by simp [Op.operands, Call.operands]) rfl) h1 (HAO.out.none_ hg) h3 HZL.out (Nat.le_trans HBX0.out hg.size) (fun v' Wb ho5 hg5 hv5 => ⟨_, rfl, v', W', act_putM _ (by rw [hb]; show _ < 15; decide), hg, hg5, ho5, hv5⟩)
    · cases hj
      cases ho
      refine ⟨fun t e => (by cases e), fun b W' hb hT1 henv => ?_⟩
      obtain ⟨v', Wa, h1, hg, hg5, ho5, hv5⟩ := hT1
      obtain ⟨A5, c5, rfl⟩ := own_shape ho5
      have hbb := (BT.out.kept hg).grown hg5 (fun e => own_ne (HAO.out.none_ hg) (BT.out.kept hg) (by decide) e.symm)
      exact wp_storeM rfl (henv 9 _ (by simp [Op.operands]) rfl) h1 hbb rfl ⟨undef, rfl, _, Wa, W', rfl, hg, hg5, ho5, hv5⟩
  case hQ =>
    intro vs W' hv hT4
    obtain ⟨v', Wa, Wb, rfl, hg, hg5, ho5, hv5⟩ := hT4
    obtain ⟨q1, q2, q3, q4, q5, q6, q7⟩ := ta_end (fi := 2) hg hg5 ho5 hv5 HAO.out BT.out (by decide) (by decide)
    have HBT := Lib.hid q1
    have HA2 := Lib.hid q2
    have HX2 := Lib.hid (q3 _ _ _ BX.out (by decide) HNE.out.2.2.2.2.1)
    have HR2 := Lib.hid (q3 _ _ _ BR.out (by decide) (by have := HBR.out; have := HBB.out; have := HNE.out; omega))
    have HD2 := Lib.hid (q4 _ _ _ _ HRX.out (Ne.symm HNE.out.2.2.2.1))
    have HTU := Lib.hid q5
    have HNT := Lib.hid q6
    have HSZ := Lib.hid q7
    simp only [List.foldl_cons, List.foldl_nil, List.setIfInBounds_toArray, List.set_cons_zero, List.set_cons_succ]
    clear hv hg hg5 ho5 hv5 q1 q2 q3 q4 q5 q6 q7
    generalize World.setCell _ _ _ = W9 at *
    have cb := HX2.out.cell 0
    have HT9 : Hid (Turn T W W9) := Lib.hid (HTX.out.plus (HTU.out.weak (fun k hk => (HT1.out k).2 (.inr hk))))
    go_wp2_with fail
    refine (J.read_any HD2.out).mono ?_
    rintro en w1 hL
    clear cb
    rw [HRES.out] at hL
    cases res with
    | flt c y d =>
      obtain ⟨fb, rfl, hf, hge, hg, _⟩ := hL
      have HC : Hid (∀ w2, w1.grownBy w2 none → CloR (encV InsE) (TmI bt bx g base bg pv) (fun _ => True) g bs bg pre T b (.flt c y d) W (gaveF fb) w2) := Lib.hid fun w2 g2 =>
        ⟨fb, rfl, Blk.kept hf g2, Nat.le_trans HT9.out.size hge, (HT9.out.plus (Turn.of_only hg (fun k e => by injection e with e; subst e; exact (HT1.out _).2 (.inl rfl)))).plus (Turn.none_ g2), trivial⟩
      clear hf hge hg
      go_wp2_with fail
      refine (mmustI_yes _ _).mono ?_
      rintro en w2 ⟨rfl, g2⟩
      have HC2 := Lib.hid (HC.out w2 g2)
      clear g2
      go_wp2_with fail
      exact ⟨rfl, HC2.out⟩
    | ok x d =>
      obtain ⟨s, hsx, rfl, hI, hg, hrd⟩ := hL
      obtain ⟨op, xa, xb, xc, xd, xl⟩ := x
      obtain ⟨sa, sb, sc, sd, lv, sl⟩ := s
      cases hsx
      obtain ⟨Al, cl, hlv, _⟩ := id hI
      dsimp only at hlv hI
      subst hlv
      have HI := Lib.hid hI
      have HG1 := Lib.hid hg
      have HD1 := Lib.hid hrd
      clear hI hg hrd
      unfold Sg.cells
      go_wp2_with fail
      refine (mmustI_no _ _ _ _ _ _ _ _ _).mono ?_
      rintro en w2 ⟨rfl, g2⟩
      have HG2 := Lib.hid g2
      have HBR2 := Lib.hid ((HR2.out.grown HG1.out (fun e => by injection e with e; have := HBR.out; have := HBB.out; have := HNE.out; omega)).kept g2)
      clear g2
      have f0 := HBR2.out.frozen 0
      have c0 := HBR2.out.cell 0
      have f1 := HBR2.out.frozen 1
      have c1 := HBR2.out.cell 1
      have f2 := HBR2.out.frozen 2
      have c2 := HBR2.out.cell 2
      have f3 := HBR2.out.frozen 3
      have c3 := HBR2.out.cell 3
      have f4 := HBR2.out.frozen 4
      have c4 := HBR2.out.cell 4
      have f5 := HBR2.out.frozen 5
      have c5 := HBR2.out.cell 5
      go_wp2_with fail
      have hst := only_setCell (g := br) (p := ⟨br, 5, none⟩) (only_setCell (g := br) (p := ⟨br, 4, none⟩) (only_setCell (g := br) (p := ⟨br, 3, none⟩) (only_setCell (g := br) (p := ⟨br, 2, none⟩) (only_setCell (g := br) (p := ⟨br, 1, none⟩) (only_setCell (g := br) (p := ⟨br, 0, none⟩) (only_refl w2 _) rfl (.int .i64 op)) rfl (.int .i64 sa)) rfl (.int .i64 sb)) rfl (.int .i64 sc)) rfl (.int .i64 sd)) rfl (.slice Al sl.length cl)
      have hbf : Blk ((((((w2.setCell ⟨br, 0, none⟩ (.int .i64 op)).setCell ⟨br, 1, none⟩ (.int .i64 sa)).setCell ⟨br, 2, none⟩ (.int .i64 sb)).setCell ⟨br, 3, none⟩ (.int .i64 sc)).setCell ⟨br, 4, none⟩ (.int .i64 sd)).setCell ⟨br, 5, none⟩ (.slice Al sl.length cl)) br 52 #[.int .i64 op, .int .i64 sa, .int .i64 sb, .int .i64 sc, .int .i64 sd, .slice Al sl.length cl] := ((((((HBR2.out.set_ 0 (.int .i64 op)).set_ 1 (.int .i64 sa)).set_ 2 (.int .i64 sb)).set_ 3 (.int .i64 sc)).set_ 4 (.int .i64 sd)).set_ 5 (.slice Al sl.length cl))
      have HST := Lib.hid hst
      clear hst f0 c0 f1 c1 f2 c2 f3 c3 f4 c4 f5 c5
      generalize ((((((w2.setCell ⟨br, 0, none⟩ (.int .i64 op)).setCell ⟨br, 1, none⟩ (.int .i64 sa)).setCell ⟨br, 2, none⟩ (.int .i64 sb)).setCell ⟨br, 3, none⟩ (.int .i64 sc)).setCell ⟨br, 4, none⟩ (.int .i64 sd)).setCell ⟨br, 5, none⟩ (.slice Al sl.length cl)) = Wf at *
      refine bodyPost_ret (results_cell_row rfl _ _ br 52 #[.int .i64 op, .int .i64 sa, .int .i64 sb, .int .i64 sc, .int .i64 sd, .slice Al sl.length cl] _ _ rfl hbf Tryz.underlying52 rfl (by kernel_rfl)) rfl ?_
      have n1 := HNE.out
      have n2 := HBR.out
      have n3 := HBB.out
      have n4 := HT9.out.size
      have n5 := HG1.out.size
      have n6 := HG2.out.size
      have hkeep : ∀ k t cs', Blk W9 k t cs' → k ≠ g → k ≠ br → Blk Wf k t cs' := fun k t cs' hb hk1 hk2 => ((hb.grown HG1.out (fun e => hk1 (by injection e))).kept HG2.out).grown HST.out (fun e => hk2 (by injection e))
      have hown : ∀ k, v'.ownBlock = some k → base ≤ k ∧ k < W9.heap.size := fun k hk => World.ownsRow.lt HA2.out k hk
      have hA1 := HA2.out.kept HG1.out (by
        cases hv : v'.ownBlock with
        | none => exact .inl rfl
        | some u => exact .inr fun e => by injection e with e; have := hown u hv; omega)
      have hA2 := hA1.none_ HG2.out
      have hA3 := hA2.kept HST.out (.inr fun e => own_ne hA2 HBR2.out (by decide) e)
      have hbr9 := HR2.out.lt
      refine ⟨_, fun k => k = g ∨ k = bt ∨ v'.ownBlock = some k, rfl, ?_, ⟨v', fun _ => Iff.rfl, hkeep bx _ _ HX2.out n1.2.2.1 (by omega), hkeep bt _ _ HBT.out n1.2.2.2.1 (by omega), by rw [ats_snoc, HZS.out, HPL.out]; exact hA3, n1.1, n1.2.1, n1.2.2.1, n1.2.2.2.1, n1.2.2.2.2.1, n1.2.2.2.2.2, by have := HST.out.size; omega⟩, ⟨_, rfl, _, rfl, ?_⟩, ?_, ?_⟩
      · exact (HD1.out.kept HG2.out).grown HST.out (fun e => by injection e with e; omega) (fun j e => by injection e with e; subst e; exact ⟨_, _, HBR2.out, by decide⟩)
      · refine ((HI.out.keptS (KeptS.none_ HG2.out)).keptS (KeptS.grown HST.out (fun k hk e => ?_))).moreS (fun k hk _ => ⟨by have := hk.1; omega, ?_⟩)
        · injection e with e
          have := hk.1
          omega
        · rintro (e | e | e)
          · exact hk.2.2 e
          · have := hk.1; omega
          · have := (hown k e).2; have := hk.1; omega
      · exact ((HT9.out.plus (Turn.of_only HG1.out (fun k e => by injection e with e; subst e; exact (HT1.out _).2 (.inl rfl)))).plus (Turn.none_ HG2.out)).grown HST.out (fun k e => by injection e with e; omega)
      · rintro k hk hnk (e | e | e)
        · exact hnk ((HT1.out k).2 (.inl e))
        · exact hnk ((HT1.out k).2 (.inr (.inl e)))
        · exact HNT.out k (by have := HTX.out.size; omega) (fun e2 => hnk ((HT1.out k).2 (.inr (.inr e2)))) e
end Go.Proofs.YtohhojbeclbedaaGreatDoor

/- Texts joined for the claim's sake: SWkl. -/
import Derived.Test.YtmhbmeckdbdhpaaZSKnwRow40
import Derived.Test.YtmhbmeckdbdhpaaZSKnwRow23
import Derived.Great.BuildSlice
namespace Go.Proofs.Ytmhbmeckdbdhpaa
open Go.RowKit Go.Shelf

theorem run_alloc_st (W : World) : (Instr.alloc 45 true (.tuple #[])).run Try.prog W = .ok (.pointer (some ⟨W.heap.size, 0, none⟩)) (W.alloc (.cells (stC zeroT) 45)) := by kernel_rfl
theorem boxed_st (slot src : Tmp) (al st : Nat) {s : StT} (hs : s.regs.length = 16) : Boxed Try.prog ⟨slot, 45, stC zeroT, stC s, src, al, st⟩ := ⟨run_alloc_st, by rw [info_st, st_size hs], by rw [st_size hs]; rfl, one_st s⟩
section
variable {ops : Array Oper} {rest : List Oper} {o : Oper} {a : Act} {w : World} {Q : Exit → Act → World → Prop}
theorem wpList_alloc_st (hgd : o.guard = none) (ho : o.op = .alloc 45) (h : wpList Try.prog ops Q rest (a.put o.dst (.pointer (some ⟨w.heap.size, 0, none⟩))) (w.alloc (.cells (stC zeroT) 45))) : wpList Try.prog ops Q (o :: rest) a w := by
  refine wpList_plain hgd fun K hK => ?_
  obtain ⟨dst, op, type, pos, after, guard⟩ := o
  dsimp only at ho
  subst ho
  unfold Oper.wp
  simp only [execOp, Sem.run_bind, run_alloc_st, Result.andThen_ok, Sem.run_pure]
  exact hK _ _ h
theorem wpList_load_stG (hw : Region.wanted o (yielded ops a.tmps) = true) (x : Operand) (ho : o.op = .load 45 x) {g : Nat} (hx : a.eval x = .pointer (some ⟨g, 0, none⟩)) {s : StT} (hs : s.regs.length = 16) (hb : StB w g s)
    (h : wpList Try.prog ops Q rest (a.put o.dst (stV s)) w) : wpList Try.prog ops Q (o :: rest) a w := by
  refine wpList_step fun K hK => ?_
  rw [if_pos hw]
  have hr2 : w.rangeAt g 0 (stL s) := fun i u hi => by
    rw [Nat.zero_add]
    exact (hb.cell _).trans (by unfold stC; rw [List.getElem?_toArray]; exact hi)
  unfold Oper.wp execOp
  simp only [ho, hx, Instr.loadAt, Instr.sureAddr, Sem.run_bind, Sem.run_pure, Result.andThen_ok, run_loadVar_mid w g 0 45 (stL s) _ hr2 Try.underlying45 rfl (by rw [info_st]; unfold stL; simp [rgL_len, hs])]
  exact hK _ _ h
theorem wpList_build_stG (hw : Region.wanted o (yielded ops a.tmps) = true) (parts : Array (Nat × Operand)) (ho : o.op = .build 45 parts) (s : StT) (hb : Try.prog.built 45 (parts.map fun (i, x) => (i, a.eval x)).toList = some (stC s)) (h : wpList Try.prog ops Q rest (a.put o.dst (stV s)) w) : wpList Try.prog ops Q (o :: rest) a w := by
  refine wpList_step fun K hK => ?_
  rw [if_pos hw]
  exact wp_build 45 parts ho (by rw [hb]; rfl) (by rw [hb]; exact hK _ _ h)
theorem wpList_build_st (hgd : o.guard = none) (parts : Array (Nat × Operand)) (ho : o.op = .build 45 parts) (s : StT) (hb : Try.prog.built 45 (parts.map fun (i, x) => (i, a.eval x)).toList = some (stC s)) (h : wpList Try.prog ops Q rest (a.put o.dst (stV s)) w) : wpList Try.prog ops Q (o :: rest) a w :=
  wpList_buildTo hgd 45 parts ho o.dst rfl (stC s) hb h
end
theorem ov_ldSt {vals : List (Tmp × Value)} {w : World} {o : Oper} {t : Tmp} {g : Nat} {s : StT} (ho : o.op = .load 45 (.tmp t)) (hv : vals.lookup t = some (.pointer (some ⟨g, 0, none⟩))) (hs : s.regs.length = 16) (hb : StB w g s) : OpVal Try.prog o vals w (stV s) := fun b W hg hr => by
  have he := hr t _ (by rw [ho]; simp [Op.operands]) hv
  have hr2 : W.rangeAt g 0 (stL s) := fun i u hi => by
    rw [Nat.zero_add]
    exact ((hb.kept hg).cell _).trans (by unfold stC; rw [List.getElem?_toArray]; exact hi)
  obtain ⟨dst, op, type, pos, after, guard⟩ := o
  dsimp only at ho
  subst ho
  refine .inl ?_
  unfold execOp
  simp only [he, Instr.loadAt, Instr.sureAddr, Sem.run_bind, Sem.run_pure, Result.andThen_ok, run_loadVar_mid W g 0 45 (stL s) _ hr2 Try.underlying45 rfl (by rw [info_st]; unfold stL; simp [rgL_len, hs])]
  rfl
/-- Three copies of a state, each in a box of its own. -/
theorem region_three {ops : Array Oper} {Q : Exit → Act → World → Prop} {id : Nat} {a : Act} {w : World} (hok : regOkB ops = true) (ds : List Tmp) (hds : dstsOf ops = ds) (hlt : (ds.all fun t => decide (t < a.tmps.size)) = true) (hnd : ds.Nodup)
    (p s1 s2 s3 d1 d2 d3 : Tmp) (g : Nat) (s : StT) (hs : s.regs.length = 16) (hp : a.tmps.getD p undef = .pointer (some ⟨g, 0, none⟩)) (hpd : p ∉ ds) (hb : StB w g s)
    (hds' : ds = [s1, s2, s3, d1, d2, d3]) (hpn : p ≠ s1 ∧ p ≠ s2 ∧ p ≠ s3 ∧ p ≠ d1 ∧ p ≠ d2 ∧ p ≠ d3)
    (o0 o1 o2 o3 o4 o5 o6 o7 o8 : Oper) (hops : ops = #[o0, o1, o2, o3, o4, o5, o6, o7, o8])
    (e0 : o0.op = .load 45 (.tmp p) ∧ o0.dst = some s1) (e1 : o1.op = .load 45 (.tmp p) ∧ o1.dst = some s2) (e2 : o2.op = .load 45 (.tmp p) ∧ o2.dst = some s3)
    (e3 : o3.op = .alloc 45 ∧ o3.dst = some d1) (e4 : o4.op = .alloc 45 ∧ o4.dst = some d2) (e5 : o5.op = .alloc 45 ∧ o5.dst = some d3)
    (e6 : o6.op = .store 45 (.tmp d1) (.tmp s1) ∧ o6.dst = none) (e7 : o7.op = .store 45 (.tmp d2) (.tmp s2) ∧ o7.dst = none) (e8 : o8.op = .store 45 (.tmp d3) (.tmp s3) ∧ o8.dst = none)
    (hQ : ∀ (vs : Tmp → Value) (W : World) (B1 B2 B3 : Nat), w.grownBy W none → vs d1 = .pointer (some ⟨B1, 0, none⟩) → vs d2 = .pointer (some ⟨B2, 0, none⟩) → vs d3 = .pointer (some ⟨B3, 0, none⟩) → B1 ≠ B2 → B1 ≠ B3 → B2 ≠ B3 → w.heap.size ≤ B1 → w.heap.size ≤ B2 → w.heap.size ≤ B3 → StB W B1 s → StB W B2 s → StB W B3 s →
      Q .normal { a with tmps := ds.foldl (fun (ts : Array Value) t => ts.setIfInBounds t (vs t)) a.tmps } W) :
    (Code.region id ops true).wp Try.prog Q a w := by
  subst hds
  have hu : ∀ (i j : Nat) (oi oj : Oper) (t : Tmp), ops[i]? = some oi → ops[j]? = some oj → oi.dst = some t → oj.dst = some t → i = j := fun i j oi oj t hi hj ei ej =>
    nodup_at hnd (by rw [Array.getElem?_toList]; exact hi) (by rw [Array.getElem?_toList]; exact hj) ei ej
  rw [hds'] at hnd hpd
  simp only [List.nodup_cons, List.mem_cons, List.not_mem_nil, or_false, not_or, List.nodup_nil, and_true, not_false_eq_true] at hnd
  obtain ⟨⟨n12, n13, m11, m12, m13⟩, ⟨n23, m21, m22, m23⟩, ⟨m31, m32, m33⟩, ⟨k12, k13⟩, k23⟩ := hnd
  obtain ⟨q1, q2, q3, q4, q5, q6⟩ := hpn
  have l0 : List.lookup p [(p, Value.pointer (some ⟨g, 0, none⟩)), (s1, stV s), (s2, stV s), (s3, stV s)] = some (.pointer (some ⟨g, 0, none⟩)) := by simp [List.lookup]
  have l1 : List.lookup s1 [(p, Value.pointer (some ⟨g, 0, none⟩)), (s1, stV s), (s2, stV s), (s3, stV s)] = some (stV s) := by
    simp [List.lookup, beq_eq_false_iff_ne.2 (Ne.symm q1)]
  have l2 : List.lookup s2 [(p, Value.pointer (some ⟨g, 0, none⟩)), (s1, stV s), (s2, stV s), (s3, stV s)] = some (stV s) := by
    simp [List.lookup, beq_eq_false_iff_ne.2 (Ne.symm q2), beq_eq_false_iff_ne.2 (Ne.symm n12)]
  have l3 : List.lookup s3 [(p, Value.pointer (some ⟨g, 0, none⟩)), (s1, stV s), (s2, stV s), (s3, stV s)] = some (stV s) := by
    simp [List.lookup, beq_eq_false_iff_ne.2 (Ne.symm q3), beq_eq_false_iff_ne.2 (Ne.symm n13), beq_eq_false_iff_ne.2 (Ne.symm n23)]
  have ln : ∀ d, d ≠ p → d ≠ s1 → d ≠ s2 → d ≠ s3 → List.lookup d [(p, Value.pointer (some ⟨g, 0, none⟩)), (s1, stV s), (s2, stV s), (s3, stV s)] = none := fun d a1 a2 a3 a4 => by
    simp [List.lookup, beq_eq_false_iff_ne.2 a1, beq_eq_false_iff_ne.2 a2, beq_eq_false_iff_ne.2 a3, beq_eq_false_iff_ne.2 a4]
  have hb3 : ∀ x ∈ ([⟨d1, 45, stC zeroT, stC s, s1, 3, 6⟩, ⟨d2, 45, stC zeroT, stC s, s2, 4, 7⟩, ⟨d3, 45, stC zeroT, stC s, s3, 5, 8⟩] : List Bx), x = ⟨d1, 45, stC zeroT, stC s, s1, 3, 6⟩ ∨ x = ⟨d2, 45, stC zeroT, stC s, s2, 4, 7⟩ ∨ x = ⟨d3, 45, stC zeroT, stC s, s3, 5, 8⟩ := fun x hx => by simpa using hx
  have p0 : ops[0]? = some o0 := by rw [hops]; rfl
  have p1 : ops[1]? = some o1 := by rw [hops]; rfl
  have p2 : ops[2]? = some o2 := by rw [hops]; rfl
  have p3 : ops[3]? = some o3 := by rw [hops]; rfl
  have p4 : ops[4]? = some o4 := by rw [hops]; rfl
  have p5 : ops[5]? = some o5 := by rw [hops]; rfl
  have p6 : ops[6]? = some o6 := by rw [hops]; rfl
  have p7 : ops[7]? = some o7 := by rw [hops]; rfl
  have p8 : ops[8]? = some o8 := by rw [hops]; rfl
  have hsz : ops.size = 9 := by rw [hops]; rfl
  refine region_boxes (by kernel_rfl) hok hlt hu [(p, .pointer (some ⟨g, 0, none⟩)), (s1, stV s), (s2, stV s), (s3, stV s)] [⟨d1, 45, stC zeroT, stC s, s1, 3, 6⟩, ⟨d2, 45, stC zeroT, stC s, s2, 4, 7⟩, ⟨d3, 45, stC zeroT, stC s, s3, 5, 8⟩]
    (fun t v hv ht => ?_) (fun i o ho => ?_) (fun z hz => ?_) (fun z hz t c e hl => ?_) (fun z hz u hu' => ?_) (fun vs W hg hv hbx hap => ?_)
  · rw [hds'] at ht
    simp only [List.mem_cons, List.not_mem_nil, or_false, not_or] at ht
    by_cases hpt : t = p
    · subst hpt
      rw [l0] at hv
      rw [hp]
      exact Option.some.inj hv
    · rw [ln t hpt ht.1 ht.2.1 ht.2.2.1] at hv
      cases hv
  · have hi : i < 9 := by rw [← hsz]; exact (Array.getElem?_eq_some_iff.1 ho).1
    have h9 : i = 0 ∨ i = 1 ∨ i = 2 ∨ i = 3 ∨ i = 4 ∨ i = 5 ∨ i = 6 ∨ i = 7 ∨ i = 8 := by omega
    rcases h9 with rfl | rfl | rfl | rfl | rfl | rfl | rfl | rfl | rfl
    · rw [p0] at ho; obtain rfl := Option.some.inj ho
      refine .inl ⟨s1, stV s, e0.2, l1, fun x hx => ?_, ov_ldSt e0.1 l0 hs hb⟩
      rcases hb3 x hx with rfl | rfl | rfl
      · exact ⟨Ne.symm m11, by simp, by simp⟩
      · exact ⟨Ne.symm m12, by simp, by simp⟩
      · exact ⟨Ne.symm m13, by simp, by simp⟩
    · rw [p1] at ho; obtain rfl := Option.some.inj ho
      refine .inl ⟨s2, stV s, e1.2, l2, fun x hx => ?_, ov_ldSt e1.1 l0 hs hb⟩
      rcases hb3 x hx with rfl | rfl | rfl
      · exact ⟨Ne.symm m21, by simp, by simp⟩
      · exact ⟨Ne.symm m22, by simp, by simp⟩
      · exact ⟨Ne.symm m23, by simp, by simp⟩
    · rw [p2] at ho; obtain rfl := Option.some.inj ho
      refine .inl ⟨s3, stV s, e2.2, l3, fun x hx => ?_, ov_ldSt e2.1 l0 hs hb⟩
      rcases hb3 x hx with rfl | rfl | rfl
      · exact ⟨Ne.symm m31, by simp, by simp⟩
      · exact ⟨Ne.symm m32, by simp, by simp⟩
      · exact ⟨Ne.symm m33, by simp, by simp⟩
    · rw [p3] at ho; obtain rfl := Option.some.inj ho
      exact .inr (.inl ⟨_, List.mem_cons_self, rfl, e3.1, e3.2⟩)
    · rw [p4] at ho; obtain rfl := Option.some.inj ho
      exact .inr (.inl ⟨_, List.mem_cons_of_mem _ List.mem_cons_self, rfl, e4.1, e4.2⟩)
    · rw [p5] at ho; obtain rfl := Option.some.inj ho
      exact .inr (.inl ⟨_, List.mem_cons_of_mem _ (List.mem_cons_of_mem _ List.mem_cons_self), rfl, e5.1, e5.2⟩)
    · rw [p6] at ho; obtain rfl := Option.some.inj ho
      exact .inr (.inr ⟨_, List.mem_cons_self, rfl, e6.1, e6.2, _, p3, e3.2⟩)
    · rw [p7] at ho; obtain rfl := Option.some.inj ho
      exact .inr (.inr ⟨_, List.mem_cons_of_mem _ List.mem_cons_self, rfl, e7.1, e7.2, _, p4, e4.2⟩)
    · rw [p8] at ho; obtain rfl := Option.some.inj ho
      exact .inr (.inr ⟨_, List.mem_cons_of_mem _ (List.mem_cons_of_mem _ List.mem_cons_self), rfl, e8.1, e8.2, _, p5, e5.2⟩)
  · rcases hb3 z hz with rfl | rfl | rfl
    · exact ⟨boxed_st _ _ _ _ hs, l1⟩
    · exact ⟨boxed_st _ _ _ _ hs, l2⟩
    · exact ⟨boxed_st _ _ _ _ hs, l3⟩
  · rcases hb3 z hz with rfl | rfl | rfl
    · rw [← e, ln d1 (Ne.symm q4) (Ne.symm m11) (Ne.symm m21) (Ne.symm m31)] at hl; cases hl
    · rw [← e, ln d2 (Ne.symm q5) (Ne.symm m12) (Ne.symm m22) (Ne.symm m32)] at hl; cases hl
    · rw [← e, ln d3 (Ne.symm q6) (Ne.symm m13) (Ne.symm m23) (Ne.symm m33)] at hl; cases hl
  · rcases hb3 z hz with rfl | rfl | rfl <;> rcases hb3 u hu' with rfl | rfl | rfl
    all_goals first
      | exact ⟨fun _ => rfl, fun _ => rfl, fun _ => rfl, by simp⟩
      | exact ⟨fun e => absurd e (by simp), fun e => absurd e (by simp), fun e => absurd e k12, by simp⟩
      | exact ⟨fun e => absurd e (by simp), fun e => absurd e (by simp), fun e => absurd e k13, by simp⟩
      | exact ⟨fun e => absurd e (by simp), fun e => absurd e (by simp), fun e => absurd e k23, by simp⟩
      | exact ⟨fun e => absurd e (by simp), fun e => absurd e (by simp), fun e => absurd e.symm k12, by simp⟩
      | exact ⟨fun e => absurd e (by simp), fun e => absurd e (by simp), fun e => absurd e.symm k13, by simp⟩
      | exact ⟨fun e => absurd e (by simp), fun e => absurd e (by simp), fun e => absurd e.symm k23, by simp⟩
  · have a1 := List.mem_cons_self (a := (⟨d1, 45, stC zeroT, stC s, s1, 3, 6⟩ : Bx)) (l := [⟨d2, 45, stC zeroT, stC s, s2, 4, 7⟩, ⟨d3, 45, stC zeroT, stC s, s3, 5, 8⟩])
    have a2 := List.mem_cons_of_mem (⟨d1, 45, stC zeroT, stC s, s1, 3, 6⟩ : Bx) (List.mem_cons_self (a := (⟨d2, 45, stC zeroT, stC s, s2, 4, 7⟩ : Bx)) (l := [⟨d3, 45, stC zeroT, stC s, s3, 5, 8⟩]))
    have a3 := List.mem_cons_of_mem (⟨d1, 45, stC zeroT, stC s, s1, 3, 6⟩ : Bx) (List.mem_cons_of_mem (⟨d2, 45, stC zeroT, stC s, s2, 4, 7⟩ : Bx) (List.mem_cons_self (a := (⟨d3, 45, stC zeroT, stC s, s3, 5, 8⟩ : Bx)) (l := [])))
    obtain ⟨B1, x1, w1, y1⟩ := hbx _ a1 ⟨_, p3⟩ ⟨_, p6⟩
    obtain ⟨B2, x2, w2, y2⟩ := hbx _ a2 ⟨_, p4⟩ ⟨_, p7⟩
    obtain ⟨B3, x3, w3, y3⟩ := hbx _ a3 ⟨_, p5⟩ ⟨_, p8⟩
    refine hQ vs W B1 B2 B3 hg x1 x2 x3 (fun e => ?_) (fun e => ?_) (fun e => ?_) w1 w2 w3 y1 y2 y3
    · exact hap _ a1 _ a2 (by simp) ⟨_, p3⟩ ⟨_, p4⟩ B1 x1 (by rw [e]; exact x2)
    · exact hap _ a1 _ a3 (by simp) ⟨_, p3⟩ ⟨_, p5⟩ B1 x1 (by rw [e]; exact x3)
    · exact hap _ a2 _ a3 (by simp) ⟨_, p4⟩ ⟨_, p5⟩ B2 x2 (by rw [e]; exact x3)
theorem rgL_setSlot {k c p : Int} : ∀ {l : List Slt} {i : Nat}, i < l.length → (((rgL l).set (i * 3) (.int .i64 k)).set (i * 3 + 1) (.int .i64 c)).set (i * 3 + 2) (.int .i64 p) = rgL (l.set i ⟨k, c, p⟩)
  | [], _, h => by simp at h
  | y :: l, 0, h => rfl
  | y :: l, i + 1, h => by
    have := rgL_setSlot (k := k) (c := c) (p := p) (l := l) (i := i) (by simpa using h)
    have e : rgL (y :: l) = slL y ++ rgL l := rfl
    have e2 : rgL (y :: l.set i ⟨k, c, p⟩) = slL y ++ rgL (l.set i ⟨k, c, p⟩) := rfl
    rw [List.set_cons_succ, e, e2, ← this, List.set_append_right _ _ (by show 3 ≤ _; omega), List.set_append_right _ _ (by show 3 ≤ _; omega), List.set_append_right _ _ (by show 3 ≤ _; omega)]
    show slL y ++ (((rgL l).set ((i + 1) * 3 - 3) _).set ((i + 1) * 3 + 1 - 3) _).set ((i + 1) * 3 + 2 - 3) _ = _
    rw [show (i + 1) * 3 - 3 = i * 3 by omega, show (i + 1) * 3 + 1 - 3 = i * 3 + 1 by omega, show (i + 1) * 3 + 2 - 3 = i * 3 + 2 by omega]
theorem StB.setSlot {W : World} {g : Nat} {s : StT} (h : StB W g s) {i : Nat} (hi : i < s.regs.length) (k c p : Int) : StB (((W.setCell ⟨g, 2 + i * 3, none⟩ (.int .i64 k)).setCell ⟨g, 2 + i * 3 + 1, none⟩ (.int .i64 c)).setCell ⟨g, 2 + i * 3 + 2, none⟩ (.int .i64 p)) g { s with regs := s.regs.set i ⟨k, c, p⟩ } := by
  have := ((h.set_ (2 + i * 3) (.int .i64 k)).set_ (2 + i * 3 + 1) (.int .i64 c)).set_ (2 + i * 3 + 2) (.int .i64 p)
  have e : (((stC s).setIfInBounds (2 + i * 3) (.int .i64 k)).setIfInBounds (2 + i * 3 + 1) (.int .i64 c)).setIfInBounds (2 + i * 3 + 2) (.int .i64 p) = stC { s with regs := s.regs.set i ⟨k, c, p⟩ } := by
    unfold stC stL
    rw [List.setIfInBounds_toArray, List.setIfInBounds_toArray, List.setIfInBounds_toArray, show 2 + i * 3 + 2 = (i * 3 + 2) + 1 + 1 by omega, show 2 + i * 3 + 1 = (i * 3 + 1) + 1 + 1 by omega, show 2 + i * 3 = i * 3 + 1 + 1 by omega, List.set_cons_succ, List.set_cons_succ, List.set_cons_succ, List.set_cons_succ, List.set_cons_succ, List.set_cons_succ, rgL_setSlot hi]
  rwa [e] at this
end Go.Proofs.Ytmhbmeckdbdhpaa

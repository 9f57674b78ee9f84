/- class: part: what stands in a round, node by node. -/
import Derived.Test.YtepjkoegbehojaaZCPtA
import Derived.Test.YtepjkoegbehojaaZCRfn
namespace Go.Proofs.Ytepjkoegbehojaa
open Go.RowKit Go.Shelf Go.Maps

/-- What stands in a round: the numbers so far, the map of what is known, the row of what was found. -/
structure IN (wr : World) (n BN BM : Nat) (vf : Value) (km kf : List Nd) (os : List Nat) (W : World) : Prop where
  gr : wr.grownBy W none
  bn : wr.heap.size ≤ BN
  bm : wr.heap.size ≤ BM
  nx : Blk W BN 3 (rowN n os)
  mp : KMap W BM km.length km
  fo : KOwn wr.heap.size W vf kf
section
variable {wr W W' : World} {n BN BM : Nat} {vf vf' : Value} {km kf kf' : List Nd} {os : List Nat}
theorem blk_map {g m : Nat} {t : TypeId} {cs : Array Value} {ks : List Nd} (h : Blk W g t cs) (hm : KMap W BM m ks) : g ≠ BM := fun e => by
  subst e
  obtain ⟨D, ⟨es, clock, h1, _⟩, _⟩ := hm
  unfold Blk at h
  rw [h] at h1
  cases h1
theorem KMap.obj {m : Nat} {ks : List Nd} (hm : KMap W BM m ks) : ∃ o : Obj, W.heap[BM]? = some o ∧ ∀ cs, o ≠ .cells cs 68 (0, 0) := by
  obtain ⟨D, ⟨es, clock, h1, _⟩, _⟩ := hm
  exact ⟨_, h1, fun cs e => by cases e⟩
theorem IN.kept (h : IN wr n BN BM vf km kf os W) (hg : W.grownBy W' none) : IN wr n BN BM vf km kf os W' :=
  ⟨only_trans h.gr hg, h.bn, h.bm, h.nx.kept hg, h.mp.kept hg (fun e => by cases e), h.fo.kept0 hg⟩
/-- One number more is stored. -/
theorem IN.num (h : IN wr n BN BM vf km kf os W) (hl : os.length < n) (c : Nat) : IN wr n BN BM vf km kf (os ++ [c]) (W.setCell ⟨BN, os.length, none⟩ (.int .i64 (c : Int))) := by
  have hs : W.grownBy (W.setCell ⟨BN, os.length, none⟩ (.int .i64 (c : Int))) (some BN) := only_setCell (only_refl _ _) rfl _
  refine ⟨only_new h.gr hs h.bn, h.bn, h.bm, by rw [← rowN_set hl]; exact h.nx.set_ _ _, h.mp.kept hs (fun e => blk_map h.nx h.mp (Option.some.inj e).symm), h.fo.other hs fun g e => ?_⟩
  injection e with e
  subst e
  exact ⟨_, h.nx, fun cs e => by simp at e⟩
/-- The map is turned. -/
theorem IN.key (h : IN wr n BN BM vf km kf os W) {km' : List Nd} (ht : W.mapTurned W' BM) (hm : KMap W' BM km'.length km') : IN wr n BN BM vf km' kf os W' := by
  have hg := ht.grown
  refine ⟨only_new h.gr hg h.bm, h.bn, h.bm, h.nx.grown hg (fun e => blk_map h.nx h.mp (Option.some.inj e)), hm, h.fo.other hg fun g e => ?_⟩
  injection e with e
  subst e
  exact h.mp.obj
/-- One more is found. -/
theorem IN.find (h : IN wr n BN BM vf km kf os W) (hg : W.grownBy W' vf.ownBlock) (ho : KOwn wr.heap.size W' vf' kf') : IN wr n BN BM vf' km kf' os W' := by
  have hne : ∀ {g : Nat} {o : Obj}, W.heap[g]? = some o → (∀ cs, o ≠ .cells cs 68 (0, 0)) → some g ≠ vf.ownBlock := fun hb ht e => by
    obtain ⟨_, cs', hb'⟩ := own_row h.fo _ e.symm
    unfold Blk at hb'
    rw [hb'] at hb
    exact ht cs' (Option.some.inj hb).symm
  refine ⟨grown_own h.gr (fun g e => (World.ownsRow.lt h.fo g e).1) hg, h.bn, h.bm, h.nx.grown hg (hne h.nx (fun cs e => by simp at e)), ?_, ho⟩
  obtain ⟨o, h1, h2⟩ := h.mp.obj
  exact h.mp.kept hg (hne h1 h2)
theorem box_beside {Bk : Nat} {cs : Array Value} (hb : Blk W Bk 68 cs) (hne : vf.ownBlock ≠ some Bk) (hg : W.grownBy W' vf.ownBlock) : Blk W' Bk 68 cs := hb.grown hg (fun e => hne e.symm)
end

section
variable {o : Oper} {b : Act} {W : World} {K : Act → World → Prop} {Q : Exit → Act → World → Prop}
theorem rv_loadK {t : Tmp} {g : Nat} {x : Nd} (ho : o.op = .load 68 (.tmp t)) (h1 : b.eval (.tmp t) = .pointer (some ⟨g, 0, none⟩)) (hb : Blk W g 68 (knA x)) : (execOp b.eval o).run Try.prog W = .ok (.value (knV x)) W := by
  have hr := run_loadVar_row (P := Try.prog) W g 68 68 (knA x) (0, 0) _ hb Try.underlying68 rfl (by rw [known_size]; rfl)
  unfold execOp
  simp only [ho, h1, Instr.loadAt, Instr.sureAddr, Sem.run_bind, Sem.run_pure, Result.andThen_ok, hr]
theorem rv_look {t1 t2 : Tmp} {BM : Nat} {x : Nd} {v : Value} (ho : o.op = .lookup 96 (.tmp t1) (.tmp t2) true) (h1 : b.eval (.tmp t1) = .map (some BM)) (h2 : b.eval (.tmp t2) = knV x) (hr : (Instr.lookup 96 (.map (some BM)) (knV x) true).run Try.prog W = .ok v W) : (execOp b.eval o).run Try.prog W = .ok (.value v) W := by
  unfold execOp
  simp only [ho, h1, h2, Sem.run_bind, Sem.run_pure, Result.andThen_ok, hr]
theorem wp_keyK {t1 t2 t3 : Tmp} {BM : Nat} {x : Nd} {ks : List Nd} (ho : o.op = .mapUpdate 96 (.tmp t1) (.tmp t2) (.tmp t3)) (h1 : b.eval (.tmp t1) = .map (some BM)) (h2 : b.eval (.tmp t2) = knV x) (h3 : b.eval (.tmp t3) = .int .i64 (ks.length : Int))
    (hm : KMap W BM ks.length ks) (hx : KN x) (hn : x ∉ ks) (hl : ks.length ≤ 1000000) (hK : ∀ W', KMap W' BM (ks ++ [x]).length (ks ++ [x]) → W.mapTurned W' BM → K (b.put o.dst undef) W') : o.wp Try.prog b W K Q := by
  obtain ⟨W', hrun, r1, r2⟩ := hm.put hx hn hl
  unfold Oper.wp execOp
  simp only [ho, h1, h2, h3, Sem.run_bind, Sem.run_pure, Result.andThen_ok, hrun]
  exact hK W' (by rw [List.length_append]; exact r1) r2
theorem wp_assign {t : Tmp} (ho : o.op = .assign (.tmp t)) (hK : K (b.put o.dst (b.eval (.tmp t))) W) : o.wp Try.prog b W K Q := by
  unfold Oper.wp execOp
  simp only [ho, Sem.run_pure]
  exact hK
theorem wpList_val {P : Program} {ops : Array Oper} {rest : List Oper} {a : Act} {v : Value} (hgd : o.guard = none) (hr : (execOp a.eval o).run P W = .ok (.value v) W) (h : wpList P ops Q rest (a.put o.dst v) W) : wpList P ops Q (o :: rest) a W :=
  wpList_plain hgd fun K hK => by
    unfold Oper.wp
    rw [hr]
    exact hK _ _ h
end
/-- What stands as one more is found. -/
def TPt (wr : World) (n BN BM : Nat) (vf : Value) (ks : List Nd) (os : List Nat) (Bk : Nat) (x : Nd) (d : Nat → Bool) (f : Tmp → Value) (W : World) : Prop :=
  if d 8 then ∃ vf', f 5 = vf' ∧ IN wr n BN BM vf' (ks ++ [x]) (ks ++ [x]) os W
  else if d 7 then ∃ vf', f 50 = vf' ∧ IN wr n BN BM vf' (ks ++ [x]) (ks ++ [x]) os W
  else if d 6 then (∃ vf', f 50 = vf' ∧ IN wr n BN BM vf' ks (ks ++ [x]) os W) ∧ Blk W Bk 68 (knA x)
  else IN wr n BN BM vf ks ks os W ∧ Blk W Bk 68 (knA x) ∧ f 5 = vf ∧ (d 5 = true → ∃ g, f 49 = .slice (some ⟨g, 0, none⟩) 1 1 ∧ Blk W g 68 (knA x))
section
variable {wr W : World} {n BN BM Bk : Nat} {vf : Value} {ks : List Nd} {os : List Nat} {x : Nd} {d d' : Nat → Bool} {f g : Tmp → Value}
theorem TPt.congr (h : TPt wr n BN BM vf ks os Bk x d f W) (h5 : f 5 = g 5) (h49 : f 49 = g 49) (h50 : f 50 = g 50) : TPt wr n BN BM vf ks os Bk x d g W := by
  unfold TPt at h ⊢
  rw [h5, h49, h50] at h
  exact h
theorem TPt.same (h : TPt wr n BN BM vf ks os Bk x d f W) (h5 : d 5 = d' 5) (h6 : d 6 = d' 6) (h7 : d 7 = d' 7) (h8 : d 8 = d' 8) : TPt wr n BN BM vf ks os Bk x d' f W := by
  unfold TPt at h ⊢
  rw [h5, h6, h7, h8] at h
  exact h
theorem tpt_a (h6 : d 6 = false) (h7 : d 7 = false) (h8 : d 8 = false) : TPt wr n BN BM vf ks os Bk x d f W ↔ IN wr n BN BM vf ks ks os W ∧ Blk W Bk 68 (knA x) ∧ f 5 = vf ∧ (d 5 = true → ∃ g, f 49 = .slice (some ⟨g, 0, none⟩) 1 1 ∧ Blk W g 68 (knA x)) := by
  unfold TPt
  rw [h6, h7, h8]
  simp only [Bool.false_eq_true, if_false]
theorem tpt_b (h6 : d 6 = true) (h7 : d 7 = false) (h8 : d 8 = false) : TPt wr n BN BM vf ks os Bk x d f W ↔ (∃ vf', f 50 = vf' ∧ IN wr n BN BM vf' ks (ks ++ [x]) os W) ∧ Blk W Bk 68 (knA x) := by
  unfold TPt
  rw [h6, h7, h8]
  simp only [Bool.false_eq_true, if_false, if_true]
theorem tpt_c (h7 : d 7 = true) (h8 : d 8 = false) : TPt wr n BN BM vf ks os Bk x d f W ↔ ∃ vf', f 50 = vf' ∧ IN wr n BN BM vf' (ks ++ [x]) (ks ++ [x]) os W := by
  unfold TPt
  rw [h7, h8]
  simp only [Bool.false_eq_true, if_false, if_true]
theorem tpt_d (h8 : d 8 = true) : TPt wr n BN BM vf ks os Bk x d f W ↔ ∃ vf', f 5 = vf' ∧ IN wr n BN BM vf' (ks ++ [x]) (ks ++ [x]) os W := by
  unfold TPt
  rw [h8]
  simp only [if_true]
end
/-- What is known of a node of a table is small. -/
theorem kn_small {L : List Nd} (hX : TX L) {os : List Nat} (hos : ∀ m, os.getD m 0 ≤ 1000) {a : Nat} {x : Nd} (hx : L[a]? = some x) : KN (knN L os a) := by
  have hm := List.mem_of_getElem? hx
  have hg := hX.tw.good x hm
  have hl : ∀ e, e ∈ allE x → (-1000000000 ≤ (linkL L os x e).1 ∧ (linkL L os x e).1 ≤ 1000000000) ∧ (-1000000000 ≤ (linkL L os x e).2 ∧ (linkL L os x e).2 ≤ 1000000000) := fun e he => by
    obtain ⟨m, y, s, hy, _, s0, s1, _, hp⟩ := hX.tw.goes hm he
    have gy := hX.tw.good y (List.mem_of_getElem? hy)
    unfold linkL
    rw [hp]
    dsimp only
    have := hos m
    split <;> omega
  unfold knN
  rw [hx]
  refine ⟨rfl, by rw [List.length_map]; exact hg.2.2, by dsimp only; omega, ?_, fun e he => ?_⟩
  · dsimp only
    cases hc : x.chan with
    | false => rw [if_neg (by decide)]; decide
    | true => rw [if_pos rfl]; exact hl _ (by unfold allE; rw [hc]; simp)
  · obtain ⟨e', he', rfl⟩ := List.mem_map.1 he
    exact hl e' (by unfold allE; exact List.mem_append_left _ he')
end Go.Proofs.Ytepjkoegbehojaa

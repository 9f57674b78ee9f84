/- Texts joined for the claim's sake: OLaw, DTurn. -/
import Derived.Test.YtmhbmeckdbdhpaaZSKnwRow0
import Derived.Test.YtmhbmeckdbdhpaaZSKnwRow15
import Derived.Test.YtmhbmeckdbdhpaaZSKnwRow11
import Derived.Deep.CutBlock
import Derived.Deep.CutRange
import Derived.Deep.QuietTactic
import Derived.BigQuiet
namespace Go.Proofs.Ytmhbmeckdbdhpaa
open Go.RowKit

variable {F : Fence} {n : Nat} {P : Program}

/-- What the caller owes, where the loop's variables lie in no block. -/
theorem wpIn_rangeFunc_tellsP {α : Type} {g : Operand} {ps : Array Tmp} {assign body : Code} {Q : Exit → Act → World → Prop} {a : Act} {w : World}
    (hro : F.round = none) (h1 : 1 ≤ n) {gf : Nat} {lb : Array Value} (hg : a.eval g = .func (.func gf) #[] lb) (hFg : F.fn gf) (eg : ∀ args w, (callFunc gf args).run P w = .ok (.enter gf args) w)
    {encs : α → Array Value} {Kp : World → World → Prop} {T0 : World → Prop} {L : List α} (hseq : Tells F (n - 1) P gf lb encs Kp T0 L)
    (hKt : ∀ {A B C : World}, Kp A B → Kp B C → Kp A C) (hKp : ∀ (W : World) (l : Nat) (o o' : Obj), W.heap[l]? = some o → o.isCells = false → Kp W (W.putObj l o'))
    (hps : ∀ x, (encs x).size = ps.size) (hT0 : ∀ W, Below w.heap.size w W → T0 W)
    (I : List α → World → Prop) (Ix : Code → List α → World → Prop) (hI : ∀ s X Y, I s X → Below w.heap.size X Y → I s Y) (hIx : ∀ c s X Y, Ix c s X → Below w.heap.size X Y → Ix c s Y)
    (h0 : I [] w) (a₁ : α → Act)
    (hassign : ∀ (l : Nat) (x : α) (W : World) (K : Act → World → Prop), K (a₁ x) W →
      assign.wpIn (F.inRound l) (n - 1 - 1) P (Exit.then K (fun _ _ _ => False)) { tmps := (ps.zip (encs x)).foldl (fun t (p, v) => t.setIfInBounds p v) a.tmps, defers := [] } W)
    (hbody : ∀ (l : Nat) (pre : List α) (x : α) (W : World), pre ++ [x] <+: L → w.heap.size ≤ W.heap.size → I pre W → body.wpIn (F.inRound l) (n - 1 - 1) P (ownPostG w.heap.size Kp I Ix (pre ++ [x]) W) (a₁ x) W)
    (hdone : ∀ (D : Nat) (W : World), w.heap.size ≤ D → I L W → W.heap[D]? = some (.deferred (some [])) → Q .normal { a with defers := { target := .collected D, args := #[] } :: a.defers } W)
    (hstop : ∀ (D : Nat) (c : Code) (pre : List α) (W : World), w.heap.size ≤ D → pre <+: L → pre ≠ [] → Ix c pre W → W.heap[D]? = some (.deferred (some [])) → c.wpIn F n P Q { a with defers := { target := .collected D, args := #[] } :: a.defers } W) :
    (Code.rangeFunc g ps assign body).wpIn F n P Q a w := by
  refine wpIn_rangeFunc fun fn hfn => ?_
  rw [hro]
  obtain ⟨rec, hrec⟩ : ∃ rec : LoopState → Option Code → Loop, rec = fun st pe => { state := st, pending := pe, fn, tmps := a.tmps, params := ps, assign, body, defers := w.heap.size } := ⟨_, rfl⟩
  obtain ⟨W1, hW1⟩ : ∃ W1, (w.alloc (.deferred (some []))).alloc (.loop (rec .ready none)) = W1 := ⟨_, rfl⟩
  have L0 : LaidAt rec w.heap.size .ready none W1 := by
    rw [← hW1]
    refine ⟨?_, (Below.heap_alloc _ _ _ (by simp)).trans (World.alloc_heap_new w _)⟩
    have := World.alloc_heap_new (w.alloc (.deferred (some []))) (.loop (rec .ready none))
    rwa [World.size_alloc] at this
  have hb1 : Below w.heap.size w W1 := hW1 ▸ ((Below.refl _ _).alloc (Nat.le_refl _) _).alloc (by simp) _
  have hz1 : W1.heap.size = w.heap.size + 2 := by rw [← hW1]; simp
  have I0 : I [] W1 := hI _ _ _ h0 hb1
  refine ⟨w.heap.size + 1, [{ target := .collected w.heap.size, args := #[] }], W1, { target := .fn (.func gf) lb, args := #[.func (.yield (w.heap.size + 1)) #[] #[]] }, W1, gf,
    #[.func (.yield (w.heap.size + 1)) #[] #[]] ++ lb, W1, ?_, ?_, ?_, ?_, fun _ => h1, ?_⟩
  · rw [← hW1, hrec]
    exact run_enterLoop_outer _ _ _ _ _
  · simp only [resolve, hg]
    simp [go_sem]
  · intro f' hf'
    simp [Target.leads] at hf'
    exact hf' ▸ hFg
  · simp [invoke, go_sem, eg]
  clear hW1
  refine (hseq (w.heap.size + 1) (fun pre W => I pre W ∧ LaidAt rec w.heap.size .ready none W) (fun pre W => ∃ c, Ix c pre W ∧ LaidAt rec w.heap.size .done (some c) W) W1
    (fun s X Y ⟨hi, hl⟩ hs => ⟨hI s X Y hi (hs.mono (by omega)), hl.below (by omega) hs⟩) ?_ ⟨I0, L0⟩ (hT0 _ hb1)).mono ?_
  · rintro pre x X hx ⟨hi, hl⟩
    have hy := run_yield (P := P) (args := encs x) hl.1 (by rw [hrec]; exact hps x)
    rw [hrec] at hy
    refine ⟨fn, _, assign, body, hy, roundIn_of_wpIn hfn (hassign _ x X _ ?_)⟩
    have hXD : w.heap.size + 1 < X.heap.size := (Array.getElem?_eq_some_iff.1 hl.1).1
    have hl0 := hl
    have hi0 := hi
    have hb := run_beginRound (P := P) hl0.1 (by rw [hrec])
    have hbusy : ({ rec .ready none with state := .busy } : Loop) = rec .busy none := by rw [hrec]
    rw [hbusy] at hb
    have hl2 : LaidAt rec w.heap.size .busy none (X.putObj (w.heap.size + 1) (.loop (rec .busy none))) := hl0.put
    have hi2 := hI _ _ _ hi0 (below_putObj (Nat.le_succ _) X (.loop (rec .busy none)))
    have kX2 := hKp X (w.heap.size + 1) _ (.loop (rec .busy none)) hl0.1 rfl
    refine ⟨_, hb, wpIn_mono (hbody _ pre x _ hx (by simp; omega) hi2) ?_⟩
    have fin : ∀ (j : Option Code) (Y : World), KeepsFrom w.heap.size (X.putObj (w.heap.size + 1) (.loop (rec .busy none))) Y →
        LaidAt rec w.heap.size .busy none Y ∧ (Instr.endRound (w.heap.size + 1) j).run P Y = .ok (.bool j.isNone) (Y.putObj (w.heap.size + 1) (.loop (rec (if j.isNone then .ready else .done) j))) := fun j Y hk => by
      have h2 := hl2.keep (Nat.le_refl _) hk
      refine ⟨h2, ?_⟩
      have := run_endRound (P := P) j h2.1
      rw [hrec] at this ⊢
      exact this
    have out : ∀ (c : Code) (Y : World), KeepsFrom w.heap.size (X.putObj (w.heap.size + 1) (.loop (rec .busy none))) Y → Ix c (pre ++ [x]) Y →
        ∃ v Y', (Instr.endRound (w.heap.size + 1) (some c)).run P Y = .ok v Y' ∧ ((Ending.returned v = .returned (.bool true) ∧ (I (pre ++ [x]) Y' ∧ LaidAt rec w.heap.size .ready none Y') ∧ Kp X Y') ∨ (Ending.returned v = .returned (.bool false) ∧ ∃ c, Ix c (pre ++ [x]) Y' ∧ LaidAt rec w.heap.size .done (some c) Y')) := fun c Y hk hx => by
      obtain ⟨h2, hr⟩ := fin (some c) Y hk
      exact ⟨_, _, hr, .inr ⟨rfl, c, hIx _ _ _ _ hx (below_putObj (Nat.le_succ _) _ _), h2.put⟩⟩
    intro e a3 Y hp
    cases e with
    | normal =>
      obtain ⟨hk, hkp, hi3⟩ := hp
      obtain ⟨h2, hr⟩ := fin none Y hk
      exact ⟨_, _, hr, .inl ⟨rfl, ⟨hI _ _ _ hi3 (below_putObj (Nat.le_succ _) _ _), h2.put⟩, hKt kX2 (hKt hkp (hKp _ _ _ _ h2.1 rfl))⟩⟩
    | ret => exact out _ Y hp.1 hp.2
    | exit id => exact out _ Y hp.1 hp.2
    | goto t => exact out _ Y hp.1 hp.2
    | panic ch => exact hp.elim
    | outgrown => exact hp.elim
  · rintro e Y ⟨⟨v, rfl⟩, ⟨hi, hl⟩ | ⟨pre, hpre, hne, c, hx, hl⟩⟩
    · have hr := run_endLoop (P := P) hl.1 (by rw [hrec]; simp)
      rw [hrec] at hr
      exact ⟨none, _, hr, hdone _ _ (Nat.le_refl _) (hI _ _ _ hi (below_putObj (Nat.le_succ _) _ _)) ((World.putObj_heap_other (by omega)).trans hl.2)⟩
    · have hr := run_endLoop (P := P) hl.1 (by rw [hrec]; simp)
      rw [hrec] at hr
      exact ⟨some c, _, hr, hstop _ c pre _ (Nat.le_refl _) hpre hne (hIx _ _ _ _ hx (below_putObj (Nat.le_succ _) _ _)) ((World.putObj_heap_other (by omega)).trans hl.2)⟩

end Go.Proofs.Ytmhbmeckdbdhpaa

namespace Go.Proofs.Ytmhbmeckdbdhpaa
open Go.RowKit Go.Shelf

/-- What turns nodes: its row of kinds, how much further. -/
abbrev turnV (bk bf : Nat) : Value := .func (.func 82) #[] #[.pointer (some ⟨bk, 0, none⟩), .pointer (some ⟨bf, 0, none⟩)]
theorem turner_any (ks : Array Value) (d : Int) (w : World) (hk : ∃ a b c e f g, ks = #[a, b, c, e, f, g]) :
    Calls Try.prog 75 #[.agg ks, .int .i64 d] w fun e w' => e = .returned (turnV w.heap.size (w.heap.size + 1)) ∧ w' = (w.alloc (.cells ks 139)).alloc (.cells #[.int .i64 d] 3) := by
  obtain ⟨a, b, c, e, f, g, rfl⟩ := hk
  have hmf : ∀ (fn : Fn) (first cap : Array Value) (w : World), (Instr.makeFunc fn first cap).run Try.prog w = .ok (.func fn first cap) w := fun _ _ _ _ => rfl
  go_enter Try.func75, Try.ntmps75
  go_wp2
  go_ret
  exact ⟨by simp [turnV], rfl⟩

/-- What stands as a node is turned: the node in its box, the answer's box, the row of its edges. -/
structure TN (w : World) (x : Nd) (K : Int) (u : Value) (es : List Ed) (W : World) : Prop where
  gr : w.grownBy W none
  b0 : Blk W w.heap.size 70 (ndCells ⟨K, x.prio, x.chan, x.pay, es⟩ u)
  b1 : Blk W (w.heap.size + 1) 70 (ndCells ⟨0, 0, false, (0, 0), []⟩ (.slice none 0 0))
  row : EOwn (w.heap.size + 2) W u es
section
variable {w W W' : World} {x : Nd} {K : Int} {u : Value} {es : List Ed}
theorem TN.size (h : TN w x K u es W) : w.heap.size + 2 ≤ W.heap.size := h.b1.lt
theorem TN.kept (h : TN w x K u es W) (hg : W.grownBy W' none) : TN w x K u es W' := ⟨only_trans h.gr hg, h.b0.kept hg, h.b1.kept hg, h.row.kept0 hg⟩
theorem TN.box (h : TN w x K u es W) (hg : W.grownBy W' u.ownBlock) : Blk W' w.heap.size 70 (ndCells ⟨K, x.prio, x.chan, x.pay, es⟩ u) := h.b0.grown hg fun e => by have := (World.ownsRow.lt h.row _ e.symm).1; omega
theorem TN.put {u' : Value} {es' : List Ed} (h : TN w x K u es W) (hg : W.grownBy W' u.ownBlock) (ho : EOwn (w.heap.size + 2) W' u' es') : TN w x K u' es' (W'.setCell ⟨w.heap.size, 5, none⟩ u') := by
  have hne : ∀ k, k < w.heap.size + 2 → ¬ some k = u.ownBlock := fun k hk e => by have := (World.ownsRow.lt h.row k e.symm).1; omega
  have g1 : w.grownBy W' none := grown_own h.gr (fun g e => by have := (World.ownsRow.lt h.row g e).1; omega) hg
  refine ⟨only_setNew g1 (Nat.le_refl _) _, (h.b0.grown hg (hne _ (by omega))).set_ 5 _, (h.b1.grown hg (hne _ (by omega))).far (p := ⟨w.heap.size, 5, none⟩) (by show w.heap.size + 1 ≠ w.heap.size; omega) _, ho.kept (row := some w.heap.size) (only_setCell (only_refl _ _) rfl _) (fun g e e' => ?_)⟩
  have := (World.ownsRow.lt ho g e).1
  injection e' with e'
  omega
end

theorem turn_results {tmps : Array Value} {W : World} {g : Nat} {x : Nd} {v : Value} (hp : tmps.getD 6 undef = .pointer (some ⟨g, 0, none⟩)) (hb : Blk W g 70 (ndCells x v)) :
    (results Try.f82 tmps).run Try.prog W = .ok (ndV x v) W := by
  obtain ⟨c0, c1, c2, c3, c4, c5⟩ := nd_cells hb
  have hp' : tmps[6]?.getD undef = .pointer (some ⟨g, 0, none⟩) := by simpa using hp
  simp [results, Try.results82, hp', go_sem, c0, c1, c2, c3, c4, c5]

set_option maxRecDepth 100000 in
set_option maxHeartbeats 2000000 in
/-- A node, turned: its kind by the row, its edges, those that are handed over, so much further. -/
theorem turn_any (x : Nd) (vn v : Value) (es : List Ed) (k N bk bf : Nat) (K : Int) (w : World) (hk : x.kind = (k : Int)) (h6 : k < 6) (hK : w.cell? ⟨bk, k, none⟩ = some (.int .i64 K)) (hN : w.cell? ⟨bf, 0, none⟩ = some (.int .i64 (N : Int))) (hN0 : N ≤ 1000)
    (hE : Edges w v es) (hlen : es.length ≤ 8) (hes : ∀ e ∈ es, 0 ≤ e.1 ∧ e.1 ≤ 1000) :
    Calls Try.prog 82 #[ndV x vn, v, .pointer (some ⟨bk, 0, none⟩), .pointer (some ⟨bf, 0, none⟩)] w fun e w' => ∃ u, e = .returned (ndV ⟨K, x.prio, x.chan, x.pay, es.map (upE N)⟩ u) ∧ EOwn w.heap.size w' u (es.map (upE N)) ∧ w.grownBy w' none := by
  have HE := Lib.hid hE
  have HES := Lib.hid hes
  obtain ⟨A, cap, rfl, hl, hc⟩ := hE
  obtain ⟨kind, prio, chan, ⟨ea, es0⟩, next⟩ := x
  dsimp only at *
  subst hk
  have hbk : bk < w.heap.size := cell_lt hK
  have hbf : bf < w.heap.size := cell_lt hN
  have hk0 : (0 : Int) ≤ (k : Int) := by omega
  have hk1 : (k : Int) < 6 := by omega
  have hl8 : (es.length : Int) ≤ 8 := by omega
  clear hc hes
  go_enter Try.func82, Try.ntmps82
  go_wp2_with fail
  go_loopw [17] (fun i W => ∃ (q : Nat) (u : Value), q ≤ es.length ∧ i = .int .i64 (q : Int) ∧ TN w ⟨(k : Int), prio, chan, (ea, es0), next⟩ K u ((es.take q).map (upE N)) W) (fun i _ => 16 - (intOf i).toNat)
  case atStart => exact ⟨0, _, Nat.zero_le _, rfl, only_alloc (only_alloc (only_refl _ _) _) _, (Blk.new w _ _).alloc _, blk_at (by simp) _ _, EOwn.nil_ _ _⟩
  case round =>
    obtain ⟨q, u, hq, rfl, h⟩ := hrel
    have HT := Lib.hid h
    by_cases hlt : q < es.length
    · have hqI : (q : Int) < (es.length : Int) := by omega
      have hq0 : (0 : Int) ≤ (q : Int) := by omega
      obtain ⟨⟨e1, e2⟩, he⟩ : ∃ e, es[q]? = some e := ⟨_, List.getElem?_eq_getElem hlt⟩
      obtain ⟨A', c', hA, _, hcl⟩ := HE.out
      obtain ⟨b5, o5, hb5, hce⟩ := hcl (by intro e0; rw [e0] at hlt; simp at hlt)
      obtain ⟨rfl, rfl⟩ : A = A' ∧ cap = c' := by simpa using hA
      subst hb5
      obtain ⟨d0', d1'⟩ := hce q _ he
      have d0 := Keeps.grown h.gr _ _ d0'
      have d1 := Keeps.grown h.gr _ _ d1'
      have hN1 := Keeps.grown h.gr _ _ hN
      have n5 : wr.cell? ⟨w.heap.size, 5, none⟩ = some u := h.b0.cell 5
      have f5 := h.b0.frozen 5
      obtain ⟨hx0, hx1⟩ := HES.out _ (List.mem_of_getElem? he)
      dsimp only at hx0 hx1 d0 d1
      have HQ := Lib.hid he
      have hbs := h.size
      have hb9 : w.heap.size < wr.heap.size := by omega
      have hbf9 : bf < wr.heap.size := by omega
      have hb59 : b5 < wr.heap.size := cell_lt d0
      have HLQ : Hid ((es.take q).length = q) := Lib.hid (by rw [List.length_take]; omega)
      clear h hcl hce hA he d0' d1' hN
      have HT2 := Lib.hid (HT.out.kept (only_alloc (only_alloc (only_refl _ _) (.cells #[.int .i64 e1, .int .i64 e2] 67)) (.cells #[.int .i64 (e1 + (N : Int)), .int .i64 e2] 67)))
      go_wp2_with (at_builtin; refine wpList_append_edgeB (e := (e1 + (N : Int), e2)) rfl (.tmp 22) (.tmp 30) rfl rfl rfl HT2.out.row (blk_at (by simp) _ _) (by have := HLQ.out; rw [List.length_map]; omega) (by simp; omega) ?_; (intro v1 W3 ho1 hg1 hb1; obtain ⟨A3, c3, rfl⟩ := ho1.len; have hp := HT2.out.put hg1 ho1; have HP := Lib.hid hp; have hbx := HT2.out.box hg1; have n9 : W3.cell? ⟨w.heap.size, 5, none⟩ = some u := hbx.cell 5; have f9 := hbx.frozen 5; have hl9 := hbx.lt; clear ho1 hg1 hb1 hp hbx))
      go_roundw
      case rel =>
        refine ⟨q + 1, .slice A3 (q + 1) c3, by omega, by go_num, ?_⟩
        have hp := HP.out
        rw [List.length_append, List.length_map, HLQ.out] at hp
        rw [take_len HQ.out, List.map_append]
        exact hp
      case measure => simp [intOf]; omega
      skip
    · have hqe : q = es.length := by omega
      have hqI : (es.length : Int) ≤ (q : Int) := by omega
      have hfin := HT.out
      rw [hqe, List.take_length] at hfin
      have HF := Lib.hid hfin
      clear HF
      obtain ⟨A3, c3, rfl⟩ := hfin.row.len
      rw [List.length_map] at hfin
      have HF := Lib.hid hfin
      obtain ⟨m0, m1, m2, m3, m4, m5⟩ := nd_cells hfin.b0
      have f0 := hfin.b1.frozen 0
      have f1 := hfin.b1.frozen 1
      have f2 := hfin.b1.frozen 2
      have f3 := hfin.b1.frozen 3
      have f4 := hfin.b1.frozen 4
      have f5 := hfin.b1.frozen 5
      obtain ⟨c0, c1, c2, c3', c4, c5⟩ := nd_cells hfin.b1
      dsimp only at m0 m1 m2 m3 m4 m5
      have hl0 := hfin.b0.lt
      have hl1 := hfin.b1.lt
      clear hlt hq hfin HT
      go_wp2_with fail
      have hf := HF.out
      have g6 := only_setNew (only_setNew (only_setNew (only_setNew (only_setNew (only_setNew hf.gr (p := ⟨w.heap.size + 1, 0, none⟩) (by show w.heap.size ≤ w.heap.size + 1; omega) (.int .i64 K)) (p := ⟨w.heap.size + 1, 1, none⟩) (by show w.heap.size ≤ w.heap.size + 1; omega) (.int .i64 prio)) (p := ⟨w.heap.size + 1, 2, none⟩) (by show w.heap.size ≤ w.heap.size + 1; omega) (.bool chan)) (p := ⟨w.heap.size + 1, 3, none⟩) (by show w.heap.size ≤ w.heap.size + 1; omega) (.int .i64 ea)) (p := ⟨w.heap.size + 1, 4, none⟩) (by show w.heap.size ≤ w.heap.size + 1; omega) (.int .i64 es0)) (p := ⟨w.heap.size + 1, 5, none⟩) (by show w.heap.size ≤ w.heap.size + 1; omega) (.slice A3 es.length c3)
      have b6 := (((((hf.b1.set_ 0 (.int .i64 K)).set_ 1 (.int .i64 prio)).set_ 2 (.bool chan)).set_ 3 (.int .i64 ea)).set_ 4 (.int .i64 es0)).set_ 5 (.slice A3 es.length c3)
      have g7 := only_setCell (only_setCell (only_setCell (only_setCell (only_setCell (only_setCell (only_refl wr (some (w.heap.size + 1))) (p := ⟨w.heap.size + 1, 0, none⟩) rfl (.int .i64 K)) (p := ⟨w.heap.size + 1, 1, none⟩) rfl (.int .i64 prio)) (p := ⟨w.heap.size + 1, 2, none⟩) rfl (.bool chan)) (p := ⟨w.heap.size + 1, 3, none⟩) rfl (.int .i64 ea)) (p := ⟨w.heap.size + 1, 4, none⟩) rfl (.int .i64 es0)) (p := ⟨w.heap.size + 1, 5, none⟩) rfl (.slice A3 es.length c3)
      refine bodyPost_ret (turn_results (x := ⟨K, prio, chan, (ea, es0), es.map (upE N)⟩) (v := .slice A3 es.length c3) rfl b6) rfl ?_
      exact ⟨_, rfl, (hf.row.kept g7 (fun g e e' => by have := (World.ownsRow.lt hf.row g e).1; injection e' with e'; omega)).base_ (by omega), g6⟩
end Go.Proofs.Ytmhbmeckdbdhpaa

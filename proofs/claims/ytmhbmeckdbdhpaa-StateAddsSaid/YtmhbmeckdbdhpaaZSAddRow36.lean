/- Texts joined for the claim's sake: DTurn, CRnk. -/
import Derived.Test.YtmhbmeckdbdhpaaZSAddRow8
import Derived.Test.YtmhbmeckdbdhpaaZSAddRow10
import Derived.Deep.CutBlock
import Derived.Deep.CutRange
import Derived.Deep.QuietTactic
import Derived.BigQuiet
import Derived.Test.YtmhbmeckdbdhpaaZSAddRow24
import Derived.Test.YtmhbmeckdbdhpaaZSAddRow11
namespace Go.Proofs.Ytmhbmeckdbdhpaa
open Go.RowKit Go.Shelf

/-- What turns nodes: its row of kinds, how much further. -/
abbrev turnV (bk bf : Nat) : Value := .func (.func 82) #[] #[.pointer (some ⟨bk, 0, none⟩), .pointer (some ⟨bf, 0, none⟩)]
theorem turner_any (ks : Array Value) (d : Int) (w : World) (hk : ∃ a b c e f g, ks = #[a, b, c, e, f, g]) :
    Calls Try.prog 75 #[.agg ks, .int .i64 d] w fun e w' => e = .returned (turnV w.heap.size (w.heap.size + 1)) ∧ w' = (w.alloc (.cells ks 139)).alloc (.cells #[.int .i64 d] 3) := by
  obtain ⟨a, b, c, e, f, g, rfl⟩ := hk
  have hmf : ∀ (fn : Fn) (first cap : Array Value) (w : World), (Instr.makeFunc fn first cap).run Try.prog w = .ok (.func fn first cap) w := fun _ _ _ _ => rfl
  go_enter Try.func75, Try.ntmps75
  go_wp2
  go_ret
  exact ⟨by simp [turnV], rfl⟩

/-- What stands as a node is turned: the node in its box, the answer's box, the row of its edges. -/
structure TN (w : World) (x : Nd) (K : Int) (u : Value) (es : List Ed) (W : World) : Prop where
  gr : w.grownBy W none
  b0 : Blk W w.heap.size 70 (ndCells ⟨K, x.prio, x.chan, x.pay, es⟩ u)
  b1 : Blk W (w.heap.size + 1) 70 (ndCells ⟨0, 0, false, (0, 0), []⟩ (.slice none 0 0))
  row : EOwn (w.heap.size + 2) W u es
section
variable {w W W' : World} {x : Nd} {K : Int} {u : Value} {es : List Ed}
theorem TN.size (h : TN w x K u es W) : w.heap.size + 2 ≤ W.heap.size := h.b1.lt
theorem TN.kept (h : TN w x K u es W) (hg : W.grownBy W' none) : TN w x K u es W' := ⟨only_trans h.gr hg, h.b0.kept hg, h.b1.kept hg, h.row.kept0 hg⟩
theorem TN.box (h : TN w x K u es W) (hg : W.grownBy W' u.ownBlock) : Blk W' w.heap.size 70 (ndCells ⟨K, x.prio, x.chan, x.pay, es⟩ u) := h.b0.grown hg fun e => by have := (World.ownsRow.lt h.row _ e.symm).1; omega
theorem TN.put {u' : Value} {es' : List Ed} (h : TN w x K u es W) (hg : W.grownBy W' u.ownBlock) (ho : EOwn (w.heap.size + 2) W' u' es') : TN w x K u' es' (W'.setCell ⟨w.heap.size, 5, none⟩ u') := by
  have hne : ∀ k, k < w.heap.size + 2 → ¬ some k = u.ownBlock := fun k hk e => by have := (World.ownsRow.lt h.row k e.symm).1; omega
  have g1 : w.grownBy W' none := grown_own h.gr (fun g e => by have := (World.ownsRow.lt h.row g e).1; omega) hg
  refine ⟨only_setNew g1 (Nat.le_refl _) _, (h.b0.grown hg (hne _ (by omega))).set_ 5 _, (h.b1.grown hg (hne _ (by omega))).far (p := ⟨w.heap.size, 5, none⟩) (by show w.heap.size + 1 ≠ w.heap.size; omega) _, ho.kept (row := some w.heap.size) (only_setCell (only_refl _ _) rfl _) (fun g e e' => ?_)⟩
  have := (World.ownsRow.lt ho g e).1
  injection e' with e'
  omega
end

theorem turn_results {tmps : Array Value} {W : World} {g : Nat} {x : Nd} {v : Value} (hp : tmps.getD 6 undef = .pointer (some ⟨g, 0, none⟩)) (hb : Blk W g 70 (ndCells x v)) :
    (results Try.f82 tmps).run Try.prog W = .ok (ndV x v) W := by
  obtain ⟨c0, c1, c2, c3, c4, c5⟩ := nd_cells hb
  have hp' : tmps[6]?.getD undef = .pointer (some ⟨g, 0, none⟩) := by simpa using hp
  simp [results, Try.results82, hp', go_sem, c0, c1, c2, c3, c4, c5]

set_option maxRecDepth 100000 in
set_option maxHeartbeats 2000000 in
/-- A node, turned: its kind by the row, its edges, those that are handed over, so much further. -/
theorem turn_any (x : Nd) (vn v : Value) (es : List Ed) (k N bk bf : Nat) (K : Int) (w : World) (hk : x.kind = (k : Int)) (h6 : k < 6) (hK : w.cell? ⟨bk, k, none⟩ = some (.int .i64 K)) (hN : w.cell? ⟨bf, 0, none⟩ = some (.int .i64 (N : Int))) (hN0 : N ≤ 1000)
    (hE : Edges w v es) (hlen : es.length ≤ 8) (hes : ∀ e ∈ es, 0 ≤ e.1 ∧ e.1 ≤ 1000) :
    Calls Try.prog 82 #[ndV x vn, v, .pointer (some ⟨bk, 0, none⟩), .pointer (some ⟨bf, 0, none⟩)] w fun e w' => ∃ u, e = .returned (ndV ⟨K, x.prio, x.chan, x.pay, es.map (upE N)⟩ u) ∧ EOwn w.heap.size w' u (es.map (upE N)) ∧ w.grownBy w' none := by
  have HE := Lib.hid hE
  have HES := Lib.hid hes
  obtain ⟨A, cap, rfl, hl, hc⟩ := hE
  obtain ⟨kind, prio, chan, ⟨ea, es0⟩, next⟩ := x
  dsimp only at *
  subst hk
  have hbk : bk < w.heap.size := cell_lt hK
  have hbf : bf < w.heap.size := cell_lt hN
  have hk0 : (0 : Int) ≤ (k : Int) := by omega
  have hk1 : (k : Int) < 6 := by omega
  have hl8 : (es.length : Int) ≤ 8 := by omega
  clear hc hes
  go_enter Try.func82, Try.ntmps82
  go_wp2_with fail
  go_loopw [17] (fun i W => ∃ (q : Nat) (u : Value), q ≤ es.length ∧ i = .int .i64 (q : Int) ∧ TN w ⟨(k : Int), prio, chan, (ea, es0), next⟩ K u ((es.take q).map (upE N)) W) (fun i _ => 16 - (intOf i).toNat)
  case atStart => exact ⟨0, _, Nat.zero_le _, rfl, only_alloc (only_alloc (only_refl _ _) _) _, (Blk.new w _ _).alloc _, blk_at (by simp) _ _, EOwn.nil_ _ _⟩
  case round =>
    obtain ⟨q, u, hq, rfl, h⟩ := hrel
    have HT := Lib.hid h
    by_cases hlt : q < es.length
    · have hqI : (q : Int) < (es.length : Int) := by omega
      have hq0 : (0 : Int) ≤ (q : Int) := by omega
      obtain ⟨⟨e1, e2⟩, he⟩ : ∃ e, es[q]? = some e := ⟨_, List.getElem?_eq_getElem hlt⟩
      obtain ⟨A', c', hA, _, hcl⟩ := HE.out
      obtain ⟨b5, o5, hb5, hce⟩ := hcl (by intro e0; rw [e0] at hlt; simp at hlt)
      obtain ⟨rfl, rfl⟩ : A = A' ∧ cap = c' := by simpa using hA
      subst hb5
      obtain ⟨d0', d1'⟩ := hce q _ he
      have d0 := Keeps.grown h.gr _ _ d0'
      have d1 := Keeps.grown h.gr _ _ d1'
      have hN1 := Keeps.grown h.gr _ _ hN
      have n5 : wr.cell? ⟨w.heap.size, 5, none⟩ = some u := h.b0.cell 5
      have f5 := h.b0.frozen 5
      obtain ⟨hx0, hx1⟩ := HES.out _ (List.mem_of_getElem? he)
      dsimp only at hx0 hx1 d0 d1
      have HQ := Lib.hid he
      have hbs := h.size
      have hb9 : w.heap.size < wr.heap.size := by omega
      have hbf9 : bf < wr.heap.size := by omega
      have hb59 : b5 < wr.heap.size := cell_lt d0
      have HLQ : Hid ((es.take q).length = q) := Lib.hid (by rw [List.length_take]; omega)
      clear h hcl hce hA he d0' d1' hN
      have HT2 := Lib.hid (HT.out.kept (only_alloc (only_alloc (only_refl _ _) (.cells #[.int .i64 e1, .int .i64 e2] 67)) (.cells #[.int .i64 (e1 + (N : Int)), .int .i64 e2] 67)))
      go_wp2_with (at_builtin; refine wpList_append_edgeB (e := (e1 + (N : Int), e2)) rfl (.tmp 22) (.tmp 30) rfl rfl rfl HT2.out.row (blk_at (by simp) _ _) (by have := HLQ.out; rw [List.length_map]; omega) (by simp; omega) ?_; (intro v1 W3 ho1 hg1 hb1; obtain ⟨A3, c3, rfl⟩ := ho1.len; have hp := HT2.out.put hg1 ho1; have HP := Lib.hid hp; have hbx := HT2.out.box hg1; have n9 : W3.cell? ⟨w.heap.size, 5, none⟩ = some u := hbx.cell 5; have f9 := hbx.frozen 5; have hl9 := hbx.lt; clear ho1 hg1 hb1 hp hbx))
      go_roundw
      case rel =>
        refine ⟨q + 1, .slice A3 (q + 1) c3, by omega, by go_num, ?_⟩
        have hp := HP.out
        rw [List.length_append, List.length_map, HLQ.out] at hp
        rw [take_len HQ.out, List.map_append]
        exact hp
      case measure => simp [intOf]; omega
      skip
    · have hqe : q = es.length := by omega
      have hqI : (es.length : Int) ≤ (q : Int) := by omega
      have hfin := HT.out
      rw [hqe, List.take_length] at hfin
      have HF := Lib.hid hfin
      clear HF
      obtain ⟨A3, c3, rfl⟩ := hfin.row.len
      rw [List.length_map] at hfin
      have HF := Lib.hid hfin
      obtain ⟨m0, m1, m2, m3, m4, m5⟩ := nd_cells hfin.b0
      have f0 := hfin.b1.frozen 0
      have f1 := hfin.b1.frozen 1
      have f2 := hfin.b1.frozen 2
      have f3 := hfin.b1.frozen 3
      have f4 := hfin.b1.frozen 4
      have f5 := hfin.b1.frozen 5
      obtain ⟨c0, c1, c2, c3', c4, c5⟩ := nd_cells hfin.b1
      dsimp only at m0 m1 m2 m3 m4 m5
      have hl0 := hfin.b0.lt
      have hl1 := hfin.b1.lt
      clear hlt hq hfin HT
      go_wp2_with fail
      have hf := HF.out
      have g6 := only_setNew (only_setNew (only_setNew (only_setNew (only_setNew (only_setNew hf.gr (p := ⟨w.heap.size + 1, 0, none⟩) (by show w.heap.size ≤ w.heap.size + 1; omega) (.int .i64 K)) (p := ⟨w.heap.size + 1, 1, none⟩) (by show w.heap.size ≤ w.heap.size + 1; omega) (.int .i64 prio)) (p := ⟨w.heap.size + 1, 2, none⟩) (by show w.heap.size ≤ w.heap.size + 1; omega) (.bool chan)) (p := ⟨w.heap.size + 1, 3, none⟩) (by show w.heap.size ≤ w.heap.size + 1; omega) (.int .i64 ea)) (p := ⟨w.heap.size + 1, 4, none⟩) (by show w.heap.size ≤ w.heap.size + 1; omega) (.int .i64 es0)) (p := ⟨w.heap.size + 1, 5, none⟩) (by show w.heap.size ≤ w.heap.size + 1; omega) (.slice A3 es.length c3)
      have b6 := (((((hf.b1.set_ 0 (.int .i64 K)).set_ 1 (.int .i64 prio)).set_ 2 (.bool chan)).set_ 3 (.int .i64 ea)).set_ 4 (.int .i64 es0)).set_ 5 (.slice A3 es.length c3)
      have g7 := only_setCell (only_setCell (only_setCell (only_setCell (only_setCell (only_setCell (only_refl wr (some (w.heap.size + 1))) (p := ⟨w.heap.size + 1, 0, none⟩) rfl (.int .i64 K)) (p := ⟨w.heap.size + 1, 1, none⟩) rfl (.int .i64 prio)) (p := ⟨w.heap.size + 1, 2, none⟩) rfl (.bool chan)) (p := ⟨w.heap.size + 1, 3, none⟩) rfl (.int .i64 ea)) (p := ⟨w.heap.size + 1, 4, none⟩) rfl (.int .i64 es0)) (p := ⟨w.heap.size + 1, 5, none⟩) rfl (.slice A3 es.length c3)
      refine bodyPost_ret (turn_results (x := ⟨K, prio, chan, (ea, es0), es.map (upE N)⟩) (v := .slice A3 es.length c3) rfl b6) rfl ?_
      exact ⟨_, rfl, (hf.row.kept g7 (fun g e e' => by have := (World.ownsRow.lt hf.row g e).1; injection e' with e'; omega)).base_ (by omega), g6⟩
end Go.Proofs.Ytmhbmeckdbdhpaa

namespace Go.Proofs.Ytmhbmeckdbdhpaa
open Go.RowKit

section
variable {L : List Nd}
theorem ofK_back (hL : TW L) {k K : Nat} (h : k < K) (he : ofK L K = ofK L k) : ofK L (k + 1) = ofK L k := by
  have h1 : ∀ a b, liveB L a = true → liveB L b = true → apK L (k + 1) a b = apK L k a b := fun a b ha hb => by
    have e1 := ofK_like hL (k := k) ha hb
    have e2 := ofK_like hL (k := K) ha hb
    rw [he] at e2
    have e3 := e1.symm.trans e2
    cases e : apK L k a b with
    | true => exact aptK_le (Nat.le_succ k) e
    | false =>
      have e4 := e3.1 e
      cases e5 : apK L (k + 1) a b with
      | false => rfl
      | true =>
        have : apK L K a b = true := aptK_le h e5
        rw [e4] at this; cases this
  unfold ofK
  rw [(clsL_congr (D := fun a => liveB L a = true) h1 _ _ rfl (roots_live hL)).1]
theorem mapN_inj {l m : List Nat} (h : l.map Int.ofNat = m.map Int.ofNat) : l = m := (List.map_inj_right (f := Int.ofNat) (fun _ _ e => Int.ofNat.inj e)).1 h
/-- The last round below M that has these numbers. -/
def rankL (L : List Nd) (zs : List Int) : Nat → Nat
  | 0 => 0
  | K + 1 => if (ofK L K).map Int.ofNat = zs then K else rankL L zs K
theorem rank_at (hL : TW L) {k : Nat} (h : ofK L (k + 1) ≠ ofK L k) : ∀ M, k < M → rankL L ((ofK L k).map Int.ofNat) M = k
  | 0, hk => by omega
  | K + 1, hk => by
    unfold rankL
    by_cases e : (ofK L K).map Int.ofNat = (ofK L k).map Int.ofNat
    · rw [if_pos e]
      rcases Nat.lt_or_ge k K with h1 | h1
      · exact absurd (ofK_back hL h1 (mapN_inj e)) h
      · omega
    · rw [if_neg e]
      have : K ≠ k := fun e' => e (by rw [e'])
      exact rank_at hL h K (by omega)
theorem rank_ge {k : Nat} : ∀ M, k < M → k ≤ rankL L ((ofK L k).map Int.ofNat) M
  | 0, hk => by omega
  | K + 1, hk => by
    unfold rankL
    by_cases e : (ofK L K).map Int.ofNat = (ofK L k).map Int.ofNat
    · rw [if_pos e]; omega
    · rw [if_neg e]
      have : K ≠ k := fun e' => e (by rw [e'])
      exact rank_ge K (by omega)
end
/-- The ints that a slice holds. -/
def decI (W : World) (v : Value) : List Int := match v with
  | .slice (some a) n _ => (List.range n).map fun i => (match W.cell? ⟨a.block, a.off + i, none⟩ with | some (.int _ z) => z | _ => 0)
  | _ => []
theorem dec_ints {W : World} {v : Value} {zs : List Int} (h : Ints W v zs) : decI W v = zs := by
  obtain ⟨A, c, rfl, _, h2⟩ := h
  by_cases hn : zs = []
  · subst hn
    unfold decI
    cases A <;> rfl
  · obtain ⟨b, off, rfl, h3⟩ := h2 hn
    unfold decI
    dsimp only
    refine List.ext_getElem (by simp) fun i h4 h5 => ?_
    rw [List.getElem_map, List.getElem_range, h3 i zs[i] (List.getElem?_eq_getElem h5)]
/-! ### A round, node by node -/
def ptL (L : List Nd) (k q : Nat) : List Nat × List Nat := clsL (apK L (k + 1)) ((rootsL L).take q)
def ptK (L : List Nd) (k q : Nat) : List Nd := (ptL L k q).1.map (knN L (ofK L k))
section
variable {L : List Nd}
theorem pt_live (hL : TW L) (k q : Nat) : ∀ y ∈ (ptL L k q).1, liveB L y = true :=
  (clsL_congr (D := fun a => liveB L a = true) (A := apK L (k + 1)) (B := apK L (k + 1)) (fun _ _ _ _ => rfl) _ _ rfl (fun x hx => roots_live hL x (List.mem_of_mem_take hx))).2
theorem pt_cls (hL : TW L) (k q : Nat) : Cls (fun a b => apK L (k + 1) a b = false) ((rootsL L).take q) (ptL L k q).1 (ptL L k q).2 :=
  cls_of (D := fun a => liveB L a = true) (apK_alike (k + 1) _) _ _ rfl (fun x hx => roots_live hL x (List.mem_of_mem_take hx))
theorem pt_len (hL : TW L) {k q : Nat} (hq : q ≤ L.length) : (ptL L k q).2.length = q := by
  rw [(pt_cls hL k q).len, List.length_take, roots_len]; omega
theorem pt_succ {k q : Nat} (hq : q < L.length) : ptL L k (q + 1) = clsStep (apK L (k + 1)) (ptL L k q) (rootL L q) := by
  unfold ptL
  rw [List.take_add_one, root_get L hq]
  exact clsL_snoc _ _ _
theorem pt_new (hL : TW L) {k q : Nat} (hq : q < L.length) (h : knN L (ofK L k) (rootL L q) ∉ ptK L k q) : ptL L k (q + 1) = ((ptL L k q).1 ++ [rootL L q], (ptL L k q).2 ++ [(ptL L k q).1.length]) := by
  rw [pt_succ hq]
  refine step_new (fs := (ptL L k q).1) (os := (ptL L k q).2) fun c y hy => ?_
  have hm := List.mem_of_getElem? hy
  have hr : liveB L (rootL L q) = true := roots_live hL _ (List.mem_of_getElem? (root_get L hq))
  cases e : apK L (k + 1) y (rootL L q) with
  | true => rfl
  | false =>
    have := (kn_iff hL (pt_live hL k q y hm) hr).2 e
    exact absurd (List.mem_map.2 ⟨y, hm, this⟩) h
theorem pt_old (hL : TW L) {k q c : Nat} (hq : q < L.length) (h : (ptK L k q)[c]? = some (knN L (ofK L k) (rootL L q))) : ptL L k (q + 1) = ((ptL L k q).1, (ptL L k q).2 ++ [c]) := by
  rw [pt_succ hq]
  have hr : liveB L (rootL L q) = true := roots_live hL _ (List.mem_of_getElem? (root_get L hq))
  unfold ptK at h
  rw [List.getElem?_map] at h
  obtain ⟨y, hy, he⟩ := Option.map_eq_some_iff.1 h
  have hyl := pt_live hL k q y (List.mem_of_getElem? hy)
  have h1 := (kn_iff hL hyl hr).1 he
  refine step_old (fs := (ptL L k q).1) (os := (ptL L k q).2) hy h1 fun d z hz hA => ?_
  exact (pt_cls hL k q).apart d c z y hz hy (likeK_trans (hd_len L) hA (likeK_symm h1))
theorem pt_all (L : List Nd) (k : Nat) : ptL L k L.length = (fsK L (k + 1), ofK L (k + 1)) := by
  unfold ptL fsK ofK
  rw [List.take_of_length_le (by rw [roots_len]; exact Nat.le_refl _)]
theorem pt_few (L : List Nd) (k q : Nat) : (ptK L k q).length ≤ q := by
  unfold ptK ptL
  rw [List.length_map]
  have h := cls_le (apK L (k + 1)) ((rootsL L).take q) ([], [])
  rw [List.length_nil, Nat.zero_add, List.length_take] at h
  exact Nat.le_trans h (Nat.min_le_left _ _)
theorem ofK_lt (hL : TW L) (k m : Nat) : (ofK L k).getD m 0 ≤ L.length := by
  rw [List.getD_eq_getElem?_getD]
  cases e : (ofK L k)[m]? with
  | none => exact Nat.zero_le _
  | some c =>
    have h := (clsK hL k).lt e
    have h2 := cls_le (apK L k) (rootsL L) ([], [])
    rw [List.length_nil, Nat.zero_add, roots_len] at h2
    have h3 : (fsK L k).length ≤ L.length := h2
    show c ≤ _
    omega
end
end Go.Proofs.Ytmhbmeckdbdhpaa

/- Texts joined for the claim's sake: GEds, GWay. -/
import Derived.Test.YtmhbmeckdbdhpaaZSKnwRow3
import Derived.Laws.Rows
import Derived.Sort.CutIn
import Derived.Deep.DeepMust
namespace Go.Proofs.Ytmhbmeckdbdhpaa
open Go.RowKit Go.Shelf
attribute [local go_sem] Oper.semAt_some

set_option maxRecDepth 100000 in
set_option maxHeartbeats 1000000 in
theorem hasPay_any (x : Nd) (v : Value) (a b : Int) (p : Bool) (c : Int) (w : World) :
    Calls Try.prog 80 #[ndV x v, shV a b p c] w fun e w' => e = .returned (.bool (payB x p)) ∧ w.grownBy w' none := by
  obtain ⟨kind, prio, chan, ⟨ea, es⟩, next⟩ := x
  have hg : ∀ A B, w.grownBy ((w.alloc A).alloc B) none := fun A B => only_alloc (only_alloc (only_refl _ _) _) _
  have HG := Lib.hid hg
  clear hg
  cases chan
  · go_enter Try.func80, Try.ntmps80
    go_wp2
    all_goals (go_ret; refine ⟨?_, HG.out _ _⟩; simp [payB, *])
  · go_enter Try.func80, Try.ntmps80
    go_wp2
    go_ret
    exact ⟨rfl, HG.out _ _⟩

theorem edges_any (x : Nd) (v : Value) (w : World) :
    Calls Try.prog 72 #[ndV x v] w fun e w' => e = .returned (.func (.func 81) #[] #[.pointer (some ⟨w.heap.size, 0, none⟩)]) ∧ w' = w.alloc (.cells (ndCells x v) 70) := by
  have hmf : ∀ (fn : Fn) (first cap : Array Value) (w : World), (Instr.makeFunc fn first cap).run Try.prog w = .ok (.func fn first cap) w := fun _ _ _ _ => rfl
  go_enter Try.func72, Try.ntmps72
  go_wp2
  go_ret
  exact ⟨rfl, rfl⟩

theorem edges_eq_chan {x : Nd} (h : x.chan = true) : edgesL x = [x.pay] ++ x.next := by simp [edgesL, h]
theorem edges_eq_word {x : Nd} (h : x.chan = false) : edgesL x = [] ++ x.next := by simp [edgesL, h]
theorem pre_take {α : Type} (p l : List α) (k : Nat) : p ++ l.take k <+: p ++ l := (List.prefix_append_right_inj p).2 (List.take_prefix _ _)
/-- What stands between two edges of a node. -/
def EI (W : World) (J : List Ed → World → Prop) (p0 next : List Ed) (k : Nat) (wr : World) : Prop := J (p0 ++ next.take k) wr ∧ KeepsCells W wr

set_option maxRecDepth 100000 in
set_option maxHeartbeats 2000000 in
/-- The edges come one by one, the payload's first, until a round says 'no more'. -/
theorem edges_tells (Bn : Nat) (x : Nd) (v : Value) :
    Tells Fence.wide 2 Try.prog 81 #[.pointer (some ⟨Bn, 0, none⟩)] (fun e => #[edV e]) KeepsCells (fun W => Blk W Bn 70 (ndCells x v) ∧ Edges W v x.next) (edgesL x) := fun l J Jx W hJ hY h0 ⟨hb, hE⟩ => by
  refine callsIn_of_wp Try.func81 rfl trivial ?_ rfl
  simp only [Try.ntmps81, List.size_toArray, List.length_cons, List.length_nil, Nat.reduceAdd, Nat.reduceSub, Array.replicate_succ, Array.replicate_zero, List.push_toArray, List.append_toArray, List.nil_append, List.cons_append]
  obtain ⟨A, cap, rfl, hlen, hcell⟩ := hE
  obtain ⟨kind, prio, chan, ⟨ea, es⟩, next⟩ := x
  dsimp only at *
  have c2 : W.cell? ⟨Bn, 2, none⟩ = some (.bool chan) := hb.cell 2
  have c3 : W.cell? ⟨Bn, 3, none⟩ = some (.int .i64 ea) := hb.cell 3
  have c4 : W.cell? ⟨Bn, 4, none⟩ = some (.int .i64 es) := hb.cell 4
  have c5 : W.cell? ⟨Bn, 5, none⟩ = some (.slice A next.length cap) := hb.cell 5
  have HB := Lib.hid hb
  clear hb
  cases chan
  · have HC := Lib.hid hcell
    have HY := Lib.hid hY
    have HJ := Lib.hid hJ
    have HL := Lib.hid hlen
    clear hcell hY hJ
    gi_wp2_with fail
    refine ⟨fun _ h => (by cases h), ?_⟩
    gi_wp2_with fail
    have H0 : Hid (EI W J [] next 0 W) := ⟨h0, .refl _⟩
    gi_loopw [17] (fun i wr => ∃ k : Nat, k ≤ next.length ∧ i = .int .i64 (k : Int) ∧ EI W J [] next k wr) (fun i _ => next.length - (intOf i).toNat)
    case atStart => exact ⟨0, Nat.zero_le _, rfl, H0.out⟩
    case round =>
      obtain ⟨k, hk, rfl, hJ1, hkc⟩ := hrel
      have hl2 := HL.out
      by_cases hlt : k < next.length
      · obtain ⟨⟨a, b⟩, he⟩ : ∃ e, next[k]? = some e := ⟨_, List.getElem?_eq_getElem hlt⟩
        obtain ⟨bb, off, rfl, hce⟩ := HC.out (by intro e0; rw [e0] at hlt; simp at hlt)
        have d0 : wr.cell? ⟨bb, off + k * 2, none⟩ = some (.int .i64 a) := hkc.cell (hce k _ he).1
        have d1 : wr.cell? ⟨bb, off + k * 2 + 1, none⟩ = some (.int .i64 b) := hkc.cell (hce k _ he).2
        clear hce
        have hb2 : Below W.heap.size wr (wr.alloc (.cells #[.int .i64 a, .int .i64 b] 67)) := (Below.refl _ _).alloc hkc.size _
        have hsn := take_len he
        obtain ⟨fn, tmps, assign, body, hy, hR⟩ := HY.out ([] ++ next.take k) (a, b) _ (by
          rw [edges_eq_word (rfl : (Nd.mk kind prio false (ea, es) next).chan = false), List.append_assoc, ← hsn]; exact pre_take _ _ _) (HJ.out _ _ _ hJ1 hb2)
        have HS := Lib.hid hsn
        have HK := Lib.hid hkc
        have hk0 : (0 : Int) ≤ (k : Int) := by omega
        have hk1 : (k : Int) < (next.length : Int) := by omega
        clear hsn hkc he hb2 hJ1
        gi_wp2_with fail
        refine hR.mono ?_
        rintro e W3 (⟨rfl, hJ3, hk3⟩ | ⟨rfl, hJ3⟩)
        · have hEI : EI W J [] next (k + 1) W3 := ⟨by rw [HS.out, ← List.append_assoc]; exact hJ3, (HK.out.trans (KeepsCells.alloc _ _)).trans hk3⟩
          have HE := Lib.hid hEI
          clear hEI hJ3 hk3
          gi_wp2_with fail
          go_roundw
          case rel => exact ⟨k + 1, by omega, by go_num, HE.out⟩
          case measure => simp [intOf]; omega
        · have HX : Hid (Jx ([] ++ next.take (k + 1)) W3) := by rw [HS.out, ← List.append_assoc]; exact hJ3
          clear hJ3
          gi_wp2_with fail
          refine bodyPost_ret (results_none rfl _ _ _) rfl ?_
          exact ⟨⟨_, rfl⟩, .inr ⟨_, by rw [edges_eq_word (rfl : (Nd.mk kind prio false (ea, es) next).chan = false)]; exact pre_take _ _ _, by rw [HS.out]; simp, HX.out⟩⟩
      · have hke : k = next.length := by omega
        have HX : Hid (J ([] ++ next) wr) := by have := hJ1; rw [hke, List.take_length] at this; exact this
        have hge : (next.length : Int) ≤ (k : Int) := by omega
        clear hJ1 hkc hke
        gi_wp2_with fail
        go_end0
        exact ⟨⟨_, rfl⟩, .inl (by rw [edges_eq_word (rfl : (Nd.mk kind prio false (ea, es) next).chan = false)]; exact HX.out)⟩
  · obtain ⟨fn, tmps, assign, body, hy, hR⟩ := hY [] (ea, es) W (by rw [edges_eq_chan rfl]; exact ⟨next, rfl⟩) h0
    have HC := Lib.hid hcell
    have HY := Lib.hid hY
    have HJ := Lib.hid hJ
    have HL := Lib.hid hlen
    clear hcell hY hJ
    gi_wp2_with fail
    refine hR.mono ?_
    rintro e W1 (⟨rfl, hJ3, hk3⟩ | ⟨rfl, hJ3⟩)
    · have q5 := hk3.cell c5
      have H0 : Hid (EI W J [(ea, es)] next 0 W1) := ⟨by simpa using hJ3, hk3⟩
      clear hJ3 hk3
      gi_wp2_with fail
      gi_loopw [17] (fun i wr => ∃ k : Nat, k ≤ next.length ∧ i = .int .i64 (k : Int) ∧ EI W J [(ea, es)] next k wr) (fun i _ => next.length - (intOf i).toNat)
      case atStart => exact ⟨0, Nat.zero_le _, rfl, H0.out⟩
      case round =>
        obtain ⟨k, hk, rfl, hJ1, hkc⟩ := hrel
        have hl2 := HL.out
        by_cases hlt : k < next.length
        · obtain ⟨⟨a, b⟩, he⟩ : ∃ e, next[k]? = some e := ⟨_, List.getElem?_eq_getElem hlt⟩
          obtain ⟨bb, off, rfl, hce⟩ := HC.out (by intro e0; rw [e0] at hlt; simp at hlt)
          have d0 : wr.cell? ⟨bb, off + k * 2, none⟩ = some (.int .i64 a) := hkc.cell (hce k _ he).1
          have d1 : wr.cell? ⟨bb, off + k * 2 + 1, none⟩ = some (.int .i64 b) := hkc.cell (hce k _ he).2
          clear hce
          have hb2 : Below W.heap.size wr (wr.alloc (.cells #[.int .i64 a, .int .i64 b] 67)) := (Below.refl _ _).alloc hkc.size _
          have hsn := take_len he
          obtain ⟨fn, tmps, assign, body, hy, hR⟩ := HY.out ([(ea, es)] ++ next.take k) (a, b) _ (by
            rw [edges_eq_chan (rfl : (Nd.mk kind prio true (ea, es) next).chan = true), List.append_assoc, ← hsn]; exact pre_take _ _ _) (HJ.out _ _ _ hJ1 hb2)
          have HS := Lib.hid hsn
          have HK := Lib.hid hkc
          have hk0 : (0 : Int) ≤ (k : Int) := by omega
          have hk1 : (k : Int) < (next.length : Int) := by omega
          clear hsn hkc he hb2 hJ1
          gi_wp2_with fail
          refine hR.mono ?_
          rintro e W3 (⟨rfl, hJ3, hk3⟩ | ⟨rfl, hJ3⟩)
          · have hEI : EI W J [(ea, es)] next (k + 1) W3 := ⟨by rw [HS.out, ← List.append_assoc]; exact hJ3, (HK.out.trans (KeepsCells.alloc _ _)).trans hk3⟩
            have HE := Lib.hid hEI
            clear hEI hJ3 hk3
            gi_wp2_with fail
            go_roundw
            case rel => exact ⟨k + 1, by omega, by go_num, HE.out⟩
            case measure => simp [intOf]; omega
          · have HX : Hid (Jx ([(ea, es)] ++ next.take (k + 1)) W3) := by rw [HS.out, ← List.append_assoc]; exact hJ3
            clear hJ3
            gi_wp2_with fail
            refine bodyPost_ret (results_none rfl _ _ _) rfl ?_
            exact ⟨⟨_, rfl⟩, .inr ⟨_, by rw [edges_eq_chan (rfl : (Nd.mk kind prio true (ea, es) next).chan = true)]; exact pre_take _ _ _, by rw [HS.out]; simp, HX.out⟩⟩
        · have hke : k = next.length := by omega
          have HX : Hid (J ([(ea, es)] ++ next) wr) := by have := hJ1; rw [hke, List.take_length] at this; exact this
          have hge : (next.length : Int) ≤ (k : Int) := by omega
          clear hJ1 hkc hke
          gi_wp2_with fail
          go_end0
          exact ⟨⟨_, rfl⟩, .inl (by rw [edges_eq_chan (rfl : (Nd.mk kind prio true (ea, es) next).chan = true)]; exact HX.out)⟩
    · have HX := Lib.hid hJ3
      clear hJ3
      gi_wp2_with fail
      refine bodyPost_ret (results_none rfl _ _ _) rfl ?_
      exact ⟨⟨_, rfl⟩, .inr ⟨_, by rw [edges_eq_chan rfl]; exact ⟨next, rfl⟩, by simp, HX.out⟩⟩
end Go.Proofs.Ytmhbmeckdbdhpaa

namespace Go.Proofs.Ytmhbmeckdbdhpaa
open Go.RowKit Go.Shelf
attribute [local go_sem] Oper.semAt_some

theorem way_any (A : Option Addr) (n c : Nat) (t : Ed) (w : World) :
    Calls Try.prog 67 #[.slice A n c, edV t] w fun e w' => e = .returned (.func (.func 76) #[] #[.pointer (some ⟨w.heap.size + 1, 0, none⟩), .pointer (some ⟨w.heap.size, 0, none⟩)]) ∧
      w' = (w.alloc (.cells #[.slice A n c] 22)).alloc (.cells (edCells t) 59) := by
  have hmf : ∀ (fn : Fn) (first cap : Array Value) (w : World), (Instr.makeFunc fn first cap).run Try.prog w = .ok (.func fn first cap) w := fun _ _ _ _ => rfl
  go_enter Try.func67, Try.ntmps67
  go_wp2
  go_ret
  exact ⟨rfl, rfl⟩

/-- What stands between two types of a way: what has come, at whom it stands. -/
def WI (W : World) (J : List Ed → World → Prop) (xs : List Nd) (L pre : List Ed) (f : Nat) (t : Ed) (wr : World) : Prop :=
  L = pre ++ wayL xs f t ∧ J pre wr ∧ Blk wr W.heap.size 59 (edCells t) ∧ Keeps W wr ∧ W.heap.size < wr.heap.size
theorem wi_next {W W3 : World} {J : List Ed → World → Prop} {xs : List Nd} {L pre : List Ed} {f : Nat} {t e : Ed} {x : Nd} (hJ : ∀ s X Y, J s X → Below W.heap.size X Y → J s Y) (hn : nodeAt xs t.1 = some x) (ho : onlyNext x = some e) (hL : L = pre ++ wayL xs (f + 1) t) (hJ3 : J (pre ++ [t]) W3)
    (hb : Blk W3 W.heap.size 59 (edCells t)) (hk : Keeps W W3) (hz : W.heap.size < W3.heap.size) (o : Obj) :
    WI W J xs L (pre ++ [t]) f (stepT t e) (((W3.setCell ⟨W.heap.size, 0, none⟩ (.int .i64 (stepT t e).1)).setCell ⟨W.heap.size, 1, none⟩ (.int .i64 (stepT t e).2)).alloc o).drew := by
  refine ⟨by rw [hL, wayL_next hn ho]; simp, hJ _ _ _ hJ3 ?_, ?_, ?_, ?_⟩
  · exact (((((Below.refl _ W3).setCell (p := ⟨W.heap.size, 0, none⟩) (Nat.le_refl _) _).setCell (p := ⟨W.heap.size, 1, none⟩) (Nat.le_refl _) _).alloc (by simp [World.setCell]; omega) _)).drew
  · exact (((hb.set_ 0 _).set_ 1 _).alloc _).drew
  · exact (((hk.setNew (p := ⟨W.heap.size, 0, none⟩) (Nat.le_refl _) _).setNew (p := ⟨W.heap.size, 1, none⟩) (Nat.le_refl _) _).trans (.alloc _ _)).drew
  · simp [World.setCell]; omega


set_option maxRecDepth 100000 in
set_option maxHeartbeats 2000000 in
/-- The types on t's way come one by one, until a round says 'no more'. -/
theorem way_tells (Bt Bn : Nat) (xs : List Nd) (v : Value) (t : Ed) (hxs : xs.length ≤ 140737488351232) :
    Tells Fence.wide 2 Try.prog 76 #[.pointer (some ⟨Bt, 0, none⟩), .pointer (some ⟨Bn, 0, none⟩)] (fun e => #[edV e]) KeepsCells (fun W => Blk W Bt 59 (edCells t) ∧ Blk W Bn 22 #[v] ∧ Tbl W v xs) (wayL xs xs.length t) := fun l J Jx W hJ hY h0 ⟨hbt, hbn, hT⟩ => by
  refine callsIn_of_wp Try.func76 rfl trivial ?_ rfl
  simp only [Try.ntmps76, List.size_toArray, List.length_cons, List.length_nil, Nat.reduceAdd, Nat.reduceSub, Array.replicate_succ, Array.replicate_zero, List.push_toArray, List.append_toArray, List.nil_append, List.cons_append]
  obtain ⟨A, cap, rfl, hcell⟩ := hT
  have c0 : W.cell? ⟨Bt, 0, none⟩ = some (.int .i64 t.1) := hbt.cell 0
  have c1 : W.cell? ⟨Bt, 1, none⟩ = some (.int .i64 t.2) := hbt.cell 1
  have cn : W.cell? ⟨Bn, 0, none⟩ = some (.slice A xs.length cap) := hbn.cell 0
  have hw1 : Below W.heap.size W (W.alloc (.cells (edCells t) 59)) := (Below.refl _ _).alloc (Nat.le_refl _) _
  have hbnl := hbn.lt
  have H0 : Hid (WI W J xs (wayL xs xs.length t) [] xs.length t (W.alloc (.cells (edCells t) 59))) :=
    ⟨rfl, hJ _ _ _ h0 hw1, Blk.new _ _ _, .alloc _ _, by simp⟩
  have HT0 : Hid (Tbl W (.slice A xs.length cap) xs) := ⟨A, cap, rfl, hcell⟩
  have HY := Lib.hid hY
  have HJ := Lib.hid hJ
  have HL := Lib.hid hxs
  clear hcell hY hJ hw1 hxs hbn hbt h0
  gi_wp2_with fail
  gi_loopw [9] (fun i wr => ∃ (k : Nat) (t1 : Ed) (pre : List Ed), k ≤ xs.length ∧ i = .int .i64 (k : Int) ∧ WI W J xs (wayL xs xs.length t) pre (xs.length - k) t1 wr) (fun i _ => xs.length - (intOf i).toNat)
  case atStart => exact ⟨0, t, [], Nat.zero_le _, rfl, H0.out⟩
  case round =>
    clear H0
    obtain ⟨k, t1, pre, hk, rfl, hLp, hJ1, hat, hkp, hz⟩ := hrel
    have hl2 := HL.out
    have q0 : wr.cell? ⟨W.heap.size, 0, none⟩ = some (.int .i64 t1.1) := hat.cell 0
    have q1 : wr.cell? ⟨W.heap.size, 1, none⟩ = some (.int .i64 t1.2) := hat.cell 1
    have qn : wr.cell? ⟨Bn, 0, none⟩ = some (.slice A xs.length cap) := hkp _ _ cn
    by_cases hlt : k < xs.length
    · have hk0 : (0 : Int) ≤ (k : Int) := by omega
      have hk1 : (k : Int) < (xs.length : Int) := by omega
      obtain ⟨f, hf⟩ : ∃ f, xs.length - k = f + 1 := ⟨xs.length - k - 1, by omega⟩
      rw [hf] at hLp
      cases hn : nodeAt xs t1.1 with
      | none =>
        have hnb := nodeAt_none hn
        rw [wayL_none hn, List.append_nil] at hLp
        have HP := Lib.hid hLp
        have HJ1 := Lib.hid hJ1
        clear hLp hJ1 hn hf hkp hat
        gi_wp2_with (refine ⟨trivial, ?_⟩; gi_at_call 73; go_must (refine (callsIn_wide.2 (isNode_any _ _ _ HL.out _ _)).mono ?_; rintro e w4 ⟨rfl, rfl⟩))
        refine ⟨fun _ h => (by cases h), ?_⟩
        gi_wp2_with fail
        refine bodyPost_ret (results_none rfl _ _ _) rfl ?_
        exact ⟨⟨_, rfl⟩, .inl (by rw [HP.out]; exact HJ1.out)⟩
      | some x =>
        obtain ⟨hi0, hi1, hix⟩ := nodeAt_some hn
        obtain ⟨i, o, rfl⟩ : ∃ (i : Nat) (o : Int), t1 = ((i : Int), o) := ⟨t1.1.toNat, t1.2, by ext <;> simp; omega⟩
        dsimp only at hn hi0 hi1 hix q0 q1
        have hit : ((i : Int)).toNat = i := by simp
        rw [hit] at hix
        clear hit
        have hnb : nodeB xs.length (i : Int) = true := nodeB_true.2 ⟨hi0, hi1⟩
        obtain ⟨r, hr⟩ := wayL_head (f := f) (t := ((i : Int), o)) hn
        obtain ⟨fn, tmps, assign, body, hy, hR⟩ := HY.out pre ((i : Int), o) wr (by rw [hLp, hr]; exact ⟨r, by simp⟩) hJ1
        clear r hr
        have HP := Lib.hid hLp
        have HN := Lib.hid hn
        have HX := Lib.hid hix
        have HB := Lib.hid hat
        have HK := Lib.hid hkp
        have HF := Lib.hid hf
        clear hLp hJ1 hn hix hat hkp hf
        gi_wp2_with (refine ⟨trivial, ?_⟩; gi_at_call 73; go_must (refine (callsIn_wide.2 (isNode_any _ _ _ HL.out _ _)).mono ?_; rintro e w4 ⟨rfl, rfl⟩))
        refine hR.mono ?_
        rintro e W3 (⟨rfl, hJ3, hk3⟩ | ⟨rfl, hJ3⟩)
        · have hat3 := HB.out.keeps hk3
          have hk4 := HK.out.trans hk3.keeps
          have r0 : W3.cell? ⟨W.heap.size, 0, none⟩ = some (.int .i64 (i : Int)) := hat3.cell 0
          have r1 : W3.cell? ⟨W.heap.size, 1, none⟩ = some (.int .i64 o) := hat3.cell 1
          have g0 := hat3.frozen 0
          have g1 := hat3.frozen 1
          have rn : W3.cell? ⟨Bn, 0, none⟩ = some (.slice A xs.length cap) := hk4 _ _ cn
          have hz3 : W.heap.size < W3.heap.size := Nat.lt_of_lt_of_le hz hk3.size
          have hT3 := HT0.out.keep hk4
          obtain ⟨A', c', hA, hcl⟩ := hT3
          obtain ⟨bb, off, hAb, hcl⟩ := hcl (by intro e0; rw [e0] at hi1; simp at hi1; omega)
          obtain ⟨v', hE', n0, n1, n2, n3, n4, n5⟩ := hcl i x HX.out
          obtain ⟨rfl, rfl⟩ : A = A' ∧ cap = c' := by simpa using hA
          subst hAb
          clear hA hcl
          have HN' := Lib.hid (fun e he => wi_next (e := e) (L := wayL xs xs.length t) (f := f) HJ.out HN.out he HP.out hJ3 hat3 hk4 hz3)
          have HEND : Hid (onlyNext x = none → ∀ ob, J (wayL xs xs.length t) (W3.alloc ob)) := fun he ob => by rw [HP.out, wayL_end HN.out he]; exact HJ.out _ _ _ hJ3 ((Below.refl _ W3).alloc (Nat.le_of_lt hz3) _)
          clear hJ3 hat3 hk4 hk3
          obtain ⟨kind, prio, chan, ⟨ea, es⟩, next⟩ := x
          dsimp only at n0 n1 n2 n3 n4 n5 hE'
          obtain ⟨A2, c2, rfl, hl3, hE'⟩ := hE'
          by_cases h5 : kind = 5
          · subst h5
            by_cases h1 : next.length = 1
            · obtain ⟨⟨a, b⟩, rfl⟩ : ∃ e, next = [e] := by
                match next, h1 with
                | [e], _ => exact ⟨e, rfl⟩
              obtain ⟨b2, off2, rfl, hE2⟩ := hE' (by simp)
              obtain ⟨e0, e1⟩ := hE2 0 (a, b) rfl
              simp only [Nat.zero_mul, Nat.add_zero] at e0 e1
              have hb2 : b2 < W3.heap.size := cell_lt e0
              clear hE2 hE'
              have HW : Hid (∀ ob, WI W J xs (wayL xs xs.length t) (pre ++ [((i : Int), o)]) f (a, wrap64 (o + b)) (((W3.setCell ⟨W.heap.size, 0, none⟩ (.int .i64 a)).setCell ⟨W.heap.size, 1, none⟩ (.int .i64 (wrap64 (o + b)))).alloc ob).drew) := HN'.out (a, b) rfl
              clear HN' HEND hl3
              have hmx : Try.prog.follows .mixedOrders = true := by kernel_rfl
              gi_wp2_with fail
              gi_region_with_o fail
              all_goals gi_wp2
              all_goals exact ⟨⟨k + 1, _, _, by omega, by go_num, by rw [show xs.length - (k + 1) = f by have := HF.out; omega]; exact HW.out _⟩, by simp [intOf]; omega⟩
            · have hne : onlyNext ⟨5, prio, chan, (ea, es), next⟩ = none := by
                match next, h1 with
                | [], _ => rfl
                | [_], h => exact absurd rfl h
                | _ :: _ :: _, _ => rfl
              have HX4 := Lib.hid (HEND.out hne)
              have h1' : ¬ (next.length : Int) = 1 := by omega
              clear HN' HEND hE' h1 hne
              gi_wp2_with fail
              refine bodyPost_ret (results_none rfl _ _ _) rfl ?_
              exact ⟨⟨_, rfl⟩, .inl (HX4.out _)⟩
          · have hne : onlyNext ⟨kind, prio, chan, (ea, es), next⟩ = none := by simp [onlyNext, h5]
            have HX4 := Lib.hid (HEND.out hne)
            clear HN' HEND hE' hne
            gi_wp2_with fail
            refine bodyPost_ret (results_none rfl _ _ _) rfl ?_
            exact ⟨⟨_, rfl⟩, .inl (HX4.out _)⟩
        · have HX3 := Lib.hid hJ3
          clear hJ3
          gi_wp2_with fail
          refine bodyPost_ret (results_none rfl _ _ _) rfl ?_
          obtain ⟨r, hr⟩ := wayL_head (f := f) (t := ((i : Int), o)) HN.out
          exact ⟨⟨_, rfl⟩, .inr ⟨_, by rw [HP.out, hr]; exact ⟨r, by simp⟩, by simp, HX3.out⟩⟩
    · have hke : k = xs.length := by omega
      have HX : Hid (J (wayL xs xs.length t) wr) := by rw [hLp, hke, Nat.sub_self]; simp only [wayL, List.append_nil]; exact hJ1
      have hge : (xs.length : Int) ≤ (k : Int) := by omega
      clear hJ1 hLp hke
      gi_wp2_with fail
      go_end0
      exact ⟨⟨_, rfl⟩, .inl HX.out⟩
end Go.Proofs.Ytmhbmeckdbdhpaa

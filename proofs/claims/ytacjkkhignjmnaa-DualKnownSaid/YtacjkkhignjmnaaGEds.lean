/- graph: hasPay, edges, and the edges one by one. -/
import Derived.Test.YtacjkkhignjmnaaGEdg
import Derived.Laws.Rows
namespace Go.Proofs.Ytacjkkhignjmnaa
open Go.RowKit Go.Shelf
attribute [local go_sem] Oper.semAt_some

set_option maxRecDepth 100000 in
set_option maxHeartbeats 1000000 in
theorem hasPay_any (x : Nd) (v : Value) (a b : Int) (p : Bool) (c : Int) (w : World) :
    Calls Try.prog 37 #[ndV x v, shV a b p c] w fun e w' => e = .returned (.bool (payB x p)) ∧ w.grownBy w' none := by
  obtain ⟨kind, prio, chan, ⟨ea, es⟩, next⟩ := x
  have hg : ∀ A B, w.grownBy ((w.alloc A).alloc B) none := fun A B => only_alloc (only_alloc (only_refl _ _) _) _
  have HG := Lib.hid hg
  clear hg
  cases chan
  · go_enter Try.func37, Try.ntmps37
    go_wp2
    all_goals (go_ret; refine ⟨?_, HG.out _ _⟩; simp [payB, *])
  · go_enter Try.func37, Try.ntmps37
    go_wp2
    go_ret
    exact ⟨rfl, HG.out _ _⟩

theorem edges_any (x : Nd) (v : Value) (w : World) :
    Calls Try.prog 30 #[ndV x v] w fun e w' => e = .returned (.func (.func 38) #[] #[.pointer (some ⟨w.heap.size, 0, none⟩)]) ∧ w' = w.alloc (.cells (ndCells x v) 29) := by
  have hmf : ∀ (fn : Fn) (first cap : Array Value) (w : World), (Instr.makeFunc fn first cap).run Try.prog w = .ok (.func fn first cap) w := fun _ _ _ _ => rfl
  go_enter Try.func30, Try.ntmps30
  go_wp2
  go_ret
  exact ⟨rfl, rfl⟩

theorem edges_eq_chan {x : Nd} (h : x.chan = true) : edgesL x = [x.pay] ++ x.next := by simp [edgesL, h]
theorem edges_eq_word {x : Nd} (h : x.chan = false) : edgesL x = [] ++ x.next := by simp [edgesL, h]
theorem pre_take {α : Type} (p l : List α) (k : Nat) : p ++ l.take k <+: p ++ l := (List.prefix_append_right_inj p).2 (List.take_prefix _ _)
theorem take_len {α : Type} {l : List α} {k : Nat} {e : α} (h : l[k]? = some e) : l.take (k + 1) = l.take k ++ [e] := by
  obtain ⟨hl, rfl⟩ := List.getElem?_eq_some_iff.1 h
  exact List.take_succ_eq_append_getElem hl

/-- What stands between two edges of a node. -/
def EI (W : World) (J : List Ed → World → Prop) (p0 next : List Ed) (k : Nat) (wr : World) : Prop := J (p0 ++ next.take k) wr ∧ KeepsCells W wr

set_option maxRecDepth 100000 in
set_option maxHeartbeats 2000000 in
/-- The edges come one by one, the payload's first, until a round says 'no more'. -/
theorem edges_tells (Bn : Nat) (x : Nd) (v : Value) :
    Tells Fence.wide 2 Try.prog 38 #[.pointer (some ⟨Bn, 0, none⟩)] (fun e => #[edV e]) KeepsCells (fun W => Blk W Bn 29 (ndCells x v) ∧ Edges W v x.next) (edgesL x) := fun l J Jx W hJ hY h0 ⟨hb, hE⟩ => by
  refine callsIn_of_wp Try.func38 rfl trivial ?_ rfl
  simp only [Try.ntmps38, List.size_toArray, List.length_cons, List.length_nil, Nat.reduceAdd, Nat.reduceSub, Array.replicate_succ, Array.replicate_zero, List.push_toArray, List.append_toArray, List.nil_append, List.cons_append]
  obtain ⟨A, cap, rfl, hlen, hcell⟩ := hE
  obtain ⟨kind, prio, chan, ⟨ea, es⟩, next⟩ := x
  dsimp only at *
  have c2 : W.cell? ⟨Bn, 2, none⟩ = some (.bool chan) := hb.cell 2
  have c3 : W.cell? ⟨Bn, 3, none⟩ = some (.int .i64 ea) := hb.cell 3
  have c4 : W.cell? ⟨Bn, 4, none⟩ = some (.int .i64 es) := hb.cell 4
  have c5 : W.cell? ⟨Bn, 5, none⟩ = some (.slice A next.length cap) := hb.cell 5
  have HB := Lib.hid hb
  clear hb
  cases chan
  · have HC := Lib.hid hcell
    have HY := Lib.hid hY
    have HJ := Lib.hid hJ
    have HL := Lib.hid hlen
    clear hcell hY hJ
    gi_wp2_with fail
    refine ⟨fun _ h => (by cases h), ?_⟩
    gi_wp2_with fail
    have H0 : Hid (EI W J [] next 0 W) := ⟨h0, .refl _⟩
    gi_loopw [17] (fun i wr => ∃ k : Nat, k ≤ next.length ∧ i = .int .i64 (k : Int) ∧ EI W J [] next k wr) (fun i _ => next.length - (intOf i).toNat)
    case atStart => exact ⟨0, Nat.zero_le _, rfl, H0.out⟩
    case round =>
      obtain ⟨k, hk, rfl, hJ1, hkc⟩ := hrel
      have hl2 := HL.out
      by_cases hlt : k < next.length
      · obtain ⟨⟨a, b⟩, he⟩ : ∃ e, next[k]? = some e := ⟨_, List.getElem?_eq_getElem hlt⟩
        obtain ⟨bb, off, rfl, hce⟩ := HC.out (by intro e0; rw [e0] at hlt; simp at hlt)
        have d0 : wr.cell? ⟨bb, off + k * 2, none⟩ = some (.int .i64 a) := hkc.cell (hce k _ he).1
        have d1 : wr.cell? ⟨bb, off + k * 2 + 1, none⟩ = some (.int .i64 b) := hkc.cell (hce k _ he).2
        clear hce
        have hb2 : Below W.heap.size wr (wr.alloc (.cells #[.int .i64 a, .int .i64 b] 26)) := (Below.refl _ _).alloc hkc.size _
        have hsn := take_len he
        obtain ⟨fn, tmps, assign, body, hy, hR⟩ := HY.out ([] ++ next.take k) (a, b) _ (by
          rw [edges_eq_word (rfl : (Nd.mk kind prio false (ea, es) next).chan = false), List.append_assoc, ← hsn]; exact pre_take _ _ _) (HJ.out _ _ _ hJ1 hb2)
        have HS := Lib.hid hsn
        have HK := Lib.hid hkc
        have hk0 : (0 : Int) ≤ (k : Int) := by omega
        have hk1 : (k : Int) < (next.length : Int) := by omega
        clear hsn hkc he hb2 hJ1
        gi_wp2_with fail
        refine hR.mono ?_
        rintro e W3 (⟨rfl, hJ3, hk3⟩ | ⟨rfl, hJ3⟩)
        · have hEI : EI W J [] next (k + 1) W3 := ⟨by rw [HS.out, ← List.append_assoc]; exact hJ3, (HK.out.trans (KeepsCells.alloc _ _)).trans hk3⟩
          have HE := Lib.hid hEI
          clear hEI hJ3 hk3
          gi_wp2_with fail
          go_roundw
          case rel => exact ⟨k + 1, by omega, by go_num, HE.out⟩
          case measure => simp [intOf]; omega
        · have HX : Hid (Jx ([] ++ next.take (k + 1)) W3) := by rw [HS.out, ← List.append_assoc]; exact hJ3
          clear hJ3
          gi_wp2_with fail
          refine bodyPost_ret (results_none rfl _ _ _) rfl ?_
          exact ⟨⟨_, rfl⟩, .inr ⟨_, by rw [edges_eq_word (rfl : (Nd.mk kind prio false (ea, es) next).chan = false)]; exact pre_take _ _ _, by rw [HS.out]; simp, HX.out⟩⟩
      · have hke : k = next.length := by omega
        have HX : Hid (J ([] ++ next) wr) := by have := hJ1; rw [hke, List.take_length] at this; exact this
        have hge : (next.length : Int) ≤ (k : Int) := by omega
        clear hJ1 hkc hke
        gi_wp2_with fail
        go_end0
        exact ⟨⟨_, rfl⟩, .inl (by rw [edges_eq_word (rfl : (Nd.mk kind prio false (ea, es) next).chan = false)]; exact HX.out)⟩
  · obtain ⟨fn, tmps, assign, body, hy, hR⟩ := hY [] (ea, es) W (by rw [edges_eq_chan rfl]; exact ⟨next, rfl⟩) h0
    have HC := Lib.hid hcell
    have HY := Lib.hid hY
    have HJ := Lib.hid hJ
    have HL := Lib.hid hlen
    clear hcell hY hJ
    gi_wp2_with fail
    refine hR.mono ?_
    rintro e W1 (⟨rfl, hJ3, hk3⟩ | ⟨rfl, hJ3⟩)
    · have q5 := hk3.cell c5
      have H0 : Hid (EI W J [(ea, es)] next 0 W1) := ⟨by simpa using hJ3, hk3⟩
      clear hJ3 hk3
      gi_wp2_with fail
      gi_loopw [17] (fun i wr => ∃ k : Nat, k ≤ next.length ∧ i = .int .i64 (k : Int) ∧ EI W J [(ea, es)] next k wr) (fun i _ => next.length - (intOf i).toNat)
      case atStart => exact ⟨0, Nat.zero_le _, rfl, H0.out⟩
      case round =>
        obtain ⟨k, hk, rfl, hJ1, hkc⟩ := hrel
        have hl2 := HL.out
        by_cases hlt : k < next.length
        · obtain ⟨⟨a, b⟩, he⟩ : ∃ e, next[k]? = some e := ⟨_, List.getElem?_eq_getElem hlt⟩
          obtain ⟨bb, off, rfl, hce⟩ := HC.out (by intro e0; rw [e0] at hlt; simp at hlt)
          have d0 : wr.cell? ⟨bb, off + k * 2, none⟩ = some (.int .i64 a) := hkc.cell (hce k _ he).1
          have d1 : wr.cell? ⟨bb, off + k * 2 + 1, none⟩ = some (.int .i64 b) := hkc.cell (hce k _ he).2
          clear hce
          have hb2 : Below W.heap.size wr (wr.alloc (.cells #[.int .i64 a, .int .i64 b] 26)) := (Below.refl _ _).alloc hkc.size _
          have hsn := take_len he
          obtain ⟨fn, tmps, assign, body, hy, hR⟩ := HY.out ([(ea, es)] ++ next.take k) (a, b) _ (by
            rw [edges_eq_chan (rfl : (Nd.mk kind prio true (ea, es) next).chan = true), List.append_assoc, ← hsn]; exact pre_take _ _ _) (HJ.out _ _ _ hJ1 hb2)
          have HS := Lib.hid hsn
          have HK := Lib.hid hkc
          have hk0 : (0 : Int) ≤ (k : Int) := by omega
          have hk1 : (k : Int) < (next.length : Int) := by omega
          clear hsn hkc he hb2 hJ1
          gi_wp2_with fail
          refine hR.mono ?_
          rintro e W3 (⟨rfl, hJ3, hk3⟩ | ⟨rfl, hJ3⟩)
          · have hEI : EI W J [(ea, es)] next (k + 1) W3 := ⟨by rw [HS.out, ← List.append_assoc]; exact hJ3, (HK.out.trans (KeepsCells.alloc _ _)).trans hk3⟩
            have HE := Lib.hid hEI
            clear hEI hJ3 hk3
            gi_wp2_with fail
            go_roundw
            case rel => exact ⟨k + 1, by omega, by go_num, HE.out⟩
            case measure => simp [intOf]; omega
          · have HX : Hid (Jx ([(ea, es)] ++ next.take (k + 1)) W3) := by rw [HS.out, ← List.append_assoc]; exact hJ3
            clear hJ3
            gi_wp2_with fail
            refine bodyPost_ret (results_none rfl _ _ _) rfl ?_
            exact ⟨⟨_, rfl⟩, .inr ⟨_, by rw [edges_eq_chan (rfl : (Nd.mk kind prio true (ea, es) next).chan = true)]; exact pre_take _ _ _, by rw [HS.out]; simp, HX.out⟩⟩
        · have hke : k = next.length := by omega
          have HX : Hid (J ([(ea, es)] ++ next) wr) := by have := hJ1; rw [hke, List.take_length] at this; exact this
          have hge : (next.length : Int) ≤ (k : Int) := by omega
          clear hJ1 hkc hke
          gi_wp2_with fail
          go_end0
          exact ⟨⟨_, rfl⟩, .inl (by rw [edges_eq_chan (rfl : (Nd.mk kind prio true (ea, es) next).chan = true)]; exact HX.out)⟩
    · have HX := Lib.hid hJ3
      clear hJ3
      gi_wp2_with fail
      refine bodyPost_ret (results_none rfl _ _ _) rfl ?_
      exact ⟨⟨_, rfl⟩, .inr ⟨_, by rw [edges_eq_chan rfl]; exact ⟨next, rfl⟩, by simp, HX.out⟩⟩
end Go.Proofs.Ytacjkkhignjmnaa

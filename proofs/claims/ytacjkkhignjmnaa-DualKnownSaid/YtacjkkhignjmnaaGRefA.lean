/- The document's answer for graph: bounds, shape: what each answers of any node. -/
import Derived.Test.YtacjkkhignjmnaaGShp
import Derived.LoopTactic
namespace Go.Proofs.Ytacjkkhignjmnaa
open Go.RowKit Go.Shelf

set_option maxHeartbeats 1000000 in
theorem bounds_in (k : Int) (hk : kindB k = true) (w : World) :
    Calls Try.prog 34 #[.int .i64 k] w fun e w' => e = .returned (.tuple #[.int .i64 (leastN k), .int .i64 (mostN k), .bool true]) ∧ w = w' := by
  have hb : 0 ≤ k ∧ k ≤ 5 := by simpa [kindB, withinB] using hk
  clear hk
  have hc : k = 0 ∨ k = 1 ∨ k = 2 ∨ k = 3 ∨ k = 4 ∨ k = 5 := by omega
  rcases hc with rfl | rfl | rfl | rfl | rfl | rfl <;> clear hb
  all_goals
    go_enter Try.func34, Try.ntmps34
    go_wp2
    go_ret3
    exact ⟨rfl, rfl⟩
set_option maxHeartbeats 1000000 in
theorem bounds_out (k : Int) (hk : kindB k = false) (w : World) :
    Calls Try.prog 34 #[.int .i64 k] w fun e w' => e = .returned (.tuple #[.int .i64 0, .int .i64 0, .bool false]) ∧ w = w' := by
  have hb : ¬ (0 ≤ k ∧ k ≤ 5) := by simpa [kindB, withinB] using hk
  have h0 : (k == 0) = false := by simp; omega
  have h1 : (k == 1) = false := by simp; omega
  have h2 : (k == 2) = false := by simp; omega
  have h3 : (k == 3) = false := by simp; omega
  have h4 : (k == 4) = false := by simp; omega
  have h5 : (k == 5) = false := by simp; omega
  clear hb hk
  go_enter Try.func34, Try.ntmps34
  go_wp2
  go_ret3
  exact ⟨rfl, rfl⟩

/-- The document's shape: of the head, of the edges ahead. -/
def headR (x : Nd) : Bool := kindB x.kind && decide (leastN x.kind ≤ x.next.length) && decide ((x.next.length : Int) ≤ mostN x.kind) && decide (0 ≤ x.prio) && decide (x.prio ≤ 1000)
def tailR (x : Nd) : Bool := !((decide (x.kind = 0) || decide (x.kind = 5)) && decide (x.prio ≠ 0)) && (if x.chan then (decide (x.kind = 1) || decide (x.kind = 2)) && shiftB x.pay else decide (x.pay = (0, 0)))
theorem shape_eq (x : Nd) : shapeB x = (headR x && x.next.all shiftB && tailR x) := by
  obtain ⟨kind, prio, chan, ⟨ea, es⟩, next⟩ := x
  by_cases hk : kindB kind = true
  · have hb : 0 ≤ kind ∧ kind ≤ 5 := by simpa [kindB, withinB] using hk
    have hc : kind = 0 ∨ kind = 1 ∨ kind = 2 ∨ kind = 3 ∨ kind = 4 ∨ kind = 5 := by omega
    rw [Bool.eq_iff_iff]
    generalize hA : next.all shiftB = A
    generalize hN : (next.length : Int) = N
    clear hk hb
    rcases hc with rfl | rfl | rfl | rfl | rfl | rfl <;> cases chan <;> simp [shapeB, headB, headR, tailR, kindB, withinB, leastN, mostN, mostP, paysB, payB, edgesL, shiftB, hA, hN] <;> (try omega)
    all_goals (clear hA; cases A <;> simp <;> omega)
  · simp only [Bool.not_eq_true] at hk
    simp [shapeB, headB, headR, hk]
theorem headR_in {x : Nd} (h1 : kindB x.kind = true) (h2 : leastN x.kind ≤ x.next.length) (h3 : (x.next.length : Int) ≤ mostN x.kind) (h4 : 0 ≤ x.prio) (h5 : x.prio ≤ 1000) : headR x = true := by simp [headR, h1, h2, h3, h4, h5]
theorem shape_r1 {x : Nd} (h : headR x = false) : shapeB x = false := by simp [shape_eq, h]
theorem shape_r2 {x : Nd} {k : Nat} {e : Ed} (hk : x.next[k]? = some e) (h : shiftB e = false) : shapeB x = false := by
  have : x.next.all shiftB = false := by
    rw [List.all_eq_false]
    exact ⟨e, List.mem_of_getElem? hk, by simp [h]⟩
  simp [shape_eq, this]
theorem shape_r3 {x : Nd} (h1 : headR x = true) (h2 : ∀ j e, j < x.next.length → x.next[j]? = some e → shiftB e = true) : shapeB x = tailR x := by
  have : x.next.all shiftB = true := by
    rw [List.all_eq_true]
    intro e he
    obtain ⟨j, hj⟩ := List.mem_iff_getElem?.1 he
    exact h2 j e (List.getElem?_eq_some_iff.1 hj).1 hj
  simp [shape_eq, h1, this]

def ShOk (next : List Ed) (k : Nat) : Prop := ∀ j e, j < k → next[j]? = some e → shiftB e = true
theorem ShOk.next_ {next : List Ed} {k : Nat} {e : Ed} (h : ShOk next k) (hk : next[k]? = some e) (he : shiftB e = true) : ShOk next (k + 1) := fun j y hj hy => by
  by_cases e : j = k
  · subst e; rw [hk] at hy; cases hy; exact he
  · exact h j y (by omega) hy
set_option maxRecDepth 100000 in
set_option maxHeartbeats 2000000 in
theorem refShape_any (x : Nd) (v : Value) (w : World) (hE : Edges w v x.next) :
    Calls Try.prog 26 #[ndV x v] w fun e w' => e = .returned (.bool (shapeB x)) ∧ w.grownBy w' none := by
  have HE := Lib.hid hE
  obtain ⟨A, cap, rfl, hlen, hcell⟩ := hE
  have HL := Lib.hid hlen
  have HC := Lib.hid hcell
  have HG : Hid (∀ o, w.grownBy (w.alloc o) none) := fun o => only_alloc (only_refl _ _) _
  clear hlen hcell
  obtain ⟨kind, prio, chan, ⟨ea, es⟩, next⟩ := x
  dsimp only at HE HL HC
  obtain ⟨b0, hb0⟩ : ∃ b0, shapeB ⟨kind, prio, chan, (ea, es), next⟩ = b0 := ⟨_, rfl⟩
  rw [hb0]
  have HB := Lib.hid hb0
  clear hb0
  by_cases hk : kindB kind = true
  · have HK := Lib.hid hk
    clear hk
    by_cases h1 : leastN kind ≤ (next.length : Int)
    · by_cases h2 : (next.length : Int) ≤ mostN kind
      · by_cases h3 : 0 ≤ prio
        · by_cases h4 : prio ≤ 1000
          · have HR := Lib.hid (headR_in (x := ⟨kind, prio, chan, (ea, es), next⟩) HK.out h1 h2 h3 h4)
            go_enter Try.func26, Try.ntmps26
            go_wp2_with (go_at_call 34; go_must (refine (bounds_in _ HK.out _).mono ?_; rintro e w4 ⟨rfl, rfl⟩))
            go_loop [6] (fun i => ∃ k : Nat, k ≤ next.length ∧ i = .int .i64 (k : Int) ∧ ShOk next k) (fun i => next.length - (intOf i).toNat)
            case atStart => exact ⟨0, Nat.zero_le _, rfl, fun j e h => by omega⟩
            case round =>
              obtain ⟨k, hk, rfl, hok⟩ := hrel
              have HO := Lib.hid hok
              have hl2 := HL.out
              clear hok
              by_cases hlt : k < next.length
              · obtain ⟨⟨a, b⟩, he⟩ : ∃ e, next[k]? = some e := ⟨_, List.getElem?_eq_getElem hlt⟩
                obtain ⟨bb, off, rfl, hce⟩ := HC.out (by intro e0; rw [e0] at hlt; simp at hlt)
                obtain ⟨d0, d1⟩ := hce k _ he
                have hbb : bb < w.heap.size := cell_lt d0
                have HE2 := Lib.hid he
                have hk0 : (0 : Int) ≤ (k : Int) := by omega
                have hk1 : (k : Int) < (next.length : Int) := by omega
                clear hce he
                by_cases s0 : b < 0
                · have HS := Lib.hid (HB.out.symm.trans (shape_r2 (x := ⟨kind, prio, chan, (ea, es), next⟩) HE2.out (by simp [shiftB, withinB]; omega)))
                  go_wp2_with fail
                  go_ret
                  exact ⟨by rw [HS.out]; rfl, HG.out _⟩
                · by_cases s1 : 1000 < b
                  · have HS := Lib.hid (HB.out.symm.trans (shape_r2 (x := ⟨kind, prio, chan, (ea, es), next⟩) HE2.out (by simp [shiftB, withinB]; omega)))
                    go_wp2_with fail
                    go_ret
                    exact ⟨by rw [HS.out]; rfl, HG.out _⟩
                  · have HN := Lib.hid (HO.out.next_ HE2.out (by simp [shiftB, withinB]; omega))
                    have s0' : 0 ≤ b := by omega
                    have s1' : b ≤ 1000 := by omega
                    clear s0 s1
                    go_wp2_with fail
                    go_round
                    case rel => exact ⟨k + 1, by omega, by go_num, HN.out⟩
                    case measure => simp [intOf]; omega
              · have hke : k = next.length := by omega
                have HT := Lib.hid (HB.out.symm.trans (shape_r3 (x := ⟨kind, prio, chan, (ea, es), next⟩) HR.out (by have := HO.out; rw [hke] at this; exact this)))
                have hge : (next.length : Int) ≤ (k : Int) := by omega
                clear hke hlt hk h1 h2
                have hkb : 0 ≤ kind ∧ kind ≤ 5 := by simpa [kindB, withinB] using HK.out
                have hc : kind = 0 ∨ kind = 1 ∨ kind = 2 ∨ kind = 3 ∨ kind = 4 ∨ kind = 5 := by omega
                clear hkb
                rcases hc with rfl | rfl | rfl | rfl | rfl | rfl
                all_goals cases chan
                all_goals
                  go_wp2_with fail
                  all_goals
                    go_ret
                    refine ⟨?_, HG.out _⟩
                    rw [HT.out]
                    first | rfl | (simp [tailR, shiftB, withinB, *]; done) | (simp [tailR, shiftB, withinB]; (try simp only [bne_iff_ne, ne_eq, bne_eq_false_iff_eq] at *); intros; omega)
          · have HS := Lib.hid (HB.out.symm.trans (shape_r1 (x := ⟨kind, prio, chan, (ea, es), next⟩) (by simp [headR, h4])))
            go_enter Try.func26, Try.ntmps26
            go_wp2_with (go_at_call 34; go_must (refine (bounds_in _ HK.out _).mono ?_; rintro e w4 ⟨rfl, rfl⟩))
            go_ret
            exact ⟨by rw [HS.out]; rfl, HG.out _⟩
        · have HS := Lib.hid (HB.out.symm.trans (shape_r1 (x := ⟨kind, prio, chan, (ea, es), next⟩) (by simp [headR, h3])))
          go_enter Try.func26, Try.ntmps26
          go_wp2_with (go_at_call 34; go_must (refine (bounds_in _ HK.out _).mono ?_; rintro e w4 ⟨rfl, rfl⟩))
          go_ret
          exact ⟨by rw [HS.out]; rfl, HG.out _⟩
      · have HS := Lib.hid (HB.out.symm.trans (shape_r1 (x := ⟨kind, prio, chan, (ea, es), next⟩) (by simp [headR, h2])))
        go_enter Try.func26, Try.ntmps26
        go_wp2_with (go_at_call 34; go_must (refine (bounds_in _ HK.out _).mono ?_; rintro e w4 ⟨rfl, rfl⟩))
        go_ret
        exact ⟨by rw [HS.out]; rfl, HG.out _⟩
    · have HS := Lib.hid (HB.out.symm.trans (shape_r1 (x := ⟨kind, prio, chan, (ea, es), next⟩) (by simp [headR, h1])))
      go_enter Try.func26, Try.ntmps26
      go_wp2_with (go_at_call 34; go_must (refine (bounds_in _ HK.out _).mono ?_; rintro e w4 ⟨rfl, rfl⟩))
      go_ret
      exact ⟨by rw [HS.out]; rfl, HG.out _⟩
  · have HK : Hid (kindB kind = false) := eq_false_of_ne_true hk
    have HS := Lib.hid (HB.out.symm.trans (shape_r1 (x := ⟨kind, prio, chan, (ea, es), next⟩) (by simp [headR, HK.out])))
    clear hk
    go_enter Try.func26, Try.ntmps26
    go_wp2_with (go_at_call 34; go_must (refine (bounds_out _ HK.out _).mono ?_; rintro e w4 ⟨rfl, rfl⟩))
    go_ret
    exact ⟨by rw [HS.out]; rfl, HG.out _⟩
end Go.Proofs.Ytacjkkhignjmnaa

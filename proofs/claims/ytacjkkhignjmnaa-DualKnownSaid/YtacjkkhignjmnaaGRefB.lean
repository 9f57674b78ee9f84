/- The document's answer for graph: open: what it answers of any node. -/
import Derived.Test.YtacjkkhignjmnaaGRefA
namespace Go.Proofs.Ytacjkkhignjmnaa
open Go.RowKit Go.Shelf

def InOk (n : Nat) (next : List Ed) (k : Nat) : Prop := ∀ j e, j < k → next[j]? = some e → inB n e = true
theorem InOk.next_ {n : Nat} {next : List Ed} {k : Nat} {e : Ed} (h : InOk n next k) (hk : next[k]? = some e) (he : inB n e = true) : InOk n next (k + 1) := fun j y hj hy => by
  by_cases e : j = k
  · subst e; rw [hk] at hy; cases hy; exact he
  · exact h j y (by omega) hy
theorem InOk.all {n : Nat} {next : List Ed} (h : InOk n next next.length) : next.all (inB n) = true := by
  rw [List.all_eq_true]
  intro e he
  obtain ⟨j, hj⟩ := List.mem_iff_getElem?.1 he
  exact h j e (List.getElem?_eq_some_iff.1 hj).1 hj
theorem open_r2 {n k : Nat} {x : Nd} {e : Ed} (hk : x.next[k]? = some e) (h : inB n e = false) : (!(edgesL x).all (inB n)) = true := by
  have : x.next.all (inB n) = false := by
    rw [List.all_eq_false]
    exact ⟨e, List.mem_of_getElem? hk, by simp [h]⟩
  simp only [edgesL, List.all_append, this, Bool.and_false, Bool.not_false]
theorem open_r3 {n : Nat} {x : Nd} (h : x.next.all (inB n) = true) : (!(edgesL x).all (inB n)) = (x.chan && !inB n x.pay) := by
  simp only [edgesL, List.all_append, h, Bool.and_true]
  cases x.chan <;> simp

set_option maxRecDepth 100000 in
set_option maxHeartbeats 2000000 in
theorem open_any (x : Nd) (v : Value) (n : Nat) (w : World) (hE : Edges w v x.next) :
    Calls Try.prog 27 #[ndV x v, .int .i64 (n : Int)] w fun e w' => e = .returned (.bool (!(edgesL x).all (inB n))) ∧ w.grownBy w' none := by
  have HE := Lib.hid hE
  obtain ⟨A, cap, rfl, hlen, hcell⟩ := hE
  have HL := Lib.hid hlen
  have HC := Lib.hid hcell
  have HG : Hid (∀ o, w.grownBy (w.alloc o) none) := fun o => only_alloc (only_refl _ _) _
  clear hlen hcell
  obtain ⟨kind, prio, chan, ⟨ea, es⟩, next⟩ := x
  dsimp only at HE HL HC
  obtain ⟨b0, hb0⟩ : ∃ b0, (!(edgesL ⟨kind, prio, chan, (ea, es), next⟩).all (inB n)) = b0 := ⟨_, rfl⟩
  rw [hb0]
  have HB := Lib.hid hb0
  clear hb0
  go_enter Try.func27, Try.ntmps27
  go_wp2_with fail
  go_loop [5] (fun i => ∃ k : Nat, k ≤ next.length ∧ i = .int .i64 (k : Int) ∧ InOk n next k) (fun i => next.length - (intOf i).toNat)
  case atStart => exact ⟨0, Nat.zero_le _, rfl, fun j e h => by omega⟩
  case round =>
    obtain ⟨k, hk, rfl, hok⟩ := hrel
    have HO := Lib.hid hok
    have hl2 := HL.out
    clear hok
    by_cases hlt : k < next.length
    · obtain ⟨⟨a, b⟩, he⟩ : ∃ e, next[k]? = some e := ⟨_, List.getElem?_eq_getElem hlt⟩
      obtain ⟨bb, off, rfl, hce⟩ := HC.out (by intro e0; rw [e0] at hlt; simp at hlt)
      obtain ⟨d0, d1⟩ := hce k _ he
      have hbb : bb < w.heap.size := cell_lt d0
      have HE2 := Lib.hid he
      have hk0 : (0 : Int) ≤ (k : Int) := by omega
      have hk1 : (k : Int) < (next.length : Int) := by omega
      clear hce he
      by_cases s0 : a < 0
      · have HS := Lib.hid (HB.out.symm.trans (open_r2 (x := ⟨kind, prio, chan, (ea, es), next⟩) HE2.out (by simp [inB, nodeB, withinB]; omega)))
        go_wp2_with fail
        go_ret
        exact ⟨by rw [HS.out]; rfl, HG.out _⟩
      · by_cases s1 : (n : Int) ≤ a
        · have HS := Lib.hid (HB.out.symm.trans (open_r2 (x := ⟨kind, prio, chan, (ea, es), next⟩) HE2.out (by simp [inB, nodeB, withinB]; omega)))
          go_wp2_with fail
          go_ret
          exact ⟨by rw [HS.out]; rfl, HG.out _⟩
        · have HN := Lib.hid (HO.out.next_ HE2.out (by simp [inB, nodeB, withinB]; omega))
          have s0' : 0 ≤ a := by omega
          have s1' : a < (n : Int) := by omega
          clear s0 s1
          go_wp2_with fail
          go_round
          case rel => exact ⟨k + 1, by omega, by go_num, HN.out⟩
          case measure => simp [intOf]; omega
    · have hke : k = next.length := by omega
      have HT := Lib.hid (HB.out.symm.trans (open_r3 (n := n) (x := ⟨kind, prio, chan, (ea, es), next⟩) (InOk.all (by have := HO.out; rw [hke] at this; exact this))))
      have hge : (next.length : Int) ≤ (k : Int) := by omega
      clear hke hlt hk
      cases chan
      · go_wp2_with fail
        go_ret
        exact ⟨by rw [HT.out]; rfl, HG.out _⟩
      · by_cases s0 : ea < 0
        · go_wp2_with fail
          go_ret
          refine ⟨?_, HG.out _⟩
          rw [HT.out]
          simp [inB, nodeB, withinB, *]
        · have s0' : 0 ≤ ea := by omega
          clear s0
          by_cases s1 : (n : Int) ≤ ea
          · go_wp2_with fail
            go_ret
            refine ⟨?_, HG.out _⟩
            rw [HT.out]
            simp [inB, nodeB, withinB, *]
            omega
          · have s1' : ea < (n : Int) := by omega
            clear s1
            go_wp2_with fail
            go_ret
            refine ⟨?_, HG.out _⟩
            rw [HT.out]
            simp [inB, nodeB, withinB, *]
            rw [decide_eq_false (by omega), decide_eq_false (by omega), decide_eq_true (by omega)]; rfl
end Go.Proofs.Ytacjkkhignjmnaa

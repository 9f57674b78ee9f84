/- Stage 8's small: so many nodes at most, of three Next each. -/
import Derived.Test.YtoklaajiajilhaaDoorULaw
import Derived.Test.YtoklaajiajilhaaDoorGMadA
import Derived.Test.YtoklaajiajilhaaDoorOOpc
import Derived.Test.YtoklaajiajilhaaDoorGEdg
import Derived.Lib.Hide
import Derived.LoopTactic
import Derived.Deep.DeepMust
import Derived.Shelf.RegionOpen
namespace Go.Proofs.YtoklaajiajilhaaDoor
open Go.RowKit

theorem Edges.take3 {W : World} {A : Option Addr} {c m : Nat} {es : List Ed} (h : Edges W (.slice A es.length c) es) (hm : m ≤ es.length) : Edges W (.slice A m c) (es.take m) := by
  obtain ⟨A', c', hA, hl, hcl⟩ := h
  simp only [Value.slice.injEq, true_and] at hA
  obtain ⟨rfl, rfl⟩ := hA
  refine ⟨A, c, by rw [List.length_take, Nat.min_eq_left hm], by rw [List.length_take]; omega, fun hn => ?_⟩
  obtain ⟨b, off, hb, hc⟩ := hcl (by intro e; rw [e] at hn; simp at hn)
  refine ⟨b, off, hb, fun i e he => hc i e ?_⟩
  rw [List.getElem?_take] at he
  split at he
  · exact he
  · cases he
/-- What stands in the loop. -/
def SmW (w : World) (xs : List Nd) (k : Nat) (v : Value) (wr : World) : Prop := ∃ ns, ns.length = k ∧ ns.map (·.1) = (xs.take k).map cut3 ∧ OT w.heap.size wr v ns ∧ w.grownBy wr none
theorem sm_next {w wr wc W' : World} {xs : List Nd} {k : Nat} {v v' : Value} {ns : List (Nd × Value)} {x : Nd} {e : Value} {o : Obj} (hx : xs[k]? = some x) (hns : ns.length = k) (hm : ns.map (·.1) = (xs.take k).map cut3) (hot : OT w.heap.size wr v ns) (hg : w.grownBy wr none) (hc : wr.grownBy wc none)
    (hot' : OT w.heap.size W' v' (ns ++ [(cut3 x, e)])) (hgr : (wc.alloc o).grownBy W' v.ownBlock) : SmW w xs (k + 1) v' W' :=
  ⟨_, by simp [hns], by rw [List.map_append, hm, take_len hx, List.map_append]; rfl, hot', grown_own (only_alloc (only_trans hg hc) o) (fun g e => (own_row hot.row g e).1) hgr⟩

set_option maxRecDepth 100000 in
set_option maxHeartbeats 2000000 in
theorem small_any (xs : List Nd) (A : Option Addr) (c n : Nat) (hn : n ≤ 100) (w : World) (hT : TblC w (.slice A xs.length c) xs) :
    Calls Tryd.prog 7 #[.slice A xs.length c, .int .i64 (n : Int)] w fun e w' => (∃ v ns, e = .returned v ∧ OT w.heap.size w' v ns ∧ ns.map (·.1) = smallL xs n) ∧ w.grownBy w' none := by
  have HT := Lib.hid hT
  clear hT
  have H0 : Hid (SmW w xs 0 (.slice none 0 0) w) := ⟨[], rfl, rfl, OT.start _ _, only_refl _ _⟩
  go_enter Tryd.func7, Tryd.ntmps7
  go_wp2_with fail
  go_loopw [5, 6] (fun v i wr => ∃ k : Nat, k ≤ xs.length ∧ k ≤ n ∧ i = .int .i64 (k : Int) ∧ SmW w xs k v wr) (fun _ i _ => n - (intOf i).toNat)
  case atStart => exact ⟨0, Nat.zero_le _, Nat.zero_le _, rfl, H0.out⟩
  case round =>
    clear H0
    obtain ⟨k, hk, hk5, rfl, ns, hns, hm, hot, hg⟩ := hrel
    have HO := Lib.hid hot
    have HG := Lib.hid hg
    have HNS := Lib.hid hns
    have HM := Lib.hid hm
    clear hot hg hns hm
    by_cases hlt : k < xs.length
    · by_cases h5 : k < n
      · have hk0 : (0 : Int) ≤ (k : Int) := by omega
        have hk1 : (k : Int) < (xs.length : Int) := by omega
        have hk2 : (k : Int) < (n : Int) := by omega
        obtain ⟨x, hx⟩ : ∃ x, xs[k]? = some x := ⟨_, List.getElem?_eq_getElem hlt⟩
        have HX := Lib.hid hx
        obtain ⟨A', c', hA, hcl⟩ := HT.out
        obtain ⟨bb, off, hAb, hcl2⟩ := hcl (by intro e0; rw [e0] at hlt; simp at hlt)
        obtain ⟨⟨v', hE, m0, m1, m2, m3, m4, m5⟩, hcap⟩ := hcl2 k x hx
        obtain ⟨rfl, rfl⟩ : A = A' ∧ c = c' := by simpa using hA
        subst hAb
        clear hA hcl hcl2 hx
        obtain ⟨kind, prio, chan, ⟨pa, ps⟩, next⟩ := x
        dsimp only at m0 m1 m2 m3 m4 m5 hE
        have hE3 := hE
        obtain ⟨A2, c2, rfl, hl3, _⟩ := hE3
        have hc2 := hcap _ _ _ m5
        have n0 := Keeps.grown HG.out _ _ m0
        have n1 := Keeps.grown HG.out _ _ m1
        have n2 := Keeps.grown HG.out _ _ m2
        have n3 := Keeps.grown HG.out _ _ m3
        have n4 := Keeps.grown HG.out _ _ m4
        have n5 := Keeps.grown HG.out _ _ m5
        have HN1 : Hid (ns.length ≤ 1000) := show _ ≤ _ by have := HNS.out; omega
        have HB1 : Hid (w.heap.size ≤ wr.heap.size) := HG.out.size
        have hlI : (next.length : Int) ≤ 9223372036854775807 := by omega
        by_cases h9 : next.length ≤ 3
        · have h9' : (next.length : Int) ≤ 3 := by omega
          have HE : Hid (EdgesO w.heap.size wr (.slice A2 next.length c2) (next.take 3)) := by
            rw [List.take_of_length_le h9]
            exact (hE.old (Nat.le_refl _)).kept HG.out
          clear hE m0 m1 m2 m3 m4 m5 hcap
          go_wp2_with (at_builtin; refine wpList_append_node (nd := ⟨kind, prio, chan, (pa, ps), next.take 3⟩) rfl (.tmp 31) (.tmp 33) rfl rfl rfl ((HO.out.kept (only_alloc (only_refl _ _) _)).kept (only_alloc (only_refl _ _) _)) (blk_at (by simp) _ _) ((HE.out.kept (only_alloc (only_refl _ _) _)).kept (only_alloc (only_refl _ _) _)) HN1.out (by have := HB1.out; simp; omega) ?_; intro v2 W2 hot2 hgr2; have HOT2 := Lib.hid hot2; have HGR2 := Lib.hid hgr2; clear hot2 hgr2)
          go_roundw
          case rel => exact ⟨k + 1, by omega, by omega, by go_num, sm_next HX.out HNS.out HM.out HO.out HG.out (only_alloc (only_refl _ _) _) HOT2.out HGR2.out⟩
          case measure => simp [intOf]; omega
        · have h9' : (3 : Int) < (next.length : Int) := by omega
          have HE : Hid (EdgesO w.heap.size wr (.slice A2 3 c2) (next.take 3)) := ((hE.take3 (by omega)).old (Nat.le_refl _)).kept HG.out
          clear hE m0 m1 m2 m3 m4 m5 hcap
          go_wp2_with (at_builtin; refine wpList_append_node (nd := ⟨kind, prio, chan, (pa, ps), next.take 3⟩) rfl (.tmp 31) (.tmp 33) rfl rfl rfl ((HO.out.kept (only_alloc (only_refl _ _) _)).kept (only_alloc (only_refl _ _) _)) (blk_at (by simp) _ _) ((HE.out.kept (only_alloc (only_refl _ _) _)).kept (only_alloc (only_refl _ _) _)) HN1.out (by have := HB1.out; simp; omega) ?_; intro v2 W2 hot2 hgr2; have HOT2 := Lib.hid hot2; have HGR2 := Lib.hid hgr2; clear hot2 hgr2)
          go_roundw
          case rel => exact ⟨k + 1, by omega, by omega, by go_num, sm_next HX.out HNS.out HM.out HO.out HG.out (only_alloc (only_refl _ _) _) HOT2.out HGR2.out⟩
          case measure => simp [intOf]; omega
      · have hk2 : (n : Int) ≤ (k : Int) := by omega
        have hk1 : (k : Int) < (xs.length : Int) := by omega
        have HF : Hid (xs.take k = xs.take n) := show _ = _ by rw [show k = n by omega]
        go_wp2_with fail
        go_ret
        exact ⟨⟨_, ns, rfl, HO.out, by rw [HM.out, HF.out]; rfl⟩, HG.out⟩
    · have hge : (xs.length : Int) ≤ (k : Int) := by omega
      have HF : Hid (xs.take k = xs.take n) := show _ = _ by rw [List.take_of_length_le (by omega), List.take_of_length_le (by omega)]
      go_wp2_with fail
      go_ret
      exact ⟨⟨_, ns, rfl, HO.out, by rw [HM.out, HF.out]; rfl⟩, HG.out⟩
end Go.Proofs.YtoklaajiajilhaaDoor

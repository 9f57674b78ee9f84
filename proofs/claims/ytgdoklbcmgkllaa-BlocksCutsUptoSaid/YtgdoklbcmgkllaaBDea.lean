/- blocks: firstDead. -/
import Derived.Test.YtgdoklbcmgkllaaBFlo
namespace Go.Proofs.Ytgdoklbcmgkllaa
open Go.RowKit

def bsG (n : Nat) (f : Nat → Bool) : List Bool := (List.range n).map f
theorem bsG_len {n : Nat} {f : Nat → Bool} : (bsG n f).length = n := by simp [bsG]
theorem bsG_at {n : Nat} {f : Nat → Bool} {j : Nat} (h : j < n) : (bsG n f)[j]? = some (f j) := by
  unfold bsG
  rw [List.getElem?_map, List.getElem?_range h]
  rfl
theorem bsG_set {n : Nat} {f : Nat → Bool} {t : Nat} : (bsG n f).set t true = bsG n (fun j => f j || j == t) := by
  apply List.ext_getElem?
  intro j
  by_cases hj : j < n
  · rw [bsG_at hj]
    by_cases e : t = j
    · subst e
      rw [List.getElem?_set_self (by rw [bsG_len]; exact hj)]
      simp
    · rw [List.getElem?_set_ne e, bsG_at hj]
      have : (j == t) = false := by simp; omega
      simp [this]
  · rw [List.getElem?_eq_none (by rw [List.length_set, bsG_len]; omega), List.getElem?_eq_none (by rw [bsG_len]; omega)]
theorem bsG_fn {n : Nat} {f f' : Nat → Bool} (h : ∀ j, f j = f' j) : bsG n f = bsG n f' := by
  have : f = f' := funext h
  subst this
  rfl
theorem bsG_false (m : Nat) : List.replicate m false = bsG m (fun _ => false) := by
  apply List.ext_getElem?
  intro j
  by_cases hj : j < m
  · rw [bsG_at hj, List.getElem?_replicate, if_pos hj]
  · rw [List.getElem?_eq_none (by simp; omega), List.getElem?_eq_none (by rw [bsG_len]; omega)]
/-- Which blocks were met, as the first k blocks and of the next one j numbers tell. -/
def metK (cs : List Bi) (k j b : Nat) : Bool := b == 0 || ((List.range k).any fun a => decide (a < b) && (nextB cs a).contains b) || (decide (k < b) && ((nextB cs k).take j).contains b)
theorem met_zero (cs : List Bi) (b : Nat) : metK cs 0 0 b = (b == 0) := by simp [metK]
theorem met_next {cs : List Bi} {k : Nat} (b : Nat) : metK cs (k + 1) 0 b = metK cs k (nextB cs k).length b := by
  unfold metK
  rw [List.range_succ, List.any_append, List.take_length]
  simp [Bool.or_assoc]
theorem met_step {cs : List Bi} {k j t : Nat} (h : (nextB cs k)[j]? = some t) (b : Nat) : metK cs k (j + 1) b = (metK cs k j b || (decide (k < t) && b == t)) := by
  unfold metK
  rw [List.take_add_one, h]
  simp only [Option.toList_some, List.contains_append]
  by_cases e : b = t
  · subst e
    cases decide (k < b) <;> simp
  · have e1 : (b == t) = false := by simp [e]
    have e2 : ([t].contains b) = false := by simp [e]
    rw [e1, e2]
    simp
theorem met_all {cs : List Bi} {b : Nat} (hb : b < (startsL cs).length) : metK cs (startsL cs).length 0 b = !deadB cs b := by
  have e1 : deadB cs b = (decide (0 < b) && !((List.range (startsL cs).length).any fun a => decide (a < b) && (nextB cs a).contains b)) := by
    unfold deadB
    congr 2
    rw [Bool.eq_iff_iff]
    simp only [List.any_eq_true, List.mem_range, Bool.and_eq_true, decide_eq_true_iff]
    constructor
    · rintro ⟨a, h1, h2⟩
      exact ⟨a, by omega, h1, h2⟩
    · rintro ⟨a, h1, h2, h3⟩
      exact ⟨a, h2, h3⟩
  rw [e1]
  unfold metK
  cases b with
  | zero => simp
  | succ b => simp
def deadZ (cs : List Bi) : Int := match (List.range (startsL cs).length).find? (deadB cs) with
  | some b => (((startsL cs).getD b 0 : Nat) : Int)
  | none => -1
theorem index_dead (cs : List Bi) : indexF (bsG (startsL cs).length (metK cs (startsL cs).length 0)) = match (List.range (startsL cs).length).find? (deadB cs) with
  | some b => (b : Int)
  | none => -1 := by
  unfold indexF
  rw [bsG_len]
  have e : (List.range (startsL cs).length).find? (fun i => !((bsG (startsL cs).length (metK cs (startsL cs).length 0)).getD i true)) = (List.range (startsL cs).length).find? (deadB cs) := by
    have h : ∀ i ∈ List.range (startsL cs).length, (!((bsG (startsL cs).length (metK cs (startsL cs).length 0)).getD i true)) = deadB cs i := fun i hi => by
      have hi' := List.mem_range.1 hi
      rw [List.getD_eq_getElem?_getD, bsG_at hi', Option.getD_some, met_all hi', Bool.not_not]
    generalize List.range (startsL cs).length = L at h
    induction L with
    | nil => rfl
    | cons a l ih =>
      rw [List.find?_cons, List.find?_cons, h a (by simp), ih (fun i hi => h i (by simp [hi]))]
  rw [e]
  cases List.find? (deadB cs) (List.range (startsL cs).length) <;> rfl
theorem next_lt {cs : List Bi} (hj : ∀ i x, cs[i]? = some x → jumpX cs.length i x = true) {k t : Nat} (hk : k < (startsL cs).length) (h : t ∈ nextB cs k) : t < (startsL cs).length := by
  unfold nextB at h
  obtain ⟨u, hu, rfl⟩ := List.mem_map.1 h
  exact (List.getElem?_eq_some_iff.1 (next_at hj (List.getElem?_eq_getElem hk) hu).1).1
set_option maxRecDepth 100000 in
set_option maxHeartbeats 4000000 in
theorem firstDead_any (cs : List Bi) (v : Value) (w : World) (h1 : 1 ≤ cs.length) (hF : FlowA w v (flowB cs)) (hl : ∀ x ∈ cs, x.2.length ≤ 1048576) (hn : cs.length ≤ 128) (hj : ∀ i x, cs[i]? = some x → jumpX cs.length i x = true) : Calls Try.prog 11 #[v] w fun e w' => e = .returned (.int .i64 (deadZ cs)) ∧ w.grownBy w' none := by
  obtain ⟨sv, nv, rfl, hs, hnx⟩ := hF
  obtain ⟨A1, c1, rfl, _⟩ := id hs
  obtain ⟨A2, c2, rfl, _⟩ := id hnx
  have HS := Lib.hid hs
  have HNX := Lib.hid hnx
  have HL := Lib.hid hl
  have HJ := Lib.hid hj
  have hsn := starts_le cs
  obtain ⟨sl, hsl⟩ := starts_ne h1
  obtain ⟨m, hm⟩ : ∃ m, (startsL cs).length = m := ⟨_, rfl⟩
  have hm1 : 1 ≤ m := by rw [← hm, hsl]; simp
  have hzm : (intsN (startsL cs)).length = m := by simp [intsN, hm]
  have hnm : ((flowB cs).2.map intsN).length = m := by simp [hm]
  have hmI : (m : Int) ≤ 128 := by omega
  have hm0 : (0 : Int) < (m : Int) := by omega
  have HM := Lib.hid hm
  show Calls _ _ #[.agg #[.slice A1 (intsN (startsL cs)).length c1, .slice A2 ((flowB cs).2.map intsN).length c2]] w _
  rw [hzm, hnm]
  clear hs hnx hl hj hsl hm
  go_enter Try.func11, Try.ntmps11
  have hg0 : w.grownBy (w.alloc (.cells #[.slice A1 m c1, .slice A2 m c2] 27)) none := only_alloc (only_refl _ _) _
  have hb0 : Blk (w.alloc (.cells #[.slice A1 m c1, .slice A2 m c2] 27)) w.heap.size 27 #[.slice A1 m c1, .slice A2 m c2] := Blk.new _ _ _
  have HG0 := Lib.hid hg0
  have HB0 := Lib.hid hb0
  clear hg0 hb0
  go_upto_region 2 with (at_make; (refine wpList_make_bs rfl (.tmp 11) (.tmp 11) rfl rfl rfl (n := m) rfl (by omega) ?_; intro W3 hb3 hg3 hs3; rw [bsV_false, bsG_false] at hb3; have hb4 : Blk W3 (w.heap.size + 1) 4 (bsV (bsG m (fun _ => false))) := (by simpa using hb3); have HB3 := Lib.hid hb4; have HG3 := Lib.hid (only_trans HG0.out hg3); have HF3 := Lib.hid (HB0.out.kept hg3); have hs4 : W3.heap.size = w.heap.size + 2 := (by rw [hs3]; simp); clear hb3 hb4 hg3 hs3))
  have q0 : W3.cell? ⟨w.heap.size + 1, 0, none⟩ = some (.bool false) := by rw [HB3.out.cell 0, bsV_at (bsG_at (by omega))]
  have f0 := HB3.out.frozen 0
  have hg4 : w.grownBy (W3.setCell ⟨w.heap.size + 1, 0, none⟩ (.bool true)) none := only_setNew HG3.out (Nat.le_succ _) _
  have hb4 : Blk (W3.setCell ⟨w.heap.size + 1, 0, none⟩ (.bool true)) (w.heap.size + 1) 4 (bsV (bsG m (metK cs 0 0))) := by
    have := HB3.out.set_ 0 (.bool true)
    rw [bsV_set, bsG_set, bsG_fn (f' := metK cs 0 0) (fun j => by rw [met_zero]; simp)] at this
    exact this
  have hf4 : Blk (W3.setCell ⟨w.heap.size + 1, 0, none⟩ (.bool true)) w.heap.size 27 #[.slice A1 m c1, .slice A2 m c2] := HF3.out.far (p := ⟨w.heap.size + 1, 0, none⟩) (by show w.heap.size ≠ w.heap.size + 1; omega) _
  have HG4 := Lib.hid hg4
  have HB4 := Lib.hid hb4
  have HF4 := Lib.hid hf4
  have e0 : (W3.setCell ⟨w.heap.size + 1, 0, none⟩ (.bool true)).cell? ⟨w.heap.size, 1, none⟩ = some (.slice A2 m c2) := hf4.cell 1
  have hs5 : (W3.setCell ⟨w.heap.size + 1, 0, none⟩ (.bool true)).heap.size = w.heap.size + 2 := by simp [hs4]
  clear hg4 hb4 hf4 HB3 HG3 HF3 HG0 HB0
  go_upto_region 3 with fail
  clear q0 f0
  generalize W3.setCell ⟨w.heap.size + 1, 0, none⟩ (.bool true) = W4 at *
  clear hs4
  go_wp2_with fail
  go_loopw [18] (fun z wr => ∃ k : Nat, k ≤ m ∧ z = .int .i64 (k : Int) ∧ w.grownBy wr none ∧ Blk wr w.heap.size 27 #[.slice A1 m c1, .slice A2 m c2] ∧ Blk wr (w.heap.size + 1) 4 (bsV (bsG m (metK cs k 0)))) (fun z _ => m - (intOf z).toNat)
  case atStart => exact ⟨0, Nat.zero_le _, rfl, HG4.out, HF4.out, HB4.out⟩
  case round =>
    obtain ⟨k, hk, rfl, hg, hf, hb⟩ := hrel
    by_cases hlt : k < m
    · have hk0 : (0 : Int) ≤ (k : Int) := by omega
      have hk1 : (k : Int) < (m : Int) := by omega
      have hnk := HNX.out.kept hg
      rw [hnm] at hnk
      obtain ⟨b2, o2, A5, c5, rfl, hlv, hib⟩ := hnk.at_ (i := k) (l := intsN (nextB cs k)) (by
        rw [List.getElem?_map]
        show ((List.map (nextB cs) (List.range (startsL cs).length))[k]?).map intsN = _
        rw [List.getElem?_map, List.getElem?_range (by rw [HM.out]; exact hlt)]
        rfl)
      obtain ⟨n5, hn5⟩ : ∃ n5, (nextB cs k).length = n5 := ⟨_, rfl⟩
      have hn6 : (intsN (nextB cs k)).length = n5 := by simp [intsN, hn5]
      rw [hn6] at hlv hib
      have hn7 : n5 ≤ 1048577 := by
        rw [← hn5]
        unfold nextB
        rw [List.length_map]
        exact goesN_length HL.out
      have hn8 : (n5 : Int) ≤ 1048577 := by omega
      have HG := Lib.hid hg
      have HF := Lib.hid hf
      have HB := Lib.hid hb
      have HIB := Lib.hid hib
      have HN5 := Lib.hid hn5
      clear hg hf hb hib hnk hn5
      go_wp2_with fail
      go_loopw [25] (fun z wr2 => ∃ j : Nat, j ≤ n5 ∧ z = .int .i64 (j : Int) ∧ w.grownBy wr2 none ∧ Blk wr2 w.heap.size 27 #[.slice A1 m c1, .slice (some ⟨b2, o2, none⟩) m c2] ∧ IB wr2 (.slice A5 n5 c5) (intsN (nextB cs k)) ∧ Blk wr2 (w.heap.size + 1) 4 (bsV (bsG m (metK cs k j)))) (fun z _ => n5 - (intOf z).toNat)
      case atStart => exact ⟨0, Nat.zero_le _, rfl, HG.out, HF.out, HIB.out, HB.out⟩
      case round =>
        obtain ⟨j, hj, rfl, hg, hf, hib, hb⟩ := hrel
        by_cases hjlt : j < n5
        · have hj0 : (0 : Int) ≤ (j : Int) := by omega
          have hj1 : (j : Int) < (n5 : Int) := by omega
          obtain ⟨t, ht⟩ : ∃ t, (nextB cs k)[j]? = some t := ⟨_, List.getElem?_eq_getElem (by rw [HN5.out]; exact hjlt)⟩
          have htm : t < m := by rw [← HM.out]; exact next_lt HJ.out (by rw [HM.out]; exact hlt) (List.mem_of_getElem? ht)
          have htI : (t : Int) < (m : Int) := by omega
          have ht0 : (0 : Int) ≤ (t : Int) := by omega
          obtain ⟨b6, o6, rfl, c0⟩ := hib.at_ (i := j) (z := (t : Int)) (by unfold intsN; rw [List.getElem?_map, ht]; rfl)
          have q0 : wr.cell? ⟨w.heap.size + 1, t, none⟩ = some (.bool (metK cs k j t)) := by rw [hb.cell t, bsV_at (bsG_at htm)]
          have f0 := hb.frozen t
          have hms := met_step ht
          have HG9 := Lib.hid hg
          have HF9 := Lib.hid hf
          have HB9 := Lib.hid hb
          have HIB9 := Lib.hid hib
          have HMS := Lib.hid hms
          clear hg hf hb hib ht hms
          by_cases hkt : k < t
          · have hktI : (k : Int) < (t : Int) := by omega
            have hb4 : Blk (wr.setCell ⟨w.heap.size + 1, t, none⟩ (.bool true)) (w.heap.size + 1) 4 (bsV (bsG m (metK cs k (j + 1)))) := by
              have := HB9.out.set_ t (.bool true)
              rw [bsV_set, bsG_set, bsG_fn (f' := metK cs k (j + 1)) (fun b => by rw [HMS.out b, decide_eq_true hkt, Bool.true_and])] at this
              exact this
            have hf4 : Blk (wr.setCell ⟨w.heap.size + 1, t, none⟩ (.bool true)) w.heap.size 27 #[.slice A1 m c1, .slice (some ⟨b2, o2, none⟩) m c2] := HF9.out.far (p := ⟨w.heap.size + 1, t, none⟩) (by show w.heap.size ≠ w.heap.size + 1; omega) _
            have hib4 : IB (wr.setCell ⟨w.heap.size + 1, t, none⟩ (.bool true)) (.slice (some ⟨b6, o6, none⟩) n5 c5) (intsN (nextB cs k)) := HIB9.out.row (only_setCell (g := w.heap.size + 1) (p := ⟨w.heap.size + 1, t, none⟩) (only_refl _ _) rfl _) (fun g e => by injection e with e; subst e; exact ⟨_, _, HB9.out, by decide⟩)
            have hg4 := only_setNew HG9.out (p := ⟨w.heap.size + 1, t, none⟩) (by show w.heap.size ≤ w.heap.size + 1; omega) (.bool true)
            have HB10 := Lib.hid hb4
            have HF10 := Lib.hid hf4
            have HIB10 := Lib.hid hib4
            have HG10 := Lib.hid hg4
            clear hb4 hf4 hib4 hg4
            go_wp2_with fail
            go_roundw
            case rel => exact ⟨j + 1, by omega, by go_num, HG10.out, HF10.out, HIB10.out, HB10.out⟩
            case measure => simp [intOf]; omega
          · have hktI : (t : Int) ≤ (k : Int) := by omega
            have hb4 : Blk wr (w.heap.size + 1) 4 (bsV (bsG m (metK cs k (j + 1)))) := by
              rw [bsG_fn (f := metK cs k (j + 1)) (f' := metK cs k j) (fun b => by rw [HMS.out b, decide_eq_false hkt, Bool.false_and, Bool.or_false])]
              exact HB9.out
            have HB10 := Lib.hid hb4
            clear hb4
            go_wp2_with fail
            go_roundw
            case rel => exact ⟨j + 1, by omega, by go_num, HG9.out, HF9.out, HIB9.out, HB10.out⟩
            case measure => simp [intOf]; omega
        · have hjge : (n5 : Int) ≤ (j : Int) := by omega
          obtain rfl : j = n5 := by omega
          have hb4 : Blk wr (w.heap.size + 1) 4 (bsV (bsG m (metK cs (k + 1) 0))) := by
            rw [bsG_fn (f := metK cs (k + 1) 0) (f' := metK cs k j) (fun b => by rw [met_next b, HN5.out])]
            exact hb
          have HB10 := Lib.hid hb4
          have HG9 := Lib.hid hg
          have HF9 := Lib.hid hf
          clear hg hf hb hib hb4 hj
          go_wp2_with fail
          go_roundw
          case rel => exact ⟨k + 1, by omega, by go_num, HG9.out, HF9.out, HB10.out⟩
          case measure => simp [intOf]; omega
    · have hge : (m : Int) ≤ (k : Int) := by omega
      obtain rfl : k = m := by omega
      have hix := fun W hb => index_any (w.heap.size + 1) (bsG k (metK cs k 0)) W hb (by rw [bsG_len]; omega)
      rw [bsG_len] at hix
      have hid := index_dead cs
      rw [HM.out] at hid
      rw [hid] at hix
      have HDZ : Hid (deadZ cs = match (List.range k).find? (deadB cs) with
        | some b => (((startsL cs).getD b 0 : Nat) : Int)
        | none => -1) := Lib.hid (by unfold deadZ; rw [HM.out])
      have HG := Lib.hid hg
      have HF := Lib.hid hf
      have HB := Lib.hid hb
      clear hg hf hb hid hlt hk
      cases hfd : (List.range k).find? (deadB cs) with
      | none =>
        rw [hfd] at hix HDZ
        go_wp2_with fail
        refine (hix _ HB.out).mono ?_
        rintro e w5 ⟨rfl, hg5⟩
        have HG5 := Lib.hid (only_trans HG.out hg5)
        clear hg5 hix
        go_wp2_with fail
        go_ret
        exact ⟨by rw [HDZ.out]; rfl, HG5.out⟩
      | some b =>
        rw [hfd] at hix HDZ
        have hbk : b < k := (find_first hfd).1
        have hbI : (b : Int) < (k : Int) := by omega
        have hb0 : (0 : Int) ≤ (b : Int) := by omega
        obtain ⟨s, hs⟩ : ∃ s, (startsL cs)[b]? = some s := ⟨_, List.getElem?_eq_getElem (by rw [HM.out]; exact hbk)⟩
        have HO : Hid (deadZ cs = (s : Int)) := Lib.hid (by rw [HDZ.out]; show (((startsL cs).getD b 0 : Nat) : Int) = _; rw [List.getD_eq_getElem?_getD, hs]; rfl)
        have HSS := Lib.hid hs
        clear hfd hs
        go_wp2_with fail
        refine (hix _ HB.out).mono ?_
        rintro e w5 ⟨rfl, hg5⟩
        have HG5 := Lib.hid (only_trans HG.out hg5)
        have e0 : w5.cell? ⟨w.heap.size, 0, none⟩ = some (.slice A1 k c1) := (HF.out.kept hg5).cell 0
        have hs9 := HS.out.kept HG5.out
        have hzk : (intsN (flowB cs).1).length = k := hzm
        rw [hzk] at hs9
        obtain ⟨b9, o9, rfl, c0⟩ := hs9.at_ (i := b) (z := (s : Int)) (by show (intsN (startsL cs))[b]? = _; unfold intsN; rw [List.getElem?_map, HSS.out]; rfl)
        clear hg5 hix hs9 hzk
        go_wp2_with fail
        go_ret
        exact ⟨by rw [HO.out]; rfl, HG5.out⟩
end Go.Proofs.Ytgdoklbcmgkllaa

/- Texts joined for the claim's sake: SSml, SAdL. -/
import Derived.Test.YtmhbmeckdbdhpaaZSAddRow46
namespace Go.Proofs.Ytmhbmeckdbdhpaa
open Go.RowKit Go.Shelf Rg

/-- A state of small numbers. -/
structure SmT (s : StT) : Prop where
  len : s.regs.length = 16
  lv : -1000 < s.lv ∧ s.lv < 1000
  prio : ∀ x ∈ s.regs, -1000 < x.prio ∧ x.prio < 1000
structure SmI (k : Nat) (z : StT) : Prop where
  len : z.regs.length = 16
  lv : -1000 < z.lv ∧ z.lv < 1000
  prio : ∀ (j : Nat) (x : Slt), j < k → z.regs[j]? = some x → -1000 < x.prio ∧ x.prio < 1000
theorem SmI.next {k : Nat} {z : StT} (h : SmI k z) {y : Slt} (hk : k < 16) (hy : -1000 < y.prio ∧ y.prio < 1000) : SmI (k + 1) { z with regs := z.regs.set k y } := by
  refine ⟨by show (z.regs.set k y).length = 16; rw [List.length_set]; exact h.len, h.lv, fun j x hj hx => ?_⟩
  have hx' : (z.regs.set k y)[j]? = some x := hx
  rw [List.getElem?_set] at hx'
  split at hx'
  · rw [if_pos (by rw [h.len]; omega)] at hx'
    cases hx'
    exact hy
  · exact h.prio j x (by omega) hx'
theorem SmI.all {z : StT} (h : SmI 16 z) : SmT z := ⟨h.len, h.lv, fun x hx => by
  obtain ⟨j, hj⟩ := List.mem_iff_getElem?.1 hx
  exact h.prio j x (by have := (List.getElem?_eq_some_iff.1 hj).1; have := h.len; omega) hj⟩
theorem tmod_small (z : Int) : -1000 < z.tmod 1000 ∧ z.tmod 1000 < 1000 := ⟨Int.lt_tmod_of_pos _ (by omega), Int.tmod_lt_of_pos _ (by omega)⟩
theorem FuI.slot {w W : World} {b i : Nat} {vc vo vp vq : Value} {z : StT} (h : FuI w b vc vo vp vq z W) (hb : w.heap.size ≤ b) (hi : i < z.regs.length) (k c p : Int) :
    FuI w b vc vo vp vq { z with regs := z.regs.set i ⟨k, c, p⟩ } (((W.setCell ⟨b + 1, 2 + i * 3, none⟩ (.int .i64 k)).setCell ⟨b + 1, 2 + i * 3 + 1, none⟩ (.int .i64 c)).setCell ⟨b + 1, 2 + i * 3 + 2, none⟩ (.int .i64 p)) := by
  have hst := StB.setSlot h.s hi k c p
  have h1 : W.grownBy (W.setCell ⟨b + 1, 2 + i * 3, none⟩ (.int .i64 k)) (some (b + 1)) := only_setCell (only_refl _ _) rfl _
  generalize W.setCell ⟨b + 1, 2 + i * 3, none⟩ (.int .i64 k) = W1 at *
  have h2 : W.grownBy (W1.setCell ⟨b + 1, 2 + i * 3 + 1, none⟩ (.int .i64 c)) (some (b + 1)) := only_setCell h1 rfl _
  generalize W1.setCell ⟨b + 1, 2 + i * 3 + 1, none⟩ (.int .i64 c) = W2 at *
  have hs : W.grownBy (W2.setCell ⟨b + 1, 2 + i * 3 + 2, none⟩ (.int .i64 p)) (some (b + 1)) := only_setCell h2 rfl _
  generalize W2.setCell ⟨b + 1, 2 + i * 3 + 2, none⟩ (.int .i64 p) = W3 at *
  exact ⟨only_new h.gr hs (by omega), h.f.grown hs (fun e => by injection e with e; omega), hst, Blk.grown h.r hs (fun e => by injection e with e; omega)⟩
set_option maxRecDepth 100000 in
set_option maxHeartbeats 4000000 in
theorem small_any (xs : List Nd) (vc vo vp vq : Value) (s : StT) (w : World) (hT : Tbl w vc xs) (hl : xs.length ≤ 1000000) (hs : s.regs.length = 16) :
    Calls Try.prog 14 #[.agg #[vc, vo, vp, vq], stV s] w fun e w' => (∃ z, e = .returned (stV z) ∧ SmT z) ∧ w.grownBy w' none := by
  have HT := Lib.hid hT
  have HL := Lib.hid hl
  have HS := Lib.hid hs
  obtain ⟨A, c, rfl, _⟩ := hT
  have hlI : (xs.length : Int) ≤ 1000000 := by omega
  clear hl hs
  go_enter Try.func14, Try.ntmps14
  go_upto_region 1 with fail
  rw [← zero_st]
  obtain ⟨W0, hW0⟩ : ∃ W0, (((w.alloc (.cells #[.slice A xs.length c, vo, vp, vq] 35)).alloc (.cells (stC s) 45)).alloc (.cells (stC zeroT) 45)) = W0 := ⟨_, rfl⟩
  have hg0 : Hid (w.grownBy W0 none) := Lib.hid (by rw [← hW0]; exact only_alloc (only_alloc (only_alloc (only_refl _ _) _) _) _)
  have HBF : Hid (Blk W0 w.heap.size 35 #[.slice A xs.length c, vo, vp, vq]) := Lib.hid (by rw [← hW0]; exact ((Blk.new _ _ _).alloc _).alloc _)
  have hb3 : StB W0 (w.heap.size + 1) s := by rw [← hW0]; exact (blk_at (by simp) _ _).alloc _
  have HB4 : Hid (StB W0 (w.heap.size + 1 + 1) zeroT) := Lib.hid (by rw [← hW0]; exact blk_at (by simp) _ _)
  rw [hW0]
  clear hW0
  have c0 := StB.lv hb3
  have f0 := hb3.frozen 0
  have hlt := cell_lt c0
  have HW1 : Hid (∃ z, SmI 0 z ∧ FuI w w.heap.size (.slice A xs.length c) vo vp vq z (W0.setCell ⟨w.heap.size + 1, 0, none⟩ (.int .i64 (s.lv.tmod 1000)))) := by
    have hsc : W0.grownBy (W0.setCell ⟨w.heap.size + 1, 0, none⟩ (.int .i64 (s.lv.tmod 1000))) (some (w.heap.size + 1)) := only_setCell (only_refl _ _) rfl _
    exact Lib.hid ⟨{ s with lv := s.lv.tmod 1000 }, ⟨HS.out, tmod_small _, fun j x hj => by omega⟩, only_new hg0.out hsc (by omega), HBF.out.grown hsc (fun e => by injection e with e; omega), StB.setLv hb3 _, Blk.grown HB4.out hsc (fun e => by injection e with e; omega)⟩
  clear hb3
  go_upto_region 2 with fail
  generalize World.setCell W0 _ _ = W1 at *
  clear c0 f0 hlt hg0 HBF HB4
  go_wp2_with fail
  go_loopw [5] (fun i wr => ∃ k : Nat, k ≤ 16 ∧ i = .int .i64 (k : Int) ∧ ∃ z, SmI k z ∧ FuI w w.heap.size (.slice A xs.length c) vo vp vq z wr) (fun i _ => 16 - (intOf i).toNat)
  case atStart => exact ⟨0, Nat.zero_le _, rfl, HW1.out⟩
  case round =>
    clear HW1
    obtain ⟨k, hk, rfl, z, hz, hi⟩ := hrel
    have hk0 : (0 : Int) ≤ (k : Int) := by omega
    have HI := Lib.hid hi
    have HZ := Lib.hid hz
    clear hi hz
    by_cases hlt : k < 16
    · have hk1 : (k : Int) < 16 := by omega
      obtain ⟨x, hx⟩ : ∃ x, z.regs[k]? = some x := ⟨_, List.getElem?_eq_getElem (by rw [HZ.out.len]; exact hlt)⟩
      obtain ⟨r0, r1, r2⟩ := StB.reg HI.out.s hx
      have q0 := HI.out.f.cell 0
      have l0 := cell_lt r0
      have lq := cell_lt q0
      have fr0 := HI.out.s.frozen (2 + k * 3)
      have fr1 := HI.out.s.frozen (2 + k * 3 + 1)
      have fr2 := HI.out.s.frozen (2 + k * 3 + 2)
      obtain ⟨xk, xc, xp⟩ := x
      dsimp only at r0 r1 r2
      clear hx
      go_wp2_with fail
      refine ⟨⟨k + 1, by omega, by go_num, _, HZ.out.next (y := ⟨_, _, xp.tmod 1000⟩) hlt (tmod_small _), (HI.out.slot (Nat.le_refl _) (by rw [HZ.out.len]; exact hlt) _ _ _).kept (only_alloc (only_refl _ _) _)⟩, ?_⟩
      simp [intOf]; omega
    · have hke : k = 16 := by omega
      subst hke
      have HSF := Lib.hid HZ.out.len
      have HB1 : Hid (StB wr (w.heap.size + 1) z) := Lib.hid HI.out.s
      have HB2 := Lib.hid HI.out.r
      have HGK : Hid (w.grownBy (wr.setRow (w.heap.size + 1 + 1) (stC z)) none) := Lib.hid (only_new HI.out.gr (only_rowM _ _ _) (by omega))
      have HST : Hid (StB (wr.setRow (w.heap.size + 1 + 1) (stC z)) (w.heap.size + 1 + 1) z) := Lib.hid (HB2.out.rowM _)
      clear HI hlt hk
      go_upto_region 10 with fail
      refine wp_region_lit ?_
      refine wpList_load_st rfl (.tmp 3) rfl rfl HSF.out HB1.out ?_
      refine wpList_store_st rfl (.tmp 4) (.tmp 42) rfl rfl rfl HSF.out rfl HB2.out ?_
      simp only [Act.put]
      generalize (wr.setRow _ _) = w7 at *
      go_wp2_with fail
      exact bodyPost_ret (results_st rfl rfl HST.out HSF.out) rfl ⟨⟨_, rfl, HZ.out.all⟩, HGK.out⟩
end Go.Proofs.Ytmhbmeckdbdhpaa

namespace Go.Proofs.Ytmhbmeckdbdhpaa
open Go.RowKit

theorem wrap_id {a : Int} (h0 : -9223372036854775808 ≤ a) (h1 : a ≤ 9223372036854775807) : wrap64 a = a := wrap_in h0 h1
theorem mov_mov {xs : List Nd} {a b : Int} (x : Slt) : movS xs b (movS xs a x) = movS xs (a + b) x := by
  unfold movS
  cases hb : busyB xs x with
  | true =>
    have h2 : busyB xs { x with prio := wrap64 (x.prio + a) } = true := by
      have := busy_mov (xs := xs) (t := a) (x := x)
      unfold movS at this
      rw [hb, if_pos rfl] at this
      exact this
    rw [if_pos rfl, if_pos h2, if_pos rfl]
    have : wrap64 (wrap64 (x.prio + a) + b) = wrap64 (x.prio + (a + b)) := by unfold wrap64; omega
    show Slt.mk x.kind x.cls (wrap64 (wrap64 (x.prio + a) + b)) = _
    rw [this]
  | false =>
    have e : (if false = true then { x with prio := wrap64 (x.prio + a) } else x : Slt) = x := rfl
    rw [e, hb]
    rfl
theorem mov_zero {xs : List Nd} {a : Int} (x : Slt) (h : -1000 < x.prio ∧ x.prio < 1000) : movS xs (-a) (movS xs a x) = x := by
  rw [mov_mov]
  unfold movS
  split
  · have : wrap64 (x.prio + (a + -a)) = x.prio := by rw [show x.prio + (a + -a) = x.prio by omega]; exact wrap_id (by omega) (by omega)
    rw [this]
  · rfl
theorem shift_one {xs : List Nd} {s : StT} {a : Int} (hs : -10000 < s.lv ∧ s.lv < 10000) (ha : -10000 < a ∧ a < 10000) : shiftA xs s (farA xs s a) = (a, true) := by
  have e : wrap64 ((farA xs s a).lv - s.lv) = a := by
    show wrap64 (wrap64 (s.lv + a) - s.lv) = a
    rw [wrap_id (a := s.lv + a) (by omega) (by omega)]
    rw [show s.lv + a - s.lv = a by omega]
    exact wrap_id (by omega) (by omega)
  unfold shiftA
  rw [e, if_pos ⟨rfl, rfl⟩]
theorem far_far {xs : List Nd} {s : StT} {a b : Int} : farA xs (farA xs s a) b = farA xs s (a + b) := by
  unfold farA
  have e1 : wrap64 (wrap64 (s.lv + a) + b) = wrap64 (s.lv + (a + b)) := by unfold wrap64; omega
  have e2 : (s.regs.map (movS xs a)).map (movS xs b) = s.regs.map (movS xs (a + b)) := by
    rw [List.map_map]
    exact List.map_congr_left fun x _ => mov_mov x
  simp only [e1, e2]
theorem far_lv {xs : List Nd} {s : StT} {a : Int} (hs : -1000 < s.lv ∧ s.lv < 1000) (ha : -1000 < a ∧ a < 1000) : -10000 < (farA xs s a).lv ∧ (farA xs s a).lv < 10000 := by
  have e : (farA xs s a).lv = s.lv + a := wrap_id (by omega) (by omega)
  rw [e]
  omega
theorem shift_back {xs : List Nd} {s : StT} {a : Int} (h : SmT s) (ha : -1000 < a ∧ a < 1000) : shiftA xs (farA xs s a) s = (-a, true) := by
  have hl := h.lv
  have e : wrap64 (s.lv - (farA xs s a).lv) = -a := by
    have e1 : (farA xs s a).lv = s.lv + a := wrap_id (by omega) (by omega)
    rw [e1, show s.lv - (s.lv + a) = -a by omega]
    exact wrap_id (by omega) (by omega)
  have e2 : ((farA xs s a).regs.map (movS xs (-a))) = s.regs := by
    show (s.regs.map (movS xs a)).map (movS xs (-a)) = s.regs
    rw [List.map_map]
    conv => rhs; rw [← List.map_id s.regs]
    exact List.map_congr_left fun x hx => mov_zero x (h.prio x hx)
  unfold shiftA
  rw [e, if_pos ⟨rfl, e2⟩]
theorem far_len {xs : List Nd} {s : StT} {a : Int} (h : s.regs.length = 16) : (farA xs s a).regs.length = 16 := by
  show (s.regs.map _).length = 16
  rw [List.length_map]
  exact h
/-! ### The least one -/
theorem least_fold : ∀ (l : List Slt) (o : Option Int), (∀ m, o = some m → ∃ q, l.foldl lessO o = some q ∧ q ≤ m) ∧ ∀ x ∈ l, ∃ q, l.foldl lessO o = some q ∧ q ≤ x.prio
  | [], o => ⟨fun m h => ⟨m, h, Int.le_refl _⟩, fun x h => by cases h⟩
  | y :: l, o => by
    obtain ⟨h1, h2⟩ := least_fold l (lessO o y)
    have hy : ∃ m, lessO o y = some m ∧ m ≤ y.prio ∧ ∀ k, o = some k → m ≤ k := by
      cases o with
      | none => exact ⟨y.prio, rfl, Int.le_refl _, fun k h => by cases h⟩
      | some k =>
        unfold lessO
        by_cases h : y.prio < k
        · exact ⟨y.prio, by simp [h], Int.le_refl _, fun k' e => by cases e; omega⟩
        · exact ⟨k, by simp [h], by omega, fun k' e => by cases e; exact Int.le_refl _⟩
    obtain ⟨m, hm, hm1, hm2⟩ := hy
    obtain ⟨q, hq, hqm⟩ := h1 m hm
    refine ⟨fun k hk => ⟨q, hq, Int.le_trans hqm (hm2 k hk)⟩, fun x hx => ?_⟩
    rcases List.mem_cons.1 hx with rfl | hx
    · exact ⟨q, hq, Int.le_trans hqm hm1⟩
    · exact h2 x hx
theorem least_le {xs : List Nd} {s : StT} {x : Slt} (hx : x ∈ s.regs) (hb : busyB xs x = true) : ∃ m, leastA xs s = some m ∧ m ≤ x.prio := (least_fold _ none).2 x (List.mem_filter.2 ⟨hx, hb⟩)
theorem least_map {a : Int} : ∀ (l : List Slt) (o : Option Int), (∀ x ∈ l, -10000 < x.prio ∧ x.prio < 10000) → (∀ m, o = some m → -10000 < m ∧ m < 10000) → -10000 < a ∧ a < 10000 →
    (l.map fun x => ({ x with prio := wrap64 (x.prio + a) } : Slt)).foldl lessO (o.map fun m => wrap64 (m + a)) = (l.foldl lessO o).map fun m => wrap64 (m + a)
  | [], o, _, _, _ => rfl
  | y :: l, o, hl, ho, ha => by
    have hy := hl y List.mem_cons_self
    have e : lessO (o.map fun m => wrap64 (m + a)) ({ y with prio := wrap64 (y.prio + a) } : Slt) = (lessO o y).map fun m => wrap64 (m + a) := by
      cases o with
      | none => rfl
      | some m =>
        have hm := ho m rfl
        have e1 : wrap64 (y.prio + a) = y.prio + a := wrap_id (by omega) (by omega)
        have e2 : wrap64 (m + a) = m + a := wrap_id (by omega) (by omega)
        unfold lessO
        simp only [Option.map_some, e1, e2]
        by_cases h : y.prio < m
        · rw [if_pos h, if_pos (by omega)]
          simp [e1]
        · rw [if_neg h, if_neg (by omega)]
          simp [e2]
    show List.foldl lessO (lessO (o.map fun m => wrap64 (m + a)) ({ y with prio := wrap64 (y.prio + a) } : Slt)) _ = Option.map _ (List.foldl lessO (lessO o y) l)
    rw [e]
    refine least_map l (lessO o y) (fun x hx => hl x (List.mem_cons_of_mem _ hx)) (fun m hm => ?_) ha
    unfold lessO at hm
    cases o with
    | none => cases hm; exact hy
    | some k =>
      dsimp only at hm
      split at hm
      · cases hm; exact hy
      · cases hm; exact ho _ rfl
theorem least_far {xs : List Nd} {s : StT} {a : Int} (h : SmT s) (ha : -1000 < a ∧ a < 1000) : leastA xs (farA xs s a) = (leastA xs s).map fun m => wrap64 (m + a) := by
  have e : (farA xs s a).regs.filter (busyB xs) = (s.regs.filter (busyB xs)).map fun x => ({ x with prio := wrap64 (x.prio + a) } : Slt) := by
    show (s.regs.map (movS xs a)).filter (busyB xs) = _
    rw [List.filter_map]
    have e1 : s.regs.filter (busyB xs ∘ movS xs a) = s.regs.filter (busyB xs) := List.filter_congr fun x _ => by
      show busyB xs (movS xs a x) = _
      exact busy_mov
    rw [e1]
    exact List.map_congr_left fun x hx => by
      unfold movS
      rw [(List.mem_filter.1 hx).2]
      rfl
  unfold leastA leastO
  rw [e]
  exact least_map _ none (fun x hx => by have := h.prio x (List.mem_filter.1 hx).1; omega) (fun m hm => by cases hm) (by omega)
theorem raise_far {xs : List Nd} {s : StT} {a m : Int} (h : SmT s) (ha : -1000 < a ∧ a < 1000) (hm : leastA xs s = some m) : raiseA xs (farA xs s a) = farA xs (raiseA xs s) a := by
  have e := least_far (xs := xs) h ha
  rw [hm] at e
  unfold raiseA
  rw [e, hm]
  rfl
theorem raise_raise {xs : List Nd} {s : StT} : raiseA xs (raiseA xs s) = raiseA xs s := by
  have e : leastA xs (raiseA xs s) = leastA xs s := by
    unfold leastA
    rw [(raise_regs xs s).1]
  unfold raiseA at e ⊢
  cases hm : leastA xs s with
  | none => rw [hm] at e; dsimp only at e ⊢; rw [hm]
  | some m => rw [hm] at e; dsimp only at e ⊢; rw [e]
end Go.Proofs.Ytmhbmeckdbdhpaa

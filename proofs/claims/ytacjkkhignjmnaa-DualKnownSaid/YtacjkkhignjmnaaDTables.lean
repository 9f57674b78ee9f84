/- DualTables: the walk, from the contracts. -/
import Derived.Test.YtacjkkhignjmnaaDCon
import Derived.Test.YtacjkkhignjmnaaGShapes
import Derived.Deep.RegionHeld3
import Derived.Deep.RegionWith
namespace Go.Proofs.Ytacjkkhignjmnaa
open Go.RowKit Go.Shelf

theorem only_drewN_D {w w' : World} (h : w.grownBy w' none) : ∀ n, w.grownBy (w'.drewN n) none
  | 0 => h
  | n + 1 => only_drew (only_drewN_D h n)
theorem Tbl.slice_ {W : World} {v : Value} {l : List Nd} (h : Tbl W v l) : ∃ A c, v = .slice A l.length c := by
  obtain ⟨a, b, h, _⟩ := h
  exact ⟨a, b, h⟩
theorem madeT_tbl {w W : World} {l : List Nd} {e : Ending} (h : MadeT w l e W) : ∃ A c, e = .returned (.slice A l.length c) ∧ Tbl W (.slice A l.length c) l ∧ w.grownBy W none := by
  obtain ⟨⟨u, ns, he, hot, hns⟩, hg⟩ := h
  have ht := hot.tbl
  rw [hns] at ht
  obtain ⟨A, c, rfl⟩ := ht.slice_
  exact ⟨A, c, he, ht, hg⟩
/-- Both tables, as they read. -/
structure D2 (w : World) (l : List Nd) (v1 v2 : Value) (W : World) : Prop where
  step : w.grownBy W none
  t1 : Tbl W v1 l
  t2 : Tbl W v2 l
section
variable {w W W' : World} {l : List Nd} {v1 v2 : Value}
theorem D2.none_ (h : D2 w l v1 v2 W) (hg : W.grownBy W' none) : D2 w l v1 v2 W' := ⟨only_trans h.step hg, h.t1.keep (.grown hg), h.t2.keep (.grown hg)⟩
end
/-- The two nodes at hand. -/
structure N2 (w : World) (x : Nd) (e1 e2 : Value) (b1 o1 b2 o2 : Nat) (W : World) : Prop where
  step : w.grownBy W none
  n1 : Edges W e1 x.next
  n2 : Edges W e2 x.next
  c1 : W.cell? ⟨b1, o1, none⟩ = some (.int .i64 x.kind) ∧ W.cell? ⟨b1, o1 + 1, none⟩ = some (.int .i64 x.prio) ∧ W.cell? ⟨b1, o1 + 2, none⟩ = some (.bool x.chan) ∧ W.cell? ⟨b1, o1 + 3, none⟩ = some (.int .i64 x.pay.1) ∧ W.cell? ⟨b1, o1 + 4, none⟩ = some (.int .i64 x.pay.2) ∧ W.cell? ⟨b1, o1 + 5, none⟩ = some e1
  c2 : W.cell? ⟨b2, o2, none⟩ = some (.int .i64 x.kind) ∧ W.cell? ⟨b2, o2 + 1, none⟩ = some (.int .i64 x.prio) ∧ W.cell? ⟨b2, o2 + 2, none⟩ = some (.bool x.chan) ∧ W.cell? ⟨b2, o2 + 3, none⟩ = some (.int .i64 x.pay.1) ∧ W.cell? ⟨b2, o2 + 4, none⟩ = some (.int .i64 x.pay.2) ∧ W.cell? ⟨b2, o2 + 5, none⟩ = some e2
theorem N2.none_ {w W W' : World} {x : Nd} {e1 e2 : Value} {b1 o1 b2 o2 : Nat} (h : N2 w x e1 e2 b1 o1 b2 o2 W) (hg : W.grownBy W' none) : N2 w x e1 e2 b1 o1 b2 o2 W' := by
  have k := Keeps.grown hg
  obtain ⟨a0, a1, a2, a3, a4, a5⟩ := h.c1
  obtain ⟨d0, d1, d2, d3, d4, d5⟩ := h.c2
  exact ⟨only_trans h.step hg, h.n1.keep k, h.n2.keep k, ⟨k _ _ a0, k _ _ a1, k _ _ a2, k _ _ a3, k _ _ a4, k _ _ a5⟩, ⟨k _ _ d0, k _ _ d1, k _ _ d2, k _ _ d3, k _ _ d4, k _ _ d5⟩⟩

set_option maxRecDepth 100000 in
set_option maxHeartbeats 4000000 in
theorem dtables_of (hC : TabC) (hM : MateC) (hS : MatesC) (xs : List Nd) (A : Option Addr) (c : Nat) (n node : Int) (hd0 : -9223372036854775808 ≤ node) (hd1 : node ≤ 9223372036854775807) (w : World) (hT : Tbl w (.slice A xs.length c) xs) (hc : xs.length ≤ c) :
    Calls Try.prog 3 #[.slice A xs.length c, .int .i64 n, .int .i64 node] w fun e w' => e = .returned (.bool true) ∧ w.grownBy w' none := by
  have HC := Lib.hid hC
  have HM := Lib.hid hM
  have HS := Lib.hid hS
  have HN : Hid (-9223372036854775808 ≤ node ∧ node ≤ 9223372036854775807) := ⟨hd0, hd1⟩
  obtain ⟨ys, hys⟩ : ∃ ys, xs.take 70 = ys := ⟨_, rfl⟩
  have hyl : ys.length = min 70 xs.length := by rw [← hys]; exact List.length_take
  have HT : Hid (Tbl w (.slice A ys.length c) ys) := by
    have := hT.take (m := ys.length) (by omega)
    rwa [hyl, ← List.take_eq_take_min, hys, ← hyl] at this
  have h7 : ys.length ≤ 70 := by omega
  have HL : Hid (ys.length ≤ 70) := h7
  clear hT hys hC hM hS
  go_enter Try.func3, Try.ntmps3
  go_upto_region 1 with fail
  go_cut [0] from 10 to 14 (fun s wx => s = .slice A ys.length c ∧ w = wx)
  case first =>
    by_cases h70 : xs.length ≤ 70
    · have h70' : (xs.length : Int) ≤ 70 := by omega
      have HQ : Hid (ys.length = xs.length) := show _ = _ by omega
      clear hyl
      go_wp2_with fail
      go_meet
      exact ⟨by rw [HQ.out], rfl⟩
    · have h70' : (70 : Int) < (xs.length : Int) := by omega
      have hc7 : (70 : Int) ≤ (c : Int) := by omega
      have HQ : Hid (ys.length = 70) := show _ = _ by omega
      clear hyl
      go_wp2_with fail
      go_meet
      exact ⟨by rw [HQ.out], rfl⟩
  case rest =>
    obtain ⟨rfl, rfl⟩ := hcut
    clear hyl hc
    obtain ⟨l, hl⟩ : ∃ l, tableL ys = l := ⟨_, rfl⟩
    have hll : l.length ≤ 140 := by
      rw [← hl]
      unfold tableL
      split
      · rw [twoL_len]; omega
      · exact Nat.zero_le _
    have HLL := Lib.hid hll
    have HTL := Lib.hid hl
    clear hl hll
    go_wp2_with (first | (go_at_call 7; go_must (refine (HC.out ys _ _ HT.out (by have := HL.out; omega)).mono ?_; rw [HTL.out]; intro e W1 hmt; obtain ⟨A1, c1, rfl, ht1, hg1⟩ := madeT_tbl hmt; have HG1 := Lib.hid hg1; have HT1 := Lib.hid ht1; clear hmt ht1 hg1)) | (go_at_call 8; go_must (refine (rtable_any ys _ _ (HT.out.keep (.grown HG1.out)) (by have := HL.out; omega)).mono ?_; rw [HTL.out]; intro e W2 hmt; obtain ⟨A2, c2, rfl, ht2, hg2⟩ := madeT_tbl hmt; have HD : Hid (D2 w l (.slice A1 l.length c1) (.slice A2 l.length c2) W2) := Lib.hid ⟨only_trans HG1.out hg2, HT1.out.keep (.grown hg2), ht2⟩; clear hmt ht2 hg2)))
    go_loopw [9] (fun i W => ∃ k : Nat, k ≤ l.length ∧ i = .int .i64 (k : Int) ∧ D2 w l (.slice A1 l.length c1) (.slice A2 l.length c2) W) (fun i _ => 200 - (intOf i).toNat)
    case atStart => exact ⟨0, Nat.zero_le _, rfl, HD.out⟩
    case round =>
      clear HD
      obtain ⟨k, hk, rfl, hd⟩ := hrel
      have HDK := Lib.hid hd
      clear hd
      by_cases hlt : k < l.length
      · have hk0 : (0 : Int) ≤ (k : Int) := by omega
        have hk1 : (k : Int) < (l.length : Int) := by omega
        have hk2 : (l.length : Int) ≤ 140 := by have := HLL.out; omega
        have hk3 : (ys.length : Int) ≤ 70 := by have := HL.out; omega
        obtain ⟨x, hx⟩ : ∃ x, l[k]? = some x := ⟨_, List.getElem?_eq_getElem hlt⟩
        obtain ⟨B1, d1, hA1, hcl1⟩ := HDK.out.t1
        obtain ⟨b1, o1, hAb1, hcl1⟩ := hcl1 (by intro e0; rw [e0] at hlt; simp at hlt)
        obtain ⟨e1, hE1, m0, m1, m2, m3, m4, m5⟩ := hcl1 k x hx
        obtain ⟨rfl, rfl⟩ : A1 = B1 ∧ c1 = d1 := by simpa using hA1
        subst hAb1
        obtain ⟨B2, d2, hA2, hcl2⟩ := HDK.out.t2
        obtain ⟨b2, o2, hAb2, hcl2⟩ := hcl2 (by intro e0; rw [e0] at hlt; simp at hlt)
        obtain ⟨e2, hE2, n0, n1, n2, n3, n4, n5⟩ := hcl2 k x hx
        obtain ⟨rfl, rfl⟩ : A2 = B2 ∧ c2 = d2 := by simpa using hA2
        subst hAb2
        have HN2 : Hid (N2 wr x e1 e2 b1 (o1 + k * 6) b2 (o2 + k * 6) wr) := Lib.hid ⟨only_refl _ _, hE1, hE2, ⟨m0, m1, m2, m3, m4, m5⟩, ⟨n0, n1, n2, n3, n4, n5⟩⟩
        obtain ⟨f1, g1, rfl, _, _⟩ := hE1
        obtain ⟨f2, g2, rfl, _, _⟩ := hE2
        clear hA1 hcl1 hA2 hcl2 hx
        go_upto_region 8 with fail
        go_cut [50] from 24 to 50 (fun cv wx => cv = .bool false ∧ wr.grownBy wx none)
        case first =>
          have s := HN2.out.none_ (only_drew (only_refl wr none))
          go_region_held3 (fun w' => (w'.cell? ⟨b1, o1 + k * 6, none⟩ = some (.int .i64 x.kind) ∧ w'.cell? ⟨b1, o1 + k * 6 + 1, none⟩ = some (.int .i64 x.prio) ∧ w'.cell? ⟨b1, o1 + k * 6 + 2, none⟩ = some (.bool x.chan) ∧ w'.cell? ⟨b1, o1 + k * 6 + 3, none⟩ = some (.int .i64 x.pay.1) ∧ w'.cell? ⟨b1, o1 + k * 6 + 4, none⟩ = some (.int .i64 x.pay.2) ∧ w'.cell? ⟨b1, o1 + k * 6 + 5, none⟩ = some (.slice f1 x.next.length g1)) ∧ (w'.cell? ⟨b2, o2 + k * 6, none⟩ = some (.int .i64 x.kind) ∧ w'.cell? ⟨b2, o2 + k * 6 + 1, none⟩ = some (.int .i64 x.prio) ∧ w'.cell? ⟨b2, o2 + k * 6 + 2, none⟩ = some (.bool x.chan) ∧ w'.cell? ⟨b2, o2 + k * 6 + 3, none⟩ = some (.int .i64 x.pay.1) ∧ w'.cell? ⟨b2, o2 + k * 6 + 4, none⟩ = some (.int .i64 x.pay.2) ∧ w'.cell? ⟨b2, o2 + k * 6 + 5, none⟩ = some (.slice f2 x.next.length g2))) (exact ⟨s.c1, s.c2⟩) (first | (go_at_call 9; ((with_reducible refine (rsame_any x _ _ _ s.n1 s.n2).mono ?_); rintro e W8 ⟨rfl, hs⟩); replace s := s.none_ hs; clear hs) | (go_at_call 10; ((refine (HM.out _ _ _ (by omega) (by omega) (by omega) (by omega)).mono ?_); rintro e W8 ⟨rfl, hs⟩); replace s := s.none_ hs; clear hs) | (go_at_call 11; ((refine (rmate_any _ _ (by omega) (by omega) (by omega) (by omega) _).mono ?_); rintro e W8 ⟨rfl, rfl⟩)))
          all_goals go_wp2_with fail
          all_goals go_meet
          all_goals exact ⟨rfl, s.step⟩
        case rest =>
          obtain ⟨rfl, hg⟩ := hcut
          have HDN := Lib.hid (HDK.out.none_ hg)
          clear hg m0 m1 m2 m3 m4 m5 n0 n1 n2 n3 n4 n5
          go_wp2_with fail
          go_roundw
          case rel => exact ⟨k + 1, by omega, by go_num, HDN.out⟩
          case measure => simp [intOf]; omega
      · have hge : (l.length : Int) ≤ (k : Int) := by omega
        have hge2 : decide (k < l.length) = false := decide_eq_false hlt
        clear hlt hk
        have ht0 : -1000000000 < n.tmod 1000000000 := Int.lt_tmod_of_pos _ (by omega)
        have ht1 : n.tmod 1000000000 < 1000000000 := Int.tmod_lt_of_pos _ (by omega)
        go_wp2_with (first | (go_at_call 10; go_must (refine (HM.out _ _ _ (by omega) (by omega) HN.out.1 HN.out.2).mono ?_; rintro e W3 ⟨rfl, hg3⟩; have HG3 := Lib.hid (only_trans HDK.out.step hg3); clear hg3)) | (go_at_call 11; go_must (refine (rmate_any _ _ (by omega) (by omega) HN.out.1 HN.out.2 _).mono ?_; rintro e W4 ⟨rfl, rfl⟩)) | (go_at_call 12; go_must (refine (dworks_of HC.out HM.out HS.out _).mono ?_; rintro e W5 ⟨rfl, hg5⟩; have HG5 := Lib.hid (only_trans HG3.out hg5); clear hg5)))
        go_ret
        exact ⟨rfl, HG5.out⟩
end Go.Proofs.Ytacjkkhignjmnaa

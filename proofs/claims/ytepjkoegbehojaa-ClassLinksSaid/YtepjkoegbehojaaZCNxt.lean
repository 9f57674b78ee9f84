/- class: Next, Pay: what each answers. -/
import Derived.Test.YtepjkoegbehojaaZCAt
import Derived.Deep.RegionHeld3
namespace Go.Proofs.Ytepjkoegbehojaa
open Go.RowKit Go.Shelf

theorem cfollow_is {T : ClsT} {k : Ed} {prio : Int} {p : Int × Int} (h : alongA T k prio = p) {tv : Value} {w : World} (hT : TabV w tv T) (h0 : 0 ≤ k.1) (h1 : k.1 < (T.cls.length : Int)) (hs : T.cls.length ≤ 1000000) :
    Calls Try.prog 38 #[tv, .int .i64 prio, edV k] w fun e w' => e = .returned (.tuple #[.int .i64 p.1, .int .i64 p.2]) ∧ w.grownBy w' none := by
  have := cfollow_any T tv k prio w hT h0 h1 hs
  rw [h] at this
  exact this
set_option maxRecDepth 100000 in
set_option maxHeartbeats 2000000 in
theorem cnext_con : NextC := by
  intro T tv c prio i w hW hT b0 b1 b2 b3
  have HT := Lib.hid hT
  obtain ⟨vc, vo, vp, rfl, hC, hO, hP⟩ := hT
  obtain ⟨A, cap, rfl, _⟩ := id hC
  obtain ⟨A3, c3, rfl, _⟩ := id hO
  obtain ⟨A4, c4, rfl, _⟩ := id hP
  have hs := hW.small
  have hlI : (T.cls.length : Int) ≤ 1000000 := by omega
  by_cases hn : 0 ≤ c ∧ c < (T.cls.length : Int)
  · have hb1 := Lib.hid (show cinB c (T.cls.length : Int) = true from decide_eq_true hn)
    obtain ⟨hn0, hm1⟩ := hn
    obtain ⟨c, rfl⟩ : ∃ k : Nat, c = (k : Int) := ⟨c.toNat, by omega⟩
    obtain ⟨y, hy⟩ : ∃ y, T.cls[c]? = some y := ⟨_, List.getElem?_eq_getElem (by omega)⟩
    have hyn : nodeAt T.cls (c : Int) = some y := nodeAt_nat.trans hy
    have hA : nextA T (c : Int) prio i = if i < 0 ∨ (y.next.length : Int) ≤ i then (-1, 0) else alongA T (y.next.getD i.toNat (0, 0)) prio := by unfold nextA; rw [hyn]
    have hyl := hs.2.2 y (List.mem_of_getElem? hy)
    have hyI : (y.next.length : Int) ≤ 1000000 := by omega
    obtain ⟨b, off, A2, c2, rfl, hE, m0, m1, m2, m3, m4, m5⟩ := cls_at hC hy
    have hb : b < w.heap.size := cell_lt m0
    rw [hA]
    by_cases hi : 0 ≤ i ∧ i < (y.next.length : Int)
    · have hb2 := Lib.hid (show cinB i (y.next.length : Int) = true from decide_eq_true hi)
      obtain ⟨hi0, hl1⟩ := hi
      rw [if_neg (by omega)]
      obtain ⟨i, rfl⟩ : ∃ k : Nat, i = (k : Int) := ⟨i.toNat, by omega⟩
      obtain ⟨e, he⟩ : ∃ e, y.next[i]? = some e := ⟨_, List.getElem?_eq_getElem (by omega)⟩
      have hge : y.next.getD ((i : Int)).toNat (0, 0) = e := by rw [Int.toNat_natCast, List.getD_eq_getElem?_getD, he]; rfl
      rw [hge]
      obtain ⟨h0, h1⟩ := hW.next y (List.mem_of_getElem? hy) e (List.mem_of_getElem? he)
      obtain ⟨p, hp⟩ : ∃ p, alongA T e prio = p := ⟨_, rfl⟩
      rw [hp]
      have HP := Lib.hid hp
      have HB : Hid (0 ≤ e.1 ∧ e.1 < (T.cls.length : Int) ∧ T.cls.length ≤ 1000000) := Lib.hid ⟨h0, h1, hs.1⟩
      obtain ⟨A5, c5, hA5, _, hcl⟩ := hE
      obtain ⟨b5, o5, hb5, hce⟩ := hcl (by intro e0; rw [e0] at he; simp at he)
      obtain ⟨rfl, rfl⟩ : A2 = A5 ∧ c2 = c5 := by simpa using hA5
      subst hb5
      obtain ⟨e0, e1⟩ := hce i e he
      have hb5l : b5 < w.heap.size := cell_lt e0
      clear hC hO hP hW hA hs hy hyn hce hcl hA5 he hge hp h0 h1
      go_enter Try.func15, Try.ntmps15
      go_upto_region 3 with (first | (go_at_call 36; with_reducible refine Calls.mono (cin_is hb1.out _) ?_; rintro e w' ⟨rfl, rfl⟩) | (go_at_call 36; with_reducible refine Calls.mono (cin_is hb2.out _) ?_; rintro e w' ⟨rfl, rfl⟩) | fail)
      generalize hW1 : World.alloc _ _ = W1
      have hg1 : w.grownBy W1 none := by rw [← hW1]; exact only_alloc (only_refl _ _) _
      have hbx : Blk W1 w.heap.size 27 #[.slice (some ⟨b, off, none⟩) T.cls.length cap, .slice A3 T.of_.length c3, .slice A4 T.prio.length c4] := by rw [← hW1]; exact Blk.new w _ _
      have z0 := hbx.cell 0
      have z1 := hbx.cell 1
      have z2 := hbx.cell 2
      have z5 := Keeps.grown hg1 _ _ m5
      have d0 := Keeps.grown hg1 _ _ e0
      have d1 := Keeps.grown hg1 _ _ e1
      have HG1 := Lib.hid hg1
      have HT1 := Lib.hid (HT.out.keep (.grown hg1))
      clear hW1 hg1 hbx m0 m1 m2 m3 m4 m5 e0 e1 HT
      go_cut [8, 9] from 10 to 42 (fun u v wx => u = .int .i64 p.1 ∧ v = .int .i64 p.2 ∧ W1.grownBy wx none)
      case first =>
        have s : W1.grownBy W1.drew none := only_drew (only_refl _ _)
        obtain ⟨ec, ej⟩ := e
        dsimp only at d0 d1
        go_region_held3 (fun w' => w'.cell? ⟨w.heap.size, 0, none⟩ = some (.slice (some ⟨b, off, none⟩) T.cls.length cap) ∧ w'.cell? ⟨w.heap.size, 1, none⟩ = some (.slice A3 T.of_.length c3) ∧ w'.cell? ⟨w.heap.size, 2, none⟩ = some (.slice A4 T.prio.length c4) ∧ w'.cell? ⟨b, off + c * 6 + 5, none⟩ = some (.slice (some ⟨b5, o5, none⟩) y.next.length c2) ∧ w'.cell? ⟨b5, o5 + i * 2, none⟩ = some (.int .i64 ec) ∧ w'.cell? ⟨b5, o5 + i * 2 + 1, none⟩ = some (.int .i64 ej)) (exact ⟨Keeps.grown s _ _ z0, Keeps.grown s _ _ z1, Keeps.grown s _ _ z2, Keeps.grown s _ _ z5, Keeps.grown s _ _ d0, Keeps.grown s _ _ d1⟩) ((go_at_call 38; ((refine (cfollow_is (k := (ec, ej)) HP.out (HT1.out.keep (.grown s)) HB.out.1 HB.out.2.1 HB.out.2.2).mono ?_); rintro e W8 ⟨rfl, hs⟩); replace s := only_trans s hs; clear hs))
        all_goals go_wp2_with fail
        all_goals go_meet
        all_goals exact ⟨rfl, rfl, s⟩
      case rest =>
        obtain ⟨rfl, rfl, hg⟩ := hcut
        have HG2 := Lib.hid (only_trans HG1.out hg)
        clear hg
        go_wp2_with fail
        go_ret2
        exact ⟨rfl, HG2.out⟩
    · have hb2 := Lib.hid (show cinB i (y.next.length : Int) = false from decide_eq_false hi)
      rw [if_pos (by omega)]
      clear hC hO hP hW hA hs HT hE hy hyn hi
      go_enter Try.func15, Try.ntmps15
      go_wp2_with (first | (go_at_call 36; with_reducible refine Calls.mono (cin_is hb1.out _) ?_; rintro e w' ⟨rfl, rfl⟩) | (go_at_call 36; with_reducible refine Calls.mono (cin_is hb2.out _) ?_; rintro e w' ⟨rfl, rfl⟩) | fail)
      go_ret2
      exact ⟨rfl, only_alloc (only_refl _ _) _⟩
  · have hb1 := Lib.hid (show cinB c (T.cls.length : Int) = false from decide_eq_false hn)
    have hA : nextA T c prio i = (-1, 0) := by unfold nextA; rw [nodeAt_out (by omega)]
    rw [hA]
    clear hC hO hP hW hA hs HT hn
    go_enter Try.func15, Try.ntmps15
    go_wp2_with (go_at_call 36; with_reducible refine Calls.mono (cin_is hb1.out _) ?_; rintro e w' ⟨rfl, rfl⟩)
    go_ret2
    exact ⟨rfl, only_alloc (only_refl _ _) _⟩

set_option maxRecDepth 100000 in
set_option maxHeartbeats 2000000 in
theorem cpay_con : PayC := by
  intro T tv c prio w hW hT b0 b1
  have HT := Lib.hid hT
  obtain ⟨vc, vo, vp, rfl, hC, hO, hP⟩ := hT
  obtain ⟨A, cap, rfl, _⟩ := id hC
  obtain ⟨A3, c3, rfl, _⟩ := id hO
  obtain ⟨A4, c4, rfl, _⟩ := id hP
  have hs := hW.small
  have hlI : (T.cls.length : Int) ≤ 1000000 := by omega
  by_cases hn : 0 ≤ c ∧ c < (T.cls.length : Int)
  · have hb1 := Lib.hid (show cinB c (T.cls.length : Int) = true from decide_eq_true hn)
    obtain ⟨hn0, hm1⟩ := hn
    obtain ⟨c, rfl⟩ : ∃ k : Nat, c = (k : Int) := ⟨c.toNat, by omega⟩
    obtain ⟨y, hy⟩ : ∃ y, T.cls[c]? = some y := ⟨_, List.getElem?_eq_getElem (by omega)⟩
    have hyn : nodeAt T.cls (c : Int) = some y := nodeAt_nat.trans hy
    have hA : payA T (c : Int) prio = if y.chan then alongA T y.pay prio else (-1, 0) := by unfold payA; rw [hyn]
    have hwp := hW.pay y (List.mem_of_getElem? hy)
    obtain ⟨b, off, A2, c2, rfl, hE, m0, m1, m2, m3, m4, m5⟩ := cls_at hC hy
    have hb : b < w.heap.size := cell_lt m0
    rw [hA]
    cases hch : y.chan
    · rw [hch] at m2
      rw [if_neg (by decide)]
      clear hC hO hP hW hA hs HT hE hy hyn hwp hch
      go_enter Try.func17, Try.ntmps17
      go_wp2_with (go_at_call 36; with_reducible refine Calls.mono (cin_is hb1.out _) ?_; rintro e w' ⟨rfl, rfl⟩)
      go_ret2
      exact ⟨rfl, only_alloc (only_refl _ _) _⟩
    · rw [hch] at m2
      rw [if_pos rfl]
      obtain ⟨h0, h1⟩ := hwp hch
      obtain ⟨⟨ec, ej⟩, he⟩ : ∃ e, y.pay = e := ⟨_, rfl⟩
      rw [he] at h0 h1 m3 m4 ⊢
      dsimp only at m3 m4
      obtain ⟨p, hp⟩ : ∃ p, alongA T (ec, ej) prio = p := ⟨_, rfl⟩
      rw [hp]
      have HP := Lib.hid hp
      have HB : Hid (0 ≤ ec ∧ ec < (T.cls.length : Int) ∧ T.cls.length ≤ 1000000) := Lib.hid ⟨h0, h1, hs.1⟩
      clear hC hO hP hW hA hs hy hyn he hp h0 h1 hwp hch hE
      go_enter Try.func17, Try.ntmps17
      go_upto_region 3 with (go_at_call 36; with_reducible refine Calls.mono (cin_is hb1.out _) ?_; rintro e w' ⟨rfl, rfl⟩)
      generalize hW1 : World.alloc _ _ = W1
      have hg1 : w.grownBy W1 none := by rw [← hW1]; exact only_alloc (only_refl _ _) _
      have hbx : Blk W1 w.heap.size 27 #[.slice (some ⟨b, off, none⟩) T.cls.length cap, .slice A3 T.of_.length c3, .slice A4 T.prio.length c4] := by rw [← hW1]; exact Blk.new w _ _
      have z0 := hbx.cell 0
      have z1 := hbx.cell 1
      have z2 := hbx.cell 2
      have d0 := Keeps.grown hg1 _ _ m3
      have d1 := Keeps.grown hg1 _ _ m4
      have HG1 := Lib.hid hg1
      have HT1 := Lib.hid (HT.out.keep (.grown hg1))
      clear hW1 hg1 hbx m0 m1 m2 m3 m4 m5 HT
      go_cut [6, 7] from 8 to 34 (fun u v wx => u = .int .i64 p.1 ∧ v = .int .i64 p.2 ∧ W1.grownBy wx none)
      case first =>
        have s : W1.grownBy W1.drew none := only_drew (only_refl _ _)
        go_region_held3 (fun w' => w'.cell? ⟨w.heap.size, 0, none⟩ = some (.slice (some ⟨b, off, none⟩) T.cls.length cap) ∧ w'.cell? ⟨w.heap.size, 1, none⟩ = some (.slice A3 T.of_.length c3) ∧ w'.cell? ⟨w.heap.size, 2, none⟩ = some (.slice A4 T.prio.length c4) ∧ w'.cell? ⟨b, off + c * 6 + 3, none⟩ = some (.int .i64 ec) ∧ w'.cell? ⟨b, off + c * 6 + 4, none⟩ = some (.int .i64 ej)) (exact ⟨Keeps.grown s _ _ z0, Keeps.grown s _ _ z1, Keeps.grown s _ _ z2, Keeps.grown s _ _ d0, Keeps.grown s _ _ d1⟩) ((go_at_call 38; ((refine (cfollow_is (k := (ec, ej)) HP.out (HT1.out.keep (.grown s)) HB.out.1 HB.out.2.1 HB.out.2.2).mono ?_); rintro e W8 ⟨rfl, hs⟩); replace s := only_trans s hs; clear hs))
        all_goals go_wp2_with fail
        all_goals go_meet
        all_goals exact ⟨rfl, rfl, s⟩
      case rest =>
        obtain ⟨rfl, rfl, hg⟩ := hcut
        have HG2 := Lib.hid (only_trans HG1.out hg)
        clear hg
        go_wp2_with fail
        go_ret2
        exact ⟨rfl, HG2.out⟩
  · have hb1 := Lib.hid (show cinB c (T.cls.length : Int) = false from decide_eq_false hn)
    have hA : payA T c prio = (-1, 0) := by unfold payA; rw [nodeAt_out (by omega)]
    rw [hA]
    clear hC hO hP hW hA hs HT hn
    go_enter Try.func17, Try.ntmps17
    go_wp2_with (go_at_call 36; with_reducible refine Calls.mono (cin_is hb1.out _) ?_; rintro e w' ⟨rfl, rfl⟩)
    go_ret2
    exact ⟨rfl, only_alloc (only_refl _ _) _⟩
end Go.Proofs.Ytepjkoegbehojaa

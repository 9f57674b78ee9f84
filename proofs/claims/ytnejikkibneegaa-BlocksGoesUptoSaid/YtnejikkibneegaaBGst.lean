/- BlocksGoes. -/
import Derived.Test.YtnejikkibneegaaBTlk
import Derived.Test.YtnejikkibneegaaBArg
import Derived.Deep.RegionHeld3
namespace Go.Proofs.Ytnejikkibneegaa
open Go.RowKit

/-- Like lists are alike. -/
theorem bints_same {l : List Int} {v u : Value} {w : World} (h1 : IB w v l) (h2 : IB w u l) (hl : l.length ≤ 10000000) : Calls Try.prog 18 #[v, u] w fun e w' => e = .returned (.bool true) ∧ w.grownBy w' none := by
  have h := bints_any l l v u _ _ w h1.ints h2.ints hl
  rwa [show decide (l = l) = true from decide_eq_true rfl] at h
theorem take_all {cs : List Bi} (h : ∀ x ∈ cs, x.2.length ≤ 1048576) (n : Nat) : ∀ x ∈ cs.take n, x.2.length ≤ 1048576 := fun x hx => h x (List.mem_of_mem_take hx)
theorem goesI_length {cs : List Bi} {i : Int} (hl : ∀ x ∈ cs, x.2.length ≤ 1048576) : (goesI cs i).length ≤ 1048577 := by
  unfold goesI
  split
  · simp
  · exact goesN_length hl
set_option maxRecDepth 100000 in
set_option maxHeartbeats 8000000 in
theorem bgst_any (cs0 : List Bi) (A : Option Addr) (c : Nat) (op at_ : Int) (w : World) (hC0 : CodeA w (.slice A cs0.length c) cs0) (hc1 : cs0.length ≤ c) (hc2 : c ≤ 9223372036854775807) (hl0 : ∀ x ∈ cs0, x.2.length ≤ 1048576) :
    Calls Try.prog 4 #[.slice A cs0.length c, .int .i64 op, .int .i64 at_] w fun e w' => e = .returned (.bool true) ∧ w.grownBy w' none := by
  have hc1I : (cs0.length : Int) ≤ (c : Int) := by omega
  have hc2I : (c : Int) ≤ 9223372036854775807 := by omega
  obtain ⟨n, hn⟩ : ∃ n, min cs0.length 130 = n := ⟨_, rfl⟩
  have hif : (if (130 : Int) < (cs0.length : Int) then (130 : Int) else (cs0.length : Int)) = (n : Int) := by split <;> omega
  have hn130 : n ≤ 130 := by omega
  have hnI : (n : Int) ≤ 130 := by omega
  have hnl : n ≤ cs0.length := by omega
  have hq := hC0.take_ n (by omega)
  have hrl : (cs0.take n).length = n := by rw [List.length_take]; omega
  have hl := take_all hl0 n
  obtain ⟨cs, hqs⟩ : ∃ cs, cs0.take n = cs := ⟨_, rfl⟩
  rw [hqs] at hq hrl hl
  have HC := Lib.hid hq
  have HL := Lib.hid hl
  have HRL := Lib.hid hrl
  clear hC0 hq hqs hn hl0 hl
  have hgl : ∀ (i : Int) w, CodeA w (.slice A n c) cs → Calls Try.prog 19 #[.slice A n c, .int .i64 i] w fun e w' => ∃ v', e = .returned v' ∧ BOwn w.heap.size w' v' (goesI cs i) ∧ w.grownBy w' none := fun i w h => blGoes_any cs _ i w h HL.out (by have := HRL.out; omega)
  have hgr : ∀ (i : Int) w, CodeA w (.slice A n c) cs → Calls Try.prog 20 #[.slice A n c, .int .i64 i] w fun e w' => ∃ v', e = .returned v' ∧ BOwn w.heap.size w' v' (goesI cs i) ∧ w.grownBy w' none := fun i w h => bgoes_any cs _ i w h HL.out
  go_enter Try.func4, Try.ntmps4
  go_upto_region 2 with fail
  clear hif
  obtain ⟨cb, hcb⟩ : ∃ cb, closeB op = cb := ⟨_, rfl⟩
  obtain ⟨tb, htb⟩ : ∃ tb, talkB op = tb := ⟨_, rfl⟩
  have k1 := fun w => blCloses_any op w
  have k2 := fun w => bcloses_any op w
  have k3 := fun w => blTalks_any op w
  have k4 := fun w => btalks_any op w
  rw [hcb] at k1 k2
  rw [htb] at k3 k4
  clear hcb htb
  go_wp2_with fail
  refine (k1 _).mono ?_
  rintro e w1 ⟨rfl, g1⟩
  go_wp2_with fail
  refine (k2 _).mono ?_
  rintro e w2 ⟨rfl, g2⟩
  replace g2 := only_trans g1 g2
  clear g1 k1 k2
  go_wp2_with fail
  refine (k3 _).mono ?_
  rintro e w3 ⟨rfl, g3⟩
  replace g3 := only_trans g2 g3
  clear g2
  go_wp2_with fail
  refine (k4 _).mono ?_
  rintro e w4 ⟨rfl, g4⟩
  have HG4 := Lib.hid (only_trans g3 g4)
  clear g3 g4 k3 k4
  obtain ⟨gl, hgl1⟩ : ∃ gl, goesI cs at_ = gl := ⟨_, rfl⟩
  have hgll := goesI_length (i := at_) HL.out
  have h1 := hgl at_
  have h2 := hgr at_
  rw [hgl1] at h1 h2 hgll
  clear hgl1
  go_wp2_with fail
  refine (h1 _ (HC.out.kept HG4.out)).mono ?_
  rintro e w5 ⟨v5, rfl, o5, g5⟩
  have HG5 := Lib.hid (only_trans HG4.out g5)
  clear h1 g5
  go_wp2_with fail
  refine (h2 _ (HC.out.kept HG5.out)).mono ?_
  rintro e w6 ⟨v6, rfl, o6, g6⟩
  have HG6 := Lib.hid (only_trans HG5.out g6)
  have h3 := bints_same (o5.none_ g6).ib o6.ib (by omega)
  clear h2 g6 o5 o6 HG4 HG5
  go_wp2_with fail
  refine h3.mono ?_
  rintro e w7 ⟨rfl, g7⟩
  have HG7 := Lib.hid (only_trans HG6.out g7)
  clear h3 g7 HG6
  go_wp2_with fail
  clear hgll
  go_loopw [7] (fun z wr => ∃ i : Nat, i ≤ n ∧ z = .int .i64 (i : Int) ∧ w.grownBy wr none) (fun z _ => n - (intOf z).toNat)
  case atStart => exact ⟨0, Nat.zero_le _, rfl, HG7.out⟩
  case round =>
    obtain ⟨i, hi, rfl, hg⟩ := hrel
    have HG := Lib.hid hg
    have hi0 : (0 : Int) ≤ (i : Int) := by omega
    by_cases hlt : i < n
    · have hltI : (i : Int) < (n : Int) := by omega
      obtain ⟨x, hx⟩ : ∃ x, cs[i]? = some x := ⟨_, List.getElem?_eq_getElem (by have := HRL.out; omega)⟩
      have hxl := HL.out x (List.mem_of_getElem? hx)
      have hCr := HC.out.kept hg
      obtain ⟨b, off, a2, b2, c2', d2, A3, cp3, hA9, hb, hIA, m0, m1, m2, m3, m4, m5⟩ := code_at (n := n) (c := c) hCr hx
      subst hA9
      have HCr := Lib.hid hCr
      obtain ⟨op2, l2⟩ := x
      dsimp only at m0 m5 hIA hxl
      obtain ⟨gi, hgi⟩ : ∃ gi, goesI cs (i : Int) = gi := ⟨_, rfl⟩
      have hgil := goesI_length (i := (i : Int)) HL.out
      have h1 := hgl (i : Int)
      have h2 := hgr (i : Int)
      rw [hgi] at h1 h2 hgil
      obtain ⟨tl, htl⟩ : ∃ tl, tgtL (op2, l2) = tl := ⟨_, rfl⟩
      have htll : tl.length ≤ 1048576 := by
        rw [← htl]
        unfold tgtL
        split
        · exact hxl
        · simp
      have H1 := Lib.hid h1
      have H2 := Lib.hid h2
      have H3 : Hid (∀ W, wr.grownBy W none → Calls Try.prog 21 #[.agg #[.int .i64 op2, .int .i64 a2, .int .i64 b2, .int .i64 c2', .int .i64 d2, .slice A3 l2.length cp3]] W fun e w' => ∃ v, e = .returned v ∧ BOwn W.heap.size w' v tl ∧ W.grownBy w' none) := Lib.hid fun W hgW => by
        have h := blTargets_any op2 ⟨a2, b2, c2', d2, .slice A3 l2.length cp3, l2⟩ W (hIA.up hgW) hxl
        rwa [htl] at h
      have H4 : Hid (∀ W, wr.grownBy W none → Calls Try.prog 22 #[.agg #[.int .i64 op2, .int .i64 a2, .int .i64 b2, .int .i64 c2', .int .i64 d2, .slice A3 l2.length cp3]] W fun e w' => ∃ v, e = .returned v ∧ BOwn W.heap.size w' v tl ∧ W.grownBy w' none) := Lib.hid fun W hgW => by
        have h := btargets_any op2 ⟨a2, b2, c2', d2, .slice A3 l2.length cp3, l2⟩ W (hIA.up hgW) hxl
        rwa [htl] at h
      have HGIL : Hid (gi.length ≤ 10000000) := Lib.hid (by omega)
      have HTLL : Hid (tl.length ≤ 10000000) := Lib.hid (by omega)
      clear hx hxl hg hCr hIA hgi hgil htl htll h1 h2 hb
      go_upto_region 7 with fail
      go_cut [63] from 36 to 63 (fun u wx => u = .bool false ∧ wr.grownBy wx none)
      case first =>
        have s : wr.grownBy wr.drew none := only_drew (only_refl _ _)
        go_region_held3 (fun w' => w'.cell? ⟨b, off + i * 6, none⟩ = some (.int .i64 op2) ∧ w'.cell? ⟨b, off + i * 6 + 1, none⟩ = some (.int .i64 a2) ∧ w'.cell? ⟨b, off + i * 6 + 2, none⟩ = some (.int .i64 b2) ∧ w'.cell? ⟨b, off + i * 6 + 3, none⟩ = some (.int .i64 c2') ∧ w'.cell? ⟨b, off + i * 6 + 4, none⟩ = some (.int .i64 d2) ∧ w'.cell? ⟨b, off + i * 6 + 5, none⟩ = some (.slice A3 l2.length cp3)) (exact ⟨cell_row m0 s (fun e => by cases e), cell_row m1 s (fun e => by cases e), cell_row m2 s (fun e => by cases e), cell_row m3 s (fun e => by cases e), cell_row m4 s (fun e => by cases e), cell_row m5 s (fun e => by cases e)⟩) (first | (go_at_call 19; with_reducible refine Calls.mono (H1.out _ (HCr.out.kept s)) ?_; rintro e W8 ⟨v1, rfl, o8, hs⟩; (try replace I2 := IB.kept I2 hs); (try replace J1 := IB.kept J1 hs); (try replace J2 := IB.kept J2 hs); have I1 := o8.ib; replace s := only_trans s hs; clear o8 hs) | (go_at_call 20; with_reducible refine Calls.mono (H2.out _ (HCr.out.kept s)) ?_; rintro e W8 ⟨v2, rfl, o8, hs⟩; (try replace I1 := IB.kept I1 hs); (try replace J1 := IB.kept J1 hs); (try replace J2 := IB.kept J2 hs); have I2 := o8.ib; replace s := only_trans s hs; clear o8 hs) | (go_at_call 21; with_reducible refine Calls.mono (H3.out _ s) ?_; rintro e W8 ⟨v3, rfl, o8, hs⟩; (try replace I1 := IB.kept I1 hs); (try replace I2 := IB.kept I2 hs); (try replace J2 := IB.kept J2 hs); have J1 := o8.ib; replace s := only_trans s hs; clear o8 hs) | (go_at_call 22; with_reducible refine Calls.mono (H4.out _ s) ?_; rintro e W8 ⟨v4, rfl, o8, hs⟩; (try replace I1 := IB.kept I1 hs); (try replace I2 := IB.kept I2 hs); (try replace J1 := IB.kept J1 hs); have J2 := o8.ib; replace s := only_trans s hs; clear o8 hs) | (go_at_call 18; with_reducible refine Calls.mono (bints_same J1 J2 HTLL.out) ?_; rintro e W8 ⟨rfl, hs⟩; replace s := only_trans s hs; clear hs) | (go_at_call 18; with_reducible refine Calls.mono (bints_same I1 I2 HGIL.out) ?_; rintro e W8 ⟨rfl, hs⟩; (try replace J1 := IB.kept J1 hs); (try replace J2 := IB.kept J2 hs); replace s := only_trans s hs; clear hs) | fail)
        all_goals go_wp2_with fail
        all_goals go_meet
        all_goals exact ⟨rfl, s⟩
      case rest =>
        obtain ⟨rfl, hg9⟩ := hcut
        have HGA := Lib.hid (only_trans HG.out hg9)
        clear hg9 m0 m1 m2 m3 m4 m5
        go_wp2_with fail
        go_roundw
        case rel => exact ⟨i + 1, by omega, by go_num, HGA.out⟩
        case measure => simp [intOf]; omega
    · have hge : (n : Int) ≤ (i : Int) := by omega
      clear hg
      go_wp2_with fail
      go_loopw [8] (fun z wr => ∃ k : Int, -2 ≤ k ∧ k ≤ 30 ∧ z = .int .i64 k ∧ w.grownBy wr none) (fun z _ => (30 - intOf z).toNat)
      case atStart => exact ⟨-2, by omega, by omega, rfl, HG.out⟩
      case round =>
        obtain ⟨k, hk0, hk1, rfl, hg⟩ := hrel
        have HK := Lib.hid hg
        clear hg
        by_cases hklt : k < 30
        · obtain ⟨cb, hcb⟩ : ∃ cb, closeB k = cb := ⟨_, rfl⟩
          obtain ⟨tb, htb⟩ : ∃ tb, talkB k = tb := ⟨_, rfl⟩
          have k1 := fun w => blCloses_any k w
          have k2 := fun w => bcloses_any k w
          have k3 := fun w => blTalks_any k w
          have k4 := fun w => btalks_any k w
          rw [hcb] at k1 k2
          rw [htb] at k3 k4
          clear hcb htb
          go_wp2_with fail
          refine (k1 _).mono ?_
          rintro e w1 ⟨rfl, g1⟩
          go_wp2_with fail
          refine (k2 _).mono ?_
          rintro e w2 ⟨rfl, g2⟩
          replace g2 := only_trans g1 g2
          clear g1 k1 k2
          go_wp2_with fail
          refine (k3 _).mono ?_
          rintro e w3 ⟨rfl, g3⟩
          replace g3 := only_trans g2 g3
          clear g2
          go_wp2_with fail
          refine (k4 _).mono ?_
          rintro e w4 ⟨rfl, g4⟩
          have HGB := Lib.hid (only_trans HK.out (only_trans g3 g4))
          clear g3 g4 k3 k4
          go_wp2_with fail
          go_roundw
          case rel => exact ⟨k + 1, by omega, by omega, by go_num, HGB.out⟩
          case measure => simp [intOf]; omega
        · have hk30 : (30 : Int) ≤ k := by omega
          go_wp2_with fail
          refine (works_any _).mono ?_
          rintro e w9 ⟨rfl, g9⟩
          have HGC := Lib.hid (only_trans HK.out g9)
          clear g9
          go_wp2_with fail
          go_ret
          exact ⟨rfl, HGC.out⟩
end Go.Proofs.Ytnejikkibneegaa

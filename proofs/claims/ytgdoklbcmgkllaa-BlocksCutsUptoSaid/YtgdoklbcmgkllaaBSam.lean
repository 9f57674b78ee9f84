/- The document's Same (colloquyref10), of like flows. -/
import Derived.Test.YtgdoklbcmgkllaaBTlk
namespace Go.Proofs.Ytgdoklbcmgkllaa
open Go.RowKit

/-- Two flows, as they are boxed. -/
structure Sm (w0 : World) (B C : Nat) (A1 A2 A3 A4 : Option Addr) (n c1 c2 c3 c4 : Nat) (f : List Nat × List (List Nat)) (W : World) : Prop where
  g : w0.grownBy W none
  p : Blk W B 27 #[.slice A1 n c1, .slice A2 n c2]
  q : Blk W C 27 #[.slice A3 n c3, .slice A4 n c4]
  s1 : IB W (.slice A1 n c1) (intsN f.1)
  x1 : NX W (.slice A2 n c2) (f.2.map intsN)
  s2 : IB W (.slice A3 n c3) (intsN f.1)
  x2 : NX W (.slice A4 n c4) (f.2.map intsN)
theorem Sm.kept {w0 W W' : World} {B C : Nat} {A1 A2 A3 A4 : Option Addr} {n c1 c2 c3 c4 : Nat} {f : List Nat × List (List Nat)} (h : Sm w0 B C A1 A2 A3 A4 n c1 c2 c3 c4 f W) (hg : W.grownBy W' none) : Sm w0 B C A1 A2 A3 A4 n c1 c2 c3 c4 f W' :=
  ⟨only_trans h.g hg, h.p.kept hg, h.q.kept hg, h.s1.kept hg, h.x1.kept hg, h.s2.kept hg, h.x2.kept hg⟩
set_option maxRecDepth 100000 in
set_option maxHeartbeats 4000000 in
theorem bsame_any (f : List Nat × List (List Nat)) (u v : Value) (w : World) (hu : FlowA w u f) (hv : FlowA w v f) (hlen : f.2.length = f.1.length) (hn : f.1.length ≤ 1000) (hl : ∀ l ∈ f.2, l.length ≤ 10000000) : Calls Try.prog 6 #[u, v] w fun e w' => e = .returned (.bool true) ∧ w.grownBy w' none := by
  obtain ⟨A1, n1, c1, A2, n2, c2, rfl, e1, e2, hs1, hx1⟩ := flow_slices hu
  obtain ⟨A3, n3, c3, A4, n4, c4, rfl, e3, e4, hs2, hx2⟩ := flow_slices hv
  obtain ⟨n, hnn⟩ : ∃ n, f.1.length = n := ⟨_, rfl⟩
  replace e1 : n = n1 := (e1.trans hnn).symm
  replace e2 : n = n2 := (e2.trans (hlen.trans hnn)).symm
  replace e3 : n = n3 := (e3.trans hnn).symm
  replace e4 : n = n4 := (e4.trans (hlen.trans hnn)).symm
  subst e1
  subst e2
  subst e3
  subst e4
  have hnI : (n : Int) ≤ 1000 := by omega
  have hga : w.grownBy ((w.alloc (.cells #[.slice A1 n c1, .slice A2 n c2] 27)).alloc (.cells #[.slice A3 n c3, .slice A4 n c4] 27)) none := only_alloc (only_alloc (only_refl _ _) _) _
  have HS : Hid (Sm w w.heap.size (w.heap.size + 1) A1 A2 A3 A4 n c1 c2 c3 c4 f ((w.alloc (.cells #[.slice A1 n c1, .slice A2 n c2] 27)).alloc (.cells #[.slice A3 n c3, .slice A4 n c4] 27))) :=
    Lib.hid ⟨hga, (Blk.new _ _ _).alloc _, blk_atB (by simp) _ _, hs1.kept hga, hx1.kept hga, hs2.kept hga, hx2.kept hga⟩
  have HNN := Lib.hid hnn
  have HLEN := Lib.hid hlen
  have HLL := Lib.hid hl
  clear hu hv hs1 hx1 hs2 hx2 hga hnn hlen hl hn
  go_enter Try.func6, Try.ntmps6
  go_upto_region 1 with fail
  generalize ((w.alloc (.cells #[.slice A1 n c1, .slice A2 n c2] 27)).alloc (.cells #[.slice A3 n c3, .slice A4 n c4] 27)) = w1 at *
  generalize w.heap.size = B at *
  have p0 : w1.cell? ⟨B, 0, none⟩ = some (.slice A1 n c1) := HS.out.p.cell 0
  have p1 : w1.cell? ⟨B, 1, none⟩ = some (.slice A2 n c2) := HS.out.p.cell 1
  have q0 : w1.cell? ⟨B + 1, 0, none⟩ = some (.slice A3 n c3) := HS.out.q.cell 0
  have q1 : w1.cell? ⟨B + 1, 1, none⟩ = some (.slice A4 n c4) := HS.out.q.cell 1
  go_wp2_with fail
  clear p0 p1 q0 q1
  go_loopw [5] (fun z wr => ∃ i : Nat, i ≤ n ∧ z = .int .i64 (i : Int) ∧ Sm w B (B + 1) A1 A2 A3 A4 n c1 c2 c3 c4 f wr) (fun z _ => n - (intOf z).toNat)
  case atStart => exact ⟨0, Nat.zero_le _, rfl, HS.out⟩
  case round =>
    obtain ⟨i, hi, rfl, hS⟩ := hrel
    have HS2 := Lib.hid hS
    have hi0 : (0 : Int) ≤ (i : Int) := by omega
    have p0 : wr.cell? ⟨B, 0, none⟩ = some (.slice A1 n c1) := hS.p.cell 0
    by_cases hlt : i < n
    · have hltI : (i : Int) < (n : Int) := by omega
      have p1 : wr.cell? ⟨B, 1, none⟩ = some (.slice A2 n c2) := hS.p.cell 1
      have q0 : wr.cell? ⟨B + 1, 0, none⟩ = some (.slice A3 n c3) := hS.q.cell 0
      have q1 : wr.cell? ⟨B + 1, 1, none⟩ = some (.slice A4 n c4) := hS.q.cell 1
      obtain ⟨s, hs⟩ : ∃ s, f.1[i]? = some s := ⟨_, List.getElem?_eq_getElem (by rw [HNN.out]; exact hlt)⟩
      obtain ⟨l, hl⟩ : ∃ l, f.2[i]? = some l := ⟨_, List.getElem?_eq_getElem (by rw [HLEN.out, HNN.out]; exact hlt)⟩
      have hs' : (intsN f.1)[i]? = some (s : Int) := by unfold intsN; rw [List.getElem?_map, hs]; rfl
      have hl' : (f.2.map intsN)[i]? = some (intsN l) := by rw [List.getElem?_map, hl]; rfl
      have hll := HLL.out l (List.mem_of_getElem? hl)
      obtain ⟨m, hm⟩ : ∃ m, (intsN l).length = m := ⟨_, rfl⟩
      have hml : l.length = m := by rw [← hm]; simp [intsN]
      obtain ⟨b1, o1, h1, k1⟩ := hS.s1.at_ hs'
      obtain ⟨b3, o3, h3, k3⟩ := hS.s2.at_ hs'
      obtain ⟨b2, o2, A5, c5, h2, k2, hi5⟩ := hS.x1.at_ hl'
      obtain ⟨b4, o4, A6, c6, h4, k4, hi6⟩ := hS.x2.at_ hl'
      rw [hm] at k2 k4 hi5 hi6
      subst h1
      subst h2
      subst h3
      subst h4
      have hmI : (m : Int) ≤ 10000000 := by omega
      have HI5 := Lib.hid hi5
      have HI6 := Lib.hid hi6
      have HML := Lib.hid hml
      clear hS hs hl hs' hl' hll hm hml hi5 hi6
      go_upto_region 6 with fail
      go_quiet (fail)
      have hgq : wr.grownBy (wr.drewN nq) none := only_drewN (only_refl _ _) _
      have HS3 := Lib.hid (HS2.out.kept hgq)
      have HJ5 := Lib.hid (HI5.out.kept hgq)
      have HJ6 := Lib.hid (HI6.out.kept hgq)
      have K2 := Lib.hid (cell_row k2 hgq (fun e => by cases e))
      have K4 := Lib.hid (cell_row k4 hgq (fun e => by cases e))
      clear hgq p0 p1 q0 q1 k1 k2 k3 k4 HI5 HI6 HS2
      generalize wr.drewN nq = wq at *
      go_wp2_with fail
      go_loopw [6] (fun z wx => ∃ k : Nat, k ≤ m ∧ z = .int .i64 (k : Int) ∧ wq.grownBy wx none) (fun z _ => m - (intOf z).toNat)
      case atStart => exact ⟨0, Nat.zero_le _, rfl, only_refl _ _⟩
      case round =>
        obtain ⟨k, hk, rfl, hg⟩ := hrel
        have hk0 : (0 : Int) ≤ (k : Int) := by omega
        have HG := Lib.hid hg
        have hS := HS3.out.kept hg
        have p1 : wr.cell? ⟨B, 1, none⟩ = some (.slice (some ⟨b2, o2, none⟩) n c2) := hS.p.cell 1
        have k2 := cell_row K2.out hg (fun e => by cases e)
        by_cases hkm : k < m
        · have hkI : (k : Int) < (m : Int) := by omega
          have q1 : wr.cell? ⟨B + 1, 1, none⟩ = some (.slice (some ⟨b4, o4, none⟩) n c4) := hS.q.cell 1
          have k4 := cell_row K4.out hg (fun e => by cases e)
          obtain ⟨t, ht⟩ : ∃ t, l[k]? = some t := ⟨_, List.getElem?_eq_getElem (by rw [HML.out]; exact hkm)⟩
          have ht' : (intsN l)[k]? = some (t : Int) := by unfold intsN; rw [List.getElem?_map, ht]; rfl
          obtain ⟨b5, o5, h5, z5⟩ := (HJ5.out.kept hg).at_ ht'
          obtain ⟨b6, o6, h6, z6⟩ := (HJ6.out.kept hg).at_ ht'
          subst h5
          subst h6
          clear hS ht ht' hg
          go_upto_region 11 with fail
          go_quiet (fail)
          have hgq : wr.grownBy (wr.drewN nq) none := only_drewN (only_refl _ _) _
          have HG2 := Lib.hid (only_trans HG.out hgq)
          clear hgq p1 q1 k2 k4 z5 z6
          go_wp2_with fail
          go_roundw
          case rel => exact ⟨k + 1, by omega, by go_num, HG2.out⟩
          case measure => simp [intOf]; omega
        · have hge : (m : Int) ≤ (k : Int) := by omega
          have HS4 := Lib.hid hS
          clear hS hg
          go_wp2_with fail
          go_roundw
          case rel => exact ⟨i + 1, by omega, by go_num, HS4.out⟩
          case measure => simp [intOf]; omega
    · have hge : (n : Int) ≤ (i : Int) := by omega
      clear hS
      go_wp2_with fail
      go_ret
      exact ⟨rfl, HS2.out.g⟩
end Go.Proofs.Ytgdoklbcmgkllaa

/- GraphWays: the walk. -/
import Derived.Test.YthjkgjkiikomdaaGMade
import Derived.Test.YthjkgjkiikomdaaGWyP
import Derived.Test.YthjkgjkiikomdaaGLeads
namespace Go.Proofs.Ythjkgjkiikomdaa
open Go.RowKit Go.Shelf

/-- What stands in the loop. -/
def WS (w : World) (v : Value) (xs : List Nd) (W : World) : Prop := w.grownBy W none ∧ Tbl W v xs

set_option maxRecDepth 100000 in
set_option maxHeartbeats 4000000 in
theorem gways_any (qs : List Qd) (A : Option Addr) (c : Nat) (size off : Int) (hs0 : 0 ≤ size) (hs1 : size < 256) (ho0 : 0 ≤ off) (ho1 : off < 65536) (w : World) (hQ : Quads w (.slice A qs.length c) qs) :
    Calls Try.prog 5 #[.slice A qs.length c, .int .u8 size, .int .u16 off] w fun e w' => e = .returned (.bool true) ∧ w.grownBy w' none := by
  have HQ := Lib.hid hQ
  clear hQ
  by_cases hq : qs.length = 0
  · have hq' : (qs.length : Int) = 0 := by omega
    go_enter Try.func5, Try.ntmps5
    go_wp2_with (go_at_call 10; go_must (refine (works_any _).mono ?_; rintro e W8 ⟨rfl, hg⟩; have HG := Lib.hid hg; clear hg))
    go_ret
    exact ⟨rfl, HG.out⟩
  · have hq' : ¬ (qs.length : Int) = 0 := by omega
    obtain ⟨n, hn⟩ : ∃ n : Nat, 1 + size % 40 = (n : Int) := ⟨(1 + size % 40).toNat, by omega⟩
    have HN : Hid (1 ≤ n ∧ n ≤ 40) := ⟨by omega, by omega⟩
    have HP : Hid (0 < qs.length) := show _ < _ by omega
    clear hq
    go_enter Try.func5, Try.ntmps5
    go_wp2_with (first | (go_at_call 10; go_must (refine (works_any _).mono ?_; rintro e W8 ⟨rfl, hg⟩; have HG := Lib.hid hg; clear hg)) | (go_at_call 13; go_must (refine (made_any qs _ _ n HN.out.1 HN.out.2 _ (HQ.out.keep (.grown HG.out)) HP.out).mono ?_; rintro e W9 ⟨v, ns, rfl, hg, hom, hlen, hgd⟩; have HG2 := Lib.hid (only_trans HG.out hg); clear hg; have HT := Lib.hid hom.ot.tbl; have HL := Lib.hid hlen; have HGD := Lib.hid hgd; clear hom hlen hgd)))
    have HX : Hid (∀ x ∈ ns.map (·.1), Good (ns.map (·.1)).length x) := fun x hx => by
      obtain ⟨p, hp, rfl⟩ := List.mem_map.1 hx
      rw [List.length_map, HL.out]
      exact HGD.out p hp
    have HXL : Hid ((ns.map (·.1)).length = n) := show _ = _ by rw [List.length_map]; exact HL.out
    clear HL HGD HQ HG
    generalize ns.map (·.1) = xs at *
    obtain ⟨b, er, hce, hcase, hlost, hnot⟩ := check_good HX.out (by have := HXL.out; have := HN.out.1; omega) (by have := HXL.out; have := HN.out.2; omega)
    have HCE := Lib.hid hce
    have HLO := Lib.hid hlost
    have HNO := Lib.hid hnot
    have HCA := Lib.hid hcase
    have HSZ : Hid (xs.length ≤ 140737488351232) := show _ ≤ _ by have := HXL.out; have := HN.out.2; omega
    clear hce hlost hnot hcase
    refine (check_any xs v _ HT.out HSZ.out).mono ?_
    rintro e W10 ⟨rfl, hg⟩
    rw [HCE.out]
    have s : WS w v xs W10 := ⟨only_trans HG2.out hg, HT.out.keep (.grown hg)⟩
    have HS := Lib.hid s
    clear s hg HT HG2
    have hv : ∃ A3 c3, v = .slice A3 xs.length c3 := by
      obtain ⟨A3, c3, h, _⟩ := HS.out.2
      exact ⟨A3, c3, h⟩
    obtain ⟨A3, c3, rfl⟩ := hv
    have hnn : (n : Int) ≤ 40 := by have := HN.out.2; omega
    go_upto_region 8 with fail
    go_cut [43] from 31 to 42 (fun cv wx => cv = .bool false ∧ wx = W10)
    case first =>
      rcases HCA.out with ⟨rfl, rfl⟩ | ⟨rfl, hb⟩
      · go_wp2_with fail
        go_meet
        exact ⟨rfl, rfl⟩
      · have hb1 : (b == -1) = false := beq_eq_false_iff_ne.2 (by omega)
        go_wp2_with fail
        go_meet
        exact ⟨rfl, rfl⟩
    case rest =>
      obtain ⟨rfl, rfl⟩ := hcut
      clear HCE hn hq' HP
      go_wp2_with fail
      go_loopw [11] (fun i wr => ∃ k : Nat, k ≤ n ∧ i = .int .i64 (k : Int) ∧ WS w (.slice A3 xs.length c3) xs wr) (fun i _ => n - (intOf i).toNat)
      case atStart => exact ⟨0, Nat.zero_le _, rfl, HS.out⟩
      case round =>
        clear HS
        obtain ⟨wo, rfl⟩ : ∃ wo : World, wo = wr := ⟨_, rfl⟩
        obtain ⟨k, hk, rfl, hs⟩ := hrel
        have HS := Lib.hid hs
        clear hs
        by_cases hlt : k < n
        · have hlt' : (k : Int) < (n : Int) := by omega
          have hxk : k < xs.length := by have := HXL.out; omega
          obtain ⟨y, hy⟩ : ∃ y, xs[k]? = some y := ⟨_, List.getElem?_eq_getElem hxk⟩
          have HGY := Lib.hid (HX.out y (List.mem_of_getElem? hy))
          have HNY : Hid (nodeAt xs (k : Int) = some y) := nodeAt_nat.trans hy
          obtain ⟨A', c', hA, hcl⟩ := HS.out.2
          obtain ⟨bb, off0, hAb, hcl2⟩ := hcl (by intro e0; rw [e0] at hxk; simp at hxk)
          obtain ⟨v', hE, m0, _, _, _, _, m5⟩ := hcl2 k y hy
          obtain ⟨rfl, rfl⟩ : A3 = A' ∧ c3 = c' := by simpa using hA
          subst hAb
          have HCL := Lib.hid hcl2
          have HE := Lib.hid hE
          have hbb := cell_lt m0
          have hxn : (xs.length : Int) = (n : Int) := by have := HXL.out; omega
          have hkx : (k : Int) < (xs.length : Int) := by omega
          have hk0 : 0 ≤ (k : Int) := by omega
          clear hA hcl hcl2 hE
          by_cases hl : lostB xs k = true
          · have hky : y.kind = 5 := Classical.byContradiction fun hne => by
              rw [lost_not hy hne] at hl; cases hl
            have HR : Hid (resolveL xs ((k : Int), 0) = (-1, 0)) := by
              rcases resolve_at xs ((k : Int), 0) with h | ⟨x, hx, _⟩
              · exact h
              · have a1 := (nodeAt_some hx).1
                have a2 := (lost_iff xs k).2 hl
                omega
            obtain ⟨rfl, hbk⟩ := HLO.out k hxk hl
            rw [hky] at m0
            clear hl hky m5 hy hxk hlt hk
            go_wp2_with (go_at_call 11; go_must (refine (resolve_any xs _ ((k : Int), 0) _ HS.out.2 HSZ.out).mono ?_; rw [HR.out]; rintro e W8 ⟨rfl, hg⟩; have HG8 := Lib.hid hg; have m0' := Keeps.grown hg _ _ m0; have hb8 := cell_lt m0'; clear hg))
            exact ⟨⟨k + 1, by omega, by go_num, only_alloc (only_trans HS.out.1 HG8.out) _, (HS.out.2.keep (.grown HG8.out)).keep (.alloc _ _)⟩, by simp [intOf]; omega⟩
          · rcases resolve_at xs ((k : Int), 0) with h | ⟨x, hx, hxk5⟩
            · exact absurd ((lost_iff xs k).1 (by rw [h]; decide)) hl
            · generalize hr : resolveL xs ((k : Int), 0) = a at *
              obtain ⟨an, ao⟩ := a
              dsimp only at hx
              obtain ⟨ha0, ha1, hax⟩ := nodeAt_some hx
              obtain ⟨m, rfl⟩ : ∃ m : Nat, an = m := ⟨an.toNat, by omega⟩
              rw [Int.toNat_natCast] at hax
              obtain ⟨_, _, n0, _⟩ := HCL.out m x hax
              have hk5 : (x.kind == 5) = false := beq_eq_false_iff_ne.2 hxk5
              have hkb : ((k : Int) == b) = false := beq_eq_false_iff_ne.2 (HNO.out k hxk (by simpa using hl))
              have hmn : (m : Int) < (n : Int) := by omega
              have hmn' : decide ((n : Int) ≤ (m : Int)) = false := decide_eq_false (by omega)
              have hmnN : decide (n ≤ m) = false := decide_eq_false (by omega)
              have HR := Lib.hid hr
              have HRS : Hid (resolveL xs ((m : Int), ao) = ((m : Int), ao)) := resolve_fix (a := ((m : Int), ao)) hx hxk5
              have hwo : IntKind.i64.wrap off = off := IntWalk.i64_in _ ⟨by omega, by omega⟩
              obtain ⟨S, hS⟩ : ∃ S, IntKind.i64.wrap (ao + off) = S := ⟨_, rfl⟩
              have hS2 : wrap64 (ao + off) = S := (IntWalk.i64_left _).symm.trans hS
              have HRO : Hid (resolveL xs ((k : Int), off) = ((m : Int), S)) := by
                have h1 := resolve_shift off hr hx
                have e1 : wrap64 (0 + off) = off := by unfold wrap64; omega
                have e2 : wrap64 (ao + off) = S := hS2
                rw [e1, e2] at h1
                exact h1
              clear hl hr hx hxk5 hax hy hxk hlt hk ha1
              go_wp2_with (go_at_call 11; go_must (refine (resolve_any xs _ ((k : Int), 0) _ HS.out.2 HSZ.out).mono ?_; rw [HR.out]; rintro e W8 ⟨rfl, hg⟩; have HG8 := Lib.hid hg; clear hg))
              generalize hW : W8.alloc (Obj.cells #[Value.int IntKind.i64 (m : Int), Value.int IntKind.i64 ao] 30) = W7 at *
              have s : GS wo xs (.slice (some ⟨bb, off0, none⟩) xs.length c3) (.slice (some ⟨bb, off0, none⟩) xs.length c3) xs W8.heap.size ((m : Int), ao) W7.drew := by
                rw [← hW]
                exact ⟨only_drew (only_alloc HG8.out _), (HS.out.2.keep (.grown HG8.out)).keep (.alloc _ _), (HS.out.2.keep (.grown HG8.out)).keep (.alloc _ _), Blk.drew (Blk.new _ _ (edCells ((m : Int), ao)))⟩
              clear hW
              generalize W8.heap.size = B12 at *
              go_region_held3 (fun w' => w'.cell? ⟨B12, 0, none⟩ = some (.int .i64 (m : Int)) ∧ w'.cell? ⟨B12, 1, none⟩ = some (.int .i64 ao) ∧ w'.cell? ⟨bb, off0 + m * 6, none⟩ = some (.int .i64 x.kind)) (exact ⟨s.cells.1, s.cells.2, Keeps.grown s.step _ _ n0⟩) ((go_at_call 11; (with_reducible refine (resolve_any xs _ ((m : Int), ao) _ s.nodes HSZ.out).mono ?_); rw [HRS.out]; rintro e W9 ⟨rfl, hg⟩; replace s := s.none_ hg; clear hg))
              replace s := s.drew
              go_wp2_with fail
              go_region_held3 (fun w' => w'.cell? ⟨B12, 0, none⟩ = some (.int .i64 (m : Int)) ∧ w'.cell? ⟨B12, 1, none⟩ = some (.int .i64 ao)) (exact s.cells) ((go_at_call 11; (with_reducible refine (resolve_any xs _ ((k : Int), off) _ s.nodes HSZ.out).mono ?_); rw [HRO.out]; rintro e W9 ⟨rfl, hg⟩; replace s := s.none_ hg; clear hg))
              have k0 := Keeps.grown s.step _ _ m0
              have HZ : Hid (WS w (.slice (some ⟨bb, off0, none⟩) xs.length c3) xs W9) := ⟨only_trans HS.out.1 s.step, s.nodes⟩
              have HSb := Lib.hid s
              clear n0 m0
              by_cases hky : y.kind = 5
              · rw [hky] at k0
                obtain ⟨⟨ea, es⟩, hye, hon, hok⟩ := good_one HGY.out hky
                have HRE : Hid (resolveL xs (ea, es) = ((m : Int), ao)) := by
                  have h1 := resolve_next (t := ((k : Int), 0)) HNY.out hon
                  have e1 : stepT ((k : Int), 0) (ea, es) = (ea, es) := by
                    have h2 := hok.2.2
                    have h3 : wrap64 (0 + es) = es := by
                      have h4 : 0 ≤ es ∧ es ≤ 1000 := h2
                      rw [Int.zero_add]
                      exact IntWalk.wrap64_in _ ⟨by omega, by omega⟩
                    show ((ea : Int), wrap64 (0 + es)) = (ea, es)
                    rw [h3]
                  rw [e1, HR.out] at h1
                  exact h1
                obtain ⟨A2, c2, hv2, _, hE2⟩ := HE.out
                rw [hye] at hv2 hE2
                obtain ⟨b2, off2, rfl, hce⟩ := hE2 (by simp)
                obtain ⟨e0, e1⟩ := hce 0 (ea, es) rfl
                simp only [Nat.zero_mul, Nat.add_zero] at e0 e1
                rw [hv2] at m5
                have k5 := Keeps.grown s.step _ _ m5
                have q0 := Keeps.grown s.step _ _ e0
                have q1 := Keeps.grown s.step _ _ e1
                clear m5 e0 e1 hce hE2 hv2 hye hon hok hky s HE
                go_wp2_with fail
                have HZ7 : Hid (WS w (.slice (some ⟨bb, off0, none⟩) xs.length c3) xs (W9.alloc (.cells #[.int .i64 ea, .int .i64 es] 32))) := ⟨only_alloc HZ.out.1 _, HZ.out.2.keep (.alloc _ _)⟩
                have s : GS (W9.alloc (.cells #[.int .i64 ea, .int .i64 es] 32)) xs (.slice (some ⟨bb, off0, none⟩) xs.length c3) (.slice (some ⟨bb, off0, none⟩) xs.length c3) xs B12 ((m : Int), ao) (W9.alloc (.cells #[.int .i64 ea, .int .i64 es] 32)).drew :=
                  ⟨only_drew (only_refl _ _), HSb.out.nodes.keep (.alloc _ _), HSb.out.nodes.keep (.alloc _ _), (HSb.out.box.alloc _).drew⟩
                have hed : Blk (W9.alloc (.cells #[.int .i64 ea, .int .i64 es] 32)) W9.heap.size 32 (edCells (ea, es)) := Blk.new _ _ _
                clear HSb HZ k0 k5 q0 q1
                generalize W9.heap.size = B13 at *
                generalize W9.alloc (.cells #[.int .i64 ea, .int .i64 es] 32) = W7 at *
                go_region_held3 (fun w' => w'.cell? ⟨B12, 0, none⟩ = some (.int .i64 (m : Int)) ∧ w'.cell? ⟨B12, 1, none⟩ = some (.int .i64 ao) ∧ w'.cell? ⟨B13, 0, none⟩ = some (.int .i64 ea) ∧ w'.cell? ⟨B13, 1, none⟩ = some (.int .i64 es)) (exact ⟨s.cells.1, s.cells.2, (hed.kept s.step).cell 0, (hed.kept s.step).cell 1⟩) ((go_at_call 11; (with_reducible refine (resolve_any xs _ (ea, es) _ s.nodes HSZ.out).mono ?_); rw [HRE.out]; rintro e W9 ⟨rfl, hg⟩; replace s := s.none_ hg; clear hg))
                have HZ9 : Hid (WS w (.slice (some ⟨bb, off0, none⟩) xs.length c3) xs W9) := ⟨only_trans HZ7.out.1 s.step, s.nodes⟩
                clear s hed HZ7
                go_wp2_with fail
                exact ⟨⟨k + 1, by omega, by go_num, HZ9.out⟩, by simp [intOf]; omega⟩
              · have hk5' : (y.kind == 5) = false := beq_eq_false_iff_ne.2 hky
                clear hky m5 s
                go_wp2_with fail
                exact ⟨⟨k + 1, by omega, by go_num, HZ.out⟩, by simp [intOf]; omega⟩
        · have hge : decide (k < n) = false := decide_eq_false hlt
          have hge' : (n : Int) ≤ (k : Int) := by omega
          clear hlt hk
          go_wp2_with fail
          go_ret
          exact ⟨rfl, HS.out.1⟩
end Go.Proofs.Ythjkgjkiikomdaa

/- unfold: a type's parts, one by one. -/
import Derived.Test.YtoklaajiajilhaaDoorVFn
import Derived.Test.YtoklaajiajilhaaDoorVLaw
import Derived.Sort.CutIn
namespace Go.Proofs.YtoklaajiajilhaaDoor
open Go.RowKit Go.Shelf
attribute [local go_sem] Oper.semAt_some

theorem parts_any (A : Option Addr) (n c : Nat) (t : Ed) (w : World) :
    Calls Tryd.prog 22 #[.slice A n c, edV t] w fun e w' => e = .returned (.func (.func 29) #[] #[.pointer (some ⟨w.heap.size + 1, 0, none⟩), .pointer (some ⟨w.heap.size, 0, none⟩)]) ∧
      w' = (w.alloc (.cells #[.slice A n c] 22)).alloc (.cells (edCells t) 24) := by
  have hmf : ∀ (fn : Fn) (first cap : Array Value) (w : World), (Instr.makeFunc fn first cap).run Tryd.prog w = .ok (.func fn first cap) w := fun _ _ _ _ => rfl
  go_enter Tryd.func22, Tryd.ntmps22
  go_wp2
  go_ret
  exact ⟨rfl, rfl⟩

/-- What lies as the parts of a type are told. -/
structure PS (B : Nat) (ts : List TypeId) (W : World) (Bt Bx : Nat) (p : Ed) (x : Nd) (va : Value) (X : World) : Prop where
  kc : KB B ts W X
  ba : Blk X Bt 24 (edCells p)
  bx : Blk X Bx 39 (ndCells x va)
theorem PS.keeps {B : Nat} {ts : List TypeId} {W X Y : World} {Bt Bx : Nat} {p : Ed} {x : Nd} {va : Value} (h : PS B ts W Bt Bx p x va X) (hk : KB B ts X Y) (h1 : 24 ∉ ts) (h2 : 39 ∉ ts) : PS B ts W Bt Bx p x va Y := ⟨h.kc.trans hk, hk.typ _ _ _ h.ba h1, hk.typ _ _ _ h.bx h2⟩
/-- What must lie as parts are asked for: the type, the list, each in its box; w0: where the list lay. -/
structure PT (B Bt Bn : Nat) (v : Value) (xs : List Nd) (t : Ed) (w0 W : World) : Prop where
  sz : w0.heap.size = B
  tb : Tbl w0 v xs
  gr : w0.grownBy W none
  bt : Blk W Bt 24 (edCells t)
  bn : Blk W Bn 22 #[v]
set_option maxRecDepth 100000 in
set_option maxHeartbeats 2000000 in
/-- The parts of a type that was come to, one by one, until a round says 'no more'. -/
theorem parts_told (B Bt Bn : Nat) (ts : List TypeId) (k1 : 24 ∉ ts) (k2 : 39 ∉ ts) (w0 : World) (xs : List Nd) (v : Value) (t : Ed) (hxs : xs.length ≤ 1000) (ht : nodeAt xs t.1 = none → t.1 < 0) :
    TellsO Fence.wide 2 Tryd.prog 29 #[.pointer (some ⟨Bt, 0, none⟩), .pointer (some ⟨Bn, 0, none⟩)] (fun e => #[edV e]) (KB B ts) (PT B Bt Bn v xs t w0) (partsL xs t) := fun l J Jx W hJ hY h0 ⟨hsz, hT0, hg0, hbt, hbn⟩ => by
  have hT := hT0.keep (Keeps.grown hg0)
  have HK0 : Hid (∀ Y, KB B ts W Y → Keeps w0 Y) := Lib.hid fun Y hY a u hc => hY.keep (by rw [← hsz]; exact cell_lt hc) (Keeps.grown hg0 _ _ hc)
  refine callsIn_of_wp Tryd.func29 rfl trivial ?_ rfl
  simp only [Tryd.ntmps29, List.size_toArray, List.length_cons, List.length_nil, Nat.reduceAdd, Nat.reduceSub, Array.replicate_succ, Array.replicate_zero, List.push_toArray, List.append_toArray, List.nil_append, List.cons_append]
  have HT := Lib.hid hT0
  obtain ⟨A, cap, rfl, hcell⟩ := hT
  clear hT0
  obtain ⟨i, o⟩ := t
  have c0 : W.cell? ⟨Bt, 0, none⟩ = some (.int .i64 i) := hbt.cell 0
  have c1 : W.cell? ⟨Bt, 1, none⟩ = some (.int .i64 o) := hbt.cell 1
  have cn : W.cell? ⟨Bn, 0, none⟩ = some (.slice A xs.length cap) := hbn.cell 0
  have HY := Lib.hid hY
  have HJ := Lib.hid hJ
  have H0 := Lib.hid h0
  clear hY hJ h0
  cases hn : nodeAt xs i with
  | none =>
    have hi : i < 0 := ht hn
    have HP : Hid (partsL xs (i, o) = []) := Lib.hid (by unfold partsL; rw [hn])
    have hid : decide (i < 0) = true := decide_eq_true hi
    clear hcell hn ht
    gi_wp2_with fail
    refine ⟨trivial, ?_⟩
    gi_wp2_with fail
    refine bodyPost_ret (results_none rfl _ _ _) rfl ?_
    exact ⟨⟨_, rfl⟩, .inl (by rw [HP.out]; exact H0.out)⟩
  | some x =>
    have HP : Hid (partsL xs (i, o) = if actsK x.kind then (payL x ++ x.next).map (stepT (i, o)) else []) := Lib.hid (by unfold partsL; rw [hn])
    obtain ⟨hi0, hi1, hix⟩ := nodeAt_some hn
    obtain ⟨j, rfl⟩ : ∃ m : Nat, i = m := ⟨i.toNat, by omega⟩
    rw [show ((j : Int)).toNat = j by simp] at hix
    obtain ⟨b, off, rfl, hcl2⟩ := hcell (by intro e0; rw [e0] at hi1; simp at hi1; omega)
    obtain ⟨vx, hE, n0, n1, n2, n3, n4, n5⟩ := hcl2 j x hix
    obtain ⟨A0, cap0, hA0, hcell0⟩ := HT.out
    obtain ⟨rfl, rfl⟩ : some ⟨b, off, none⟩ = A0 ∧ cap = cap0 := by simpa using hA0
    obtain ⟨b0, off0, hA1, hcl0⟩ := hcell0 (by intro e0; rw [e0] at hi1; simp at hi1; omega)
    obtain ⟨rfl, rfl⟩ : b = b0 ∧ off = off0 := by simpa using hA1
    obtain ⟨vx0, hE0, _, _, _, _, _, n50⟩ := hcl0 j x hix
    obtain rfl : vx = vx0 := Option.some.inj (n5.symm.trans (Keeps.grown hg0 _ _ n50))
    have HE := Lib.hid hE0
    clear hA0 hcell0 hA1 hcl0 n50 hE0
    obtain ⟨A2, c2, rfl, hl2, _⟩ := hE
    have hb := cell_lt n0
    obtain ⟨ka, hka⟩ : ∃ ka, actsK x.kind = ka := ⟨_, rfl⟩
    have HK := Lib.hid hka
    rw [hka] at HP
    have hlI : (xs.length : Int) ≤ 1000 := by omega
    clear hcell hcl2 hix hn ht hka hxs
    cases ka with
    | false =>
      have hid : decide ((j : Int) < 0) = false := decide_eq_false (by omega)
      gi_wp2_with (refine ⟨trivial, ?_⟩; gi_at_call 21; go_must (refine (callsIn_wide.2 (uacts_any _ _)).mono ?_; rw [HK.out]; rintro e W2 ⟨rfl, hg⟩; have HG := Lib.hid hg; clear hg))
      refine bodyPost_ret (results_none rfl _ _ _) rfl ?_
      exact ⟨⟨_, rfl⟩, .inl (by rw [HP.out]; exact HJ.out _ _ _ H0.out HG.out)⟩
    | true =>
      have hid : decide ((j : Int) < 0) = false := decide_eq_false (by omega)
      have HPP : Hid (partsL xs ((j : Int), o) = (payL x).map (stepT ((j : Int), o)) ++ x.next.map (stepT ((j : Int), o))) := Lib.hid (by rw [HP.out, if_pos rfl, List.map_append])
      clear HP
      gi_upto_region 1 with (refine ⟨trivial, ?_⟩; gi_at_call 21; go_must (refine (callsIn_wide.2 (uacts_any _ _)).mono ?_; rw [HK.out]; rintro e W2 ⟨rfl, hg⟩; have HG := Lib.hid hg; have p0 := Keeps.grown hg _ _ c0; have p1 := Keeps.grown hg _ _ c1; have pn := Keeps.grown hg _ _ cn; have q0 := Keeps.grown hg _ _ n0; have q1 := Keeps.grown hg _ _ n1; have q2 := Keeps.grown hg _ _ n2; have q3 := Keeps.grown hg _ _ n3; have q4 := Keeps.grown hg _ _ n4; have q5 := Keeps.grown hg _ _ n5; have hb2 := cell_lt q0; clear hg))
      clear n0 n1 n2 n3 n4 n5
      gi_upto_region 2 with fail
      have hS : PS B ts W Bt W2.heap.size ((j : Int), o) x (.slice A2 x.next.length c2) (W2.alloc (.cells (ndCells x (.slice A2 x.next.length c2)) 39)) :=
        ⟨(KB.grown HG.out).trans (.alloc _ _), (hbt.kept HG.out).alloc _, Blk.new _ _ _⟩
      have HJ0 : Hid (J [] (W2.alloc (.cells (ndCells x (.slice A2 x.next.length c2)) 39))) := Lib.hid (HJ.out _ _ _ H0.out (only_alloc HG.out _))
      have HG3 := Lib.hid (only_alloc HG.out (.cells (ndCells x (.slice A2 x.next.length c2)) 39))
      clear H0 HG hid hbt hbn HT
      generalize W2.heap.size = Bx at *
      generalize hW3 : World.alloc W2 _ = W3 at *
      have HS := Lib.hid hS
      have s1 : W3.cell? ⟨Bt, 1, none⟩ = some (.int .i64 o) := hS.ba.cell 1
      have x2 : W3.cell? ⟨Bx, 2, none⟩ = some (.bool x.chan) := hS.bx.cell 2
      have x3 : W3.cell? ⟨Bx, 3, none⟩ = some (.int .i64 x.pay.1) := hS.bx.cell 3
      have x4 : W3.cell? ⟨Bx, 4, none⟩ = some (.int .i64 x.pay.2) := hS.bx.cell 4
      have x5 : W3.cell? ⟨Bx, 5, none⟩ = some (.slice A2 x.next.length c2) := hS.bx.cell 5
      clear hS hW3 c0 c1 cn p0 p1 pn q0 q1 q2 q3 q4 q5
      obtain ⟨ch, hch⟩ : ∃ ch, x.chan = ch := ⟨_, rfl⟩
      have HCH := Lib.hid hch
      rw [hch] at x2
      rw [hch]
      clear hch
      have HE2 : Hid (∀ Y : World, KB B ts W3 Y → x.next ≠ [] → ∃ b3 o3, A2 = some ⟨b3, o3, none⟩ ∧ ∀ k e, x.next[k]? = some e → Y.cell? ⟨b3, o3 + k * 2, none⟩ = some (.int .i64 e.1) ∧ Y.cell? ⟨b3, o3 + k * 2 + 1, none⟩ = some (.int .i64 e.2)) := Lib.hid fun Y hY hne => by
        obtain ⟨A3, c3, hA, _, hcl⟩ := HE.out.keep (HK0.out Y (HS.out.kc.trans hY))
        obtain ⟨rfl, rfl⟩ : A2 = A3 ∧ c2 = c3 := by simpa using hA
        exact hcl hne
      obtain ⟨pre0, hpre0⟩ : ∃ pre0, (payL x).map (stepT ((j : Int), o)) = pre0 := ⟨_, rfl⟩
      have HPR := Lib.hid hpre0
      clear hpre0
      cases ch with
      | false =>
        have hpre : pre0 = [] := by rw [← HPR.out]; unfold payL; rw [HCH.out]; rfl
        have HW : Hid (J pre0 W3 ∧ KB B ts W3 W3) := Lib.hid ⟨by rw [hpre]; exact HJ0.out, .refl _ _ _⟩
        clear hpre HCH HJ0
        gi_wp2_with fail
        refine ⟨trivial, ?_⟩
        gi_wp2_with fail
        refine ⟨fun _ h => (by cases h), ?_⟩
        have y5 := x5
        clear x2 x3 x4 x5 s1
        gi_wp2_with fail
        gi_loopw [40] (fun i wr => ∃ k : Nat, k ≤ x.next.length ∧ i = .int .i64 (k : Int) ∧ J (pre0 ++ (x.next.take k).map (stepT ((j : Int), o))) wr ∧ KB B ts W3 wr) (fun i _ => x.next.length - (intOf i).toNat)
        case atStart => exact ⟨0, Nat.zero_le _, rfl, by rw [List.take_zero, List.map_nil, List.append_nil]; exact HW.out.1, HW.out.2⟩
        case round =>
          obtain ⟨k, hk, rfl, hJ1, hkc⟩ := hrel
          have HJ1 := Lib.hid hJ1
          have HK1 := Lib.hid hkc
          by_cases hlt : k < x.next.length
          · obtain ⟨⟨a, b9⟩, he⟩ : ∃ e, x.next[k]? = some e := ⟨_, List.getElem?_eq_getElem hlt⟩
            obtain ⟨b3, o3, rfl, hcl⟩ := HE2.out wr hkc (by intro e0; rw [e0] at hlt; simp at hlt)
            have d0 : wr.cell? ⟨b3, o3 + k * 2, none⟩ = some (.int .i64 a) := (hcl k _ he).1
            have d1 : wr.cell? ⟨b3, o3 + k * 2 + 1, none⟩ = some (.int .i64 b9) := (hcl k _ he).2
            have hSk := HS.out.keeps hkc k1 k2
            have z1 : wr.cell? ⟨Bt, 1, none⟩ = some (.int .i64 o) := hSk.ba.cell 1
            have hb3 := cell_lt d0
            have hbt := cell_lt z1
            have HQ : Hid (pre0 ++ (x.next.take (k + 1)).map (stepT ((j : Int), o)) = (pre0 ++ (x.next.take k).map (stepT ((j : Int), o))) ++ [(a, wrap64 (o + b9))]) := Lib.hid (by rw [take_len he, List.map_append, ← List.append_assoc]; rfl)
            have HPF : Hid ((pre0 ++ (x.next.take k).map (stepT ((j : Int), o))) ++ [(a, wrap64 (o + b9))] <+: partsL xs ((j : Int), o)) := Lib.hid (by rw [← HQ.out, HPP.out, HPR.out]; exact (List.prefix_append_right_inj _).2 ((List.take_prefix _ _).map _))
            have hk0 : (0 : Int) ≤ (k : Int) := by omega
            have hk1 : (k : Int) < (x.next.length : Int) := by omega
            have hl3 : (x.next.length : Int) ≤ 9223372036854775807 := by omega
            clear hcl hSk he hkc hJ1 y5
            gi_wp2_with (refine ⟨trivial, ?_⟩; gi_at_call 30; go_must (refine (callsIn_wide.2 (ualong_any (a, b9) o _)).mono ?_; rintro e W6 ⟨rfl, hg⟩; have HG6 := Lib.hid (only_trans (only_alloc (only_refl _ _) _) hg); obtain ⟨fn, tmps, assign, body, hy, hR⟩ := HY.out _ (a, wrap64 (o + b9)) _ HPF.out (HJ.out _ _ _ HJ1.out HG6.out); clear hg))
            refine hR.mono ?_
            rintro e W7 (⟨rfl, hJ3, hk3⟩ | ⟨rfl, hJ3⟩)
            · have HR : Hid (J (pre0 ++ (x.next.take (k + 1)).map (stepT ((j : Int), o))) W7 ∧ KB B ts W3 W7) := Lib.hid ⟨by rw [HQ.out]; exact hJ3, (HK1.out.trans (.grown HG6.out)).trans hk3⟩
              clear hJ3 hk3
              gi_wp2_with fail
              go_roundw
              case rel => exact ⟨k + 1, by omega, by go_num, HR.out⟩
              case measure => simp [intOf]; omega
            · have HR := Lib.hid hJ3
              clear hJ3
              gi_wp2_with fail
              refine bodyPost_ret (results_none rfl _ _ _) rfl ?_
              exact ⟨⟨_, rfl⟩, .inr ⟨_, HPF.out, by simp, HR.out⟩⟩
          · have hke : k = x.next.length := by omega
            have HX : Hid (J (partsL xs ((j : Int), o)) wr) := Lib.hid (by rw [HPP.out, HPR.out]; have := HJ1.out; rw [hke, List.take_length] at this; exact this)
            have hge : (x.next.length : Int) ≤ (k : Int) := by omega
            clear hJ1 hkc hke
            gi_wp2_with fail
            go_end0
            exact ⟨⟨_, rfl⟩, .inl HX.out⟩
      | true =>
        have hpay : pre0 = [stepT ((j : Int), o) x.pay] := by rw [← HPR.out]; unfold payL; rw [if_pos HCH.out]; rfl
        have HPY := Lib.hid hpay
        clear hpay HCH
        gi_wp2_with (refine ⟨trivial, ?_⟩; gi_at_call 30; go_must (refine (callsIn_wide.2 (ualong_any x.pay o _)).mono ?_; rintro e W4 ⟨rfl, hg⟩; have HS4 := Lib.hid (HS.out.keeps (.grown hg) k1 k2); have HK4 : Hid (KB B ts W3 W4) := Lib.hid (KB.grown hg); obtain ⟨fn, tmps, assign, body, hy, hR⟩ := HY.out [] (x.pay.1, wrap64 (o + x.pay.2)) _ (by rw [HPP.out, HPR.out, HPY.out]; exact ⟨_, rfl⟩) (HJ.out _ _ _ HJ0.out hg); clear hg))
        refine hR.mono ?_
        rintro e W5 (⟨rfl, hJ3, hk3⟩ | ⟨rfl, hJ3⟩)
        · have HW : Hid (J pre0 W5 ∧ KB B ts W3 W5) := Lib.hid ⟨by rw [HPY.out]; exact hJ3, HK4.out.trans hk3⟩
          have HS5 := Lib.hid (HS4.out.keeps hk3 k1 k2)
          have y5 : W5.cell? ⟨Bx, 5, none⟩ = some (.slice A2 x.next.length c2) := HS5.out.bx.cell 5
          clear hJ3 hk3 HS4 HK4 x2 x3 x4 x5 s1
          gi_wp2_with fail
          gi_loopw [40] (fun i wr => ∃ k : Nat, k ≤ x.next.length ∧ i = .int .i64 (k : Int) ∧ J (pre0 ++ (x.next.take k).map (stepT ((j : Int), o))) wr ∧ KB B ts W3 wr) (fun i _ => x.next.length - (intOf i).toNat)
          case atStart => exact ⟨0, Nat.zero_le _, rfl, by rw [List.take_zero, List.map_nil, List.append_nil]; exact HW.out.1, HW.out.2⟩
          case round =>
            obtain ⟨k, hk, rfl, hJ1, hkc⟩ := hrel
            have HJ1 := Lib.hid hJ1
            have HK1 := Lib.hid hkc
            by_cases hlt : k < x.next.length
            · obtain ⟨⟨a, b9⟩, he⟩ : ∃ e, x.next[k]? = some e := ⟨_, List.getElem?_eq_getElem hlt⟩
              obtain ⟨b3, o3, rfl, hcl⟩ := HE2.out wr hkc (by intro e0; rw [e0] at hlt; simp at hlt)
              have d0 : wr.cell? ⟨b3, o3 + k * 2, none⟩ = some (.int .i64 a) := (hcl k _ he).1
              have d1 : wr.cell? ⟨b3, o3 + k * 2 + 1, none⟩ = some (.int .i64 b9) := (hcl k _ he).2
              have hSk := HS.out.keeps hkc k1 k2
              have z1 : wr.cell? ⟨Bt, 1, none⟩ = some (.int .i64 o) := hSk.ba.cell 1
              have hb3 := cell_lt d0
              have hbt := cell_lt z1
              have HQ : Hid (pre0 ++ (x.next.take (k + 1)).map (stepT ((j : Int), o)) = (pre0 ++ (x.next.take k).map (stepT ((j : Int), o))) ++ [(a, wrap64 (o + b9))]) := Lib.hid (by rw [take_len he, List.map_append, ← List.append_assoc]; rfl)
              have HPF : Hid ((pre0 ++ (x.next.take k).map (stepT ((j : Int), o))) ++ [(a, wrap64 (o + b9))] <+: partsL xs ((j : Int), o)) := Lib.hid (by rw [← HQ.out, HPP.out, HPR.out]; exact (List.prefix_append_right_inj _).2 ((List.take_prefix _ _).map _))
              have hk0 : (0 : Int) ≤ (k : Int) := by omega
              have hk1 : (k : Int) < (x.next.length : Int) := by omega
              have hl3 : (x.next.length : Int) ≤ 9223372036854775807 := by omega
              clear hcl hSk he hkc hJ1 y5
              gi_wp2_with (refine ⟨trivial, ?_⟩; gi_at_call 30; go_must (refine (callsIn_wide.2 (ualong_any (a, b9) o _)).mono ?_; rintro e W6 ⟨rfl, hg⟩; have HG6 := Lib.hid (only_trans (only_alloc (only_refl _ _) _) hg); obtain ⟨fn, tmps, assign, body, hy, hR⟩ := HY.out _ (a, wrap64 (o + b9)) _ HPF.out (HJ.out _ _ _ HJ1.out HG6.out); clear hg))
              refine hR.mono ?_
              rintro e W7 (⟨rfl, hJ3, hk3⟩ | ⟨rfl, hJ3⟩)
              · have HR : Hid (J (pre0 ++ (x.next.take (k + 1)).map (stepT ((j : Int), o))) W7 ∧ KB B ts W3 W7) := Lib.hid ⟨by rw [HQ.out]; exact hJ3, (HK1.out.trans (.grown HG6.out)).trans hk3⟩
                clear hJ3 hk3
                gi_wp2_with fail
                go_roundw
                case rel => exact ⟨k + 1, by omega, by go_num, HR.out⟩
                case measure => simp [intOf]; omega
              · have HR := Lib.hid hJ3
                clear hJ3
                gi_wp2_with fail
                refine bodyPost_ret (results_none rfl _ _ _) rfl ?_
                exact ⟨⟨_, rfl⟩, .inr ⟨_, HPF.out, by simp, HR.out⟩⟩
            · have hke : k = x.next.length := by omega
              have HX : Hid (J (partsL xs ((j : Int), o)) wr) := Lib.hid (by rw [HPP.out, HPR.out]; have := HJ1.out; rw [hke, List.take_length] at this; exact this)
              have hge : (x.next.length : Int) ≤ (k : Int) := by omega
              clear hJ1 hkc hke
              gi_wp2_with fail
              go_end0
              exact ⟨⟨_, rfl⟩, .inl HX.out⟩
        · have HR := Lib.hid hJ3
          clear hJ3
          gi_wp2_with fail
          refine bodyPost_ret (results_none rfl _ _ _) rfl ?_
          exact ⟨⟨_, rfl⟩, .inr ⟨_, by rw [HPP.out, HPR.out, HPY.out]; exact ⟨_, rfl⟩, by simp, HR.out⟩⟩
end Go.Proofs.YtoklaajiajilhaaDoor

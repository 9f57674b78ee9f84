/- Texts joined for the claim's sake: GWay, GRes. -/
import Derived.Test.YtmhbmeckdbdhpaaZSAddRow2
import Derived.Sort.CutIn
import Derived.Deep.DeepMust
namespace Go.Proofs.Ytmhbmeckdbdhpaa
open Go.RowKit Go.Shelf
attribute [local go_sem] Oper.semAt_some

theorem way_any (A : Option Addr) (n c : Nat) (t : Ed) (w : World) :
    Calls Try.prog 67 #[.slice A n c, edV t] w fun e w' => e = .returned (.func (.func 76) #[] #[.pointer (some ⟨w.heap.size + 1, 0, none⟩), .pointer (some ⟨w.heap.size, 0, none⟩)]) ∧
      w' = (w.alloc (.cells #[.slice A n c] 22)).alloc (.cells (edCells t) 59) := by
  have hmf : ∀ (fn : Fn) (first cap : Array Value) (w : World), (Instr.makeFunc fn first cap).run Try.prog w = .ok (.func fn first cap) w := fun _ _ _ _ => rfl
  go_enter Try.func67, Try.ntmps67
  go_wp2
  go_ret
  exact ⟨rfl, rfl⟩

/-- What stands between two types of a way: what has come, at whom it stands. -/
def WI (W : World) (J : List Ed → World → Prop) (xs : List Nd) (L pre : List Ed) (f : Nat) (t : Ed) (wr : World) : Prop :=
  L = pre ++ wayL xs f t ∧ J pre wr ∧ Blk wr W.heap.size 59 (edCells t) ∧ Keeps W wr ∧ W.heap.size < wr.heap.size
theorem wi_next {W W3 : World} {J : List Ed → World → Prop} {xs : List Nd} {L pre : List Ed} {f : Nat} {t e : Ed} {x : Nd} (hJ : ∀ s X Y, J s X → Below W.heap.size X Y → J s Y) (hn : nodeAt xs t.1 = some x) (ho : onlyNext x = some e) (hL : L = pre ++ wayL xs (f + 1) t) (hJ3 : J (pre ++ [t]) W3)
    (hb : Blk W3 W.heap.size 59 (edCells t)) (hk : Keeps W W3) (hz : W.heap.size < W3.heap.size) (o : Obj) :
    WI W J xs L (pre ++ [t]) f (stepT t e) (((W3.setCell ⟨W.heap.size, 0, none⟩ (.int .i64 (stepT t e).1)).setCell ⟨W.heap.size, 1, none⟩ (.int .i64 (stepT t e).2)).alloc o).drew := by
  refine ⟨by rw [hL, wayL_next hn ho]; simp, hJ _ _ _ hJ3 ?_, ?_, ?_, ?_⟩
  · exact (((((Below.refl _ W3).setCell (p := ⟨W.heap.size, 0, none⟩) (Nat.le_refl _) _).setCell (p := ⟨W.heap.size, 1, none⟩) (Nat.le_refl _) _).alloc (by simp [World.setCell]; omega) _)).drew
  · exact (((hb.set_ 0 _).set_ 1 _).alloc _).drew
  · exact (((hk.setNew (p := ⟨W.heap.size, 0, none⟩) (Nat.le_refl _) _).setNew (p := ⟨W.heap.size, 1, none⟩) (Nat.le_refl _) _).trans (.alloc _ _)).drew
  · simp [World.setCell]; omega


set_option maxRecDepth 100000 in
set_option maxHeartbeats 2000000 in
/-- The types on t's way come one by one, until a round says 'no more'. -/
theorem way_tells (Bt Bn : Nat) (xs : List Nd) (v : Value) (t : Ed) (hxs : xs.length ≤ 140737488351232) :
    Tells Fence.wide 2 Try.prog 76 #[.pointer (some ⟨Bt, 0, none⟩), .pointer (some ⟨Bn, 0, none⟩)] (fun e => #[edV e]) KeepsCells (fun W => Blk W Bt 59 (edCells t) ∧ Blk W Bn 22 #[v] ∧ Tbl W v xs) (wayL xs xs.length t) := fun l J Jx W hJ hY h0 ⟨hbt, hbn, hT⟩ => by
  refine callsIn_of_wp Try.func76 rfl trivial ?_ rfl
  simp only [Try.ntmps76, List.size_toArray, List.length_cons, List.length_nil, Nat.reduceAdd, Nat.reduceSub, Array.replicate_succ, Array.replicate_zero, List.push_toArray, List.append_toArray, List.nil_append, List.cons_append]
  obtain ⟨A, cap, rfl, hcell⟩ := hT
  have c0 : W.cell? ⟨Bt, 0, none⟩ = some (.int .i64 t.1) := hbt.cell 0
  have c1 : W.cell? ⟨Bt, 1, none⟩ = some (.int .i64 t.2) := hbt.cell 1
  have cn : W.cell? ⟨Bn, 0, none⟩ = some (.slice A xs.length cap) := hbn.cell 0
  have hw1 : Below W.heap.size W (W.alloc (.cells (edCells t) 59)) := (Below.refl _ _).alloc (Nat.le_refl _) _
  have hbnl := hbn.lt
  have H0 : Hid (WI W J xs (wayL xs xs.length t) [] xs.length t (W.alloc (.cells (edCells t) 59))) :=
    ⟨rfl, hJ _ _ _ h0 hw1, Blk.new _ _ _, .alloc _ _, by simp⟩
  have HT0 : Hid (Tbl W (.slice A xs.length cap) xs) := ⟨A, cap, rfl, hcell⟩
  have HY := Lib.hid hY
  have HJ := Lib.hid hJ
  have HL := Lib.hid hxs
  clear hcell hY hJ hw1 hxs hbn hbt h0
  gi_wp2_with fail
  gi_loopw [9] (fun i wr => ∃ (k : Nat) (t1 : Ed) (pre : List Ed), k ≤ xs.length ∧ i = .int .i64 (k : Int) ∧ WI W J xs (wayL xs xs.length t) pre (xs.length - k) t1 wr) (fun i _ => xs.length - (intOf i).toNat)
  case atStart => exact ⟨0, t, [], Nat.zero_le _, rfl, H0.out⟩
  case round =>
    clear H0
    obtain ⟨k, t1, pre, hk, rfl, hLp, hJ1, hat, hkp, hz⟩ := hrel
    have hl2 := HL.out
    have q0 : wr.cell? ⟨W.heap.size, 0, none⟩ = some (.int .i64 t1.1) := hat.cell 0
    have q1 : wr.cell? ⟨W.heap.size, 1, none⟩ = some (.int .i64 t1.2) := hat.cell 1
    have qn : wr.cell? ⟨Bn, 0, none⟩ = some (.slice A xs.length cap) := hkp _ _ cn
    by_cases hlt : k < xs.length
    · have hk0 : (0 : Int) ≤ (k : Int) := by omega
      have hk1 : (k : Int) < (xs.length : Int) := by omega
      obtain ⟨f, hf⟩ : ∃ f, xs.length - k = f + 1 := ⟨xs.length - k - 1, by omega⟩
      rw [hf] at hLp
      cases hn : nodeAt xs t1.1 with
      | none =>
        have hnb := nodeAt_none hn
        rw [wayL_none hn, List.append_nil] at hLp
        have HP := Lib.hid hLp
        have HJ1 := Lib.hid hJ1
        clear hLp hJ1 hn hf hkp hat
        gi_wp2_with (refine ⟨trivial, ?_⟩; gi_at_call 73; go_must (refine (callsIn_wide.2 (isNode_any _ _ _ HL.out _ _)).mono ?_; rintro e w4 ⟨rfl, rfl⟩))
        refine ⟨fun _ h => (by cases h), ?_⟩
        gi_wp2_with fail
        refine bodyPost_ret (results_none rfl _ _ _) rfl ?_
        exact ⟨⟨_, rfl⟩, .inl (by rw [HP.out]; exact HJ1.out)⟩
      | some x =>
        obtain ⟨hi0, hi1, hix⟩ := nodeAt_some hn
        obtain ⟨i, o, rfl⟩ : ∃ (i : Nat) (o : Int), t1 = ((i : Int), o) := ⟨t1.1.toNat, t1.2, by ext <;> simp; omega⟩
        dsimp only at hn hi0 hi1 hix q0 q1
        have hit : ((i : Int)).toNat = i := by simp
        rw [hit] at hix
        clear hit
        have hnb : nodeB xs.length (i : Int) = true := nodeB_true.2 ⟨hi0, hi1⟩
        obtain ⟨r, hr⟩ := wayL_head (f := f) (t := ((i : Int), o)) hn
        obtain ⟨fn, tmps, assign, body, hy, hR⟩ := HY.out pre ((i : Int), o) wr (by rw [hLp, hr]; exact ⟨r, by simp⟩) hJ1
        clear r hr
        have HP := Lib.hid hLp
        have HN := Lib.hid hn
        have HX := Lib.hid hix
        have HB := Lib.hid hat
        have HK := Lib.hid hkp
        have HF := Lib.hid hf
        clear hLp hJ1 hn hix hat hkp hf
        gi_wp2_with (refine ⟨trivial, ?_⟩; gi_at_call 73; go_must (refine (callsIn_wide.2 (isNode_any _ _ _ HL.out _ _)).mono ?_; rintro e w4 ⟨rfl, rfl⟩))
        refine hR.mono ?_
        rintro e W3 (⟨rfl, hJ3, hk3⟩ | ⟨rfl, hJ3⟩)
        · have hat3 := HB.out.keeps hk3
          have hk4 := HK.out.trans hk3.keeps
          have r0 : W3.cell? ⟨W.heap.size, 0, none⟩ = some (.int .i64 (i : Int)) := hat3.cell 0
          have r1 : W3.cell? ⟨W.heap.size, 1, none⟩ = some (.int .i64 o) := hat3.cell 1
          have g0 := hat3.frozen 0
          have g1 := hat3.frozen 1
          have rn : W3.cell? ⟨Bn, 0, none⟩ = some (.slice A xs.length cap) := hk4 _ _ cn
          have hz3 : W.heap.size < W3.heap.size := Nat.lt_of_lt_of_le hz hk3.size
          have hT3 := HT0.out.keep hk4
          obtain ⟨A', c', hA, hcl⟩ := hT3
          obtain ⟨bb, off, hAb, hcl⟩ := hcl (by intro e0; rw [e0] at hi1; simp at hi1; omega)
          obtain ⟨v', hE', n0, n1, n2, n3, n4, n5⟩ := hcl i x HX.out
          obtain ⟨rfl, rfl⟩ : A = A' ∧ cap = c' := by simpa using hA
          subst hAb
          clear hA hcl
          have HN' := Lib.hid (fun e he => wi_next (e := e) (L := wayL xs xs.length t) (f := f) HJ.out HN.out he HP.out hJ3 hat3 hk4 hz3)
          have HEND : Hid (onlyNext x = none → ∀ ob, J (wayL xs xs.length t) (W3.alloc ob)) := fun he ob => by rw [HP.out, wayL_end HN.out he]; exact HJ.out _ _ _ hJ3 ((Below.refl _ W3).alloc (Nat.le_of_lt hz3) _)
          clear hJ3 hat3 hk4 hk3
          obtain ⟨kind, prio, chan, ⟨ea, es⟩, next⟩ := x
          dsimp only at n0 n1 n2 n3 n4 n5 hE'
          obtain ⟨A2, c2, rfl, hl3, hE'⟩ := hE'
          by_cases h5 : kind = 5
          · subst h5
            by_cases h1 : next.length = 1
            · obtain ⟨⟨a, b⟩, rfl⟩ : ∃ e, next = [e] := by
                match next, h1 with
                | [e], _ => exact ⟨e, rfl⟩
              obtain ⟨b2, off2, rfl, hE2⟩ := hE' (by simp)
              obtain ⟨e0, e1⟩ := hE2 0 (a, b) rfl
              simp only [Nat.zero_mul, Nat.add_zero] at e0 e1
              have hb2 : b2 < W3.heap.size := cell_lt e0
              clear hE2 hE'
              have HW : Hid (∀ ob, WI W J xs (wayL xs xs.length t) (pre ++ [((i : Int), o)]) f (a, wrap64 (o + b)) (((W3.setCell ⟨W.heap.size, 0, none⟩ (.int .i64 a)).setCell ⟨W.heap.size, 1, none⟩ (.int .i64 (wrap64 (o + b)))).alloc ob).drew) := HN'.out (a, b) rfl
              clear HN' HEND hl3
              have hmx : Try.prog.follows .mixedOrders = true := by kernel_rfl
              gi_wp2_with fail
              gi_region_with_o fail
              all_goals gi_wp2
              all_goals exact ⟨⟨k + 1, _, _, by omega, by go_num, by rw [show xs.length - (k + 1) = f by have := HF.out; omega]; exact HW.out _⟩, by simp [intOf]; omega⟩
            · have hne : onlyNext ⟨5, prio, chan, (ea, es), next⟩ = none := by
                match next, h1 with
                | [], _ => rfl
                | [_], h => exact absurd rfl h
                | _ :: _ :: _, _ => rfl
              have HX4 := Lib.hid (HEND.out hne)
              have h1' : ¬ (next.length : Int) = 1 := by omega
              clear HN' HEND hE' h1 hne
              gi_wp2_with fail
              refine bodyPost_ret (results_none rfl _ _ _) rfl ?_
              exact ⟨⟨_, rfl⟩, .inl (HX4.out _)⟩
          · have hne : onlyNext ⟨kind, prio, chan, (ea, es), next⟩ = none := by simp [onlyNext, h5]
            have HX4 := Lib.hid (HEND.out hne)
            clear HN' HEND hE' hne
            gi_wp2_with fail
            refine bodyPost_ret (results_none rfl _ _ _) rfl ?_
            exact ⟨⟨_, rfl⟩, .inl (HX4.out _)⟩
        · have HX3 := Lib.hid hJ3
          clear hJ3
          gi_wp2_with fail
          refine bodyPost_ret (results_none rfl _ _ _) rfl ?_
          obtain ⟨r, hr⟩ := wayL_head (f := f) (t := ((i : Int), o)) HN.out
          exact ⟨⟨_, rfl⟩, .inr ⟨_, by rw [HP.out, hr]; exact ⟨r, by simp⟩, by simp, HX3.out⟩⟩
    · have hke : k = xs.length := by omega
      have HX : Hid (J (wayL xs xs.length t) wr) := by rw [hLp, hke, Nat.sub_self]; simp only [wayL, List.append_nil]; exact hJ1
      have hge : (xs.length : Int) ≤ (k : Int) := by omega
      clear hJ1 hLp hke
      gi_wp2_with fail
      go_end0
      exact ⟨⟨_, rfl⟩, .inl HX.out⟩
end Go.Proofs.Ytmhbmeckdbdhpaa

namespace Go.Proofs.Ytmhbmeckdbdhpaa
open Go.RowKit Go.Shelf
attribute [local go_sem] Oper.semAt_some

theorem type_size : (Try.prog.info? 59).map (·.size) = some 2 := by kernel_rfl
theorem res_results {tmps : Array Value} {W : World} {b : Nat} {t : Ed} (hp : tmps.getD 4 undef = .pointer (some ⟨b, 0, none⟩)) (hb : Blk W b 59 (edCells t)) :
    (results Try.f50 tmps).run Try.prog W = .ok (edV t) W := by
  have hp' : tmps[4]?.getD undef = .pointer (some ⟨b, 0, none⟩) := by simpa using hp
  simp [results, Try.results50, hp', asAddr, run_loadVar_row W b _ 59 _ _ _ hb Try.underlying59 rfl (by exact type_size)]

/-- Between two types of the way; where one is no alias. -/
def RI (w : World) (xs : List Nd) (v : Value) (pre : List Ed) (W : World) : Prop := w.grownBy W none ∧ Blk W w.heap.size 22 #[v] ∧ Blk W (w.heap.size + 2) 59 (edCells (0, 0)) ∧ pre.all (isAl xs) = true
def RX (w : World) (xs : List Nd) (c : Code) (pre : List Ed) (W : World) : Prop := c = .ret ∧ ∃ p s, pre = p ++ [s] ∧ p.all (isAl xs) = true ∧ isAl xs s = false ∧ w.grownBy W none ∧ Blk W (w.heap.size + 2) 59 (edCells s)
theorem ri_below {w : World} {xs : List Nd} {v : Value} {B : Nat} (hB : w.heap.size + 2 < B) (s : List Ed) (X Y : World) (h : RI w xs v s X) (hb : Below B X Y) : RI w xs v s Y := ⟨below_only hb h.1 (by omega), h.2.1.below hb (by omega), h.2.2.1.below hb hB, h.2.2.2⟩
theorem rx_below {w : World} {xs : List Nd} {B : Nat} (hB : w.heap.size + 2 < B) (c : Code) (s : List Ed) (X Y : World) (h : RX w xs c s X) (hb : Below B X Y) : RX w xs c s Y := by
  obtain ⟨h0, p, s, h1, h2, h3, h4, h5⟩ := h
  exact ⟨h0, p, s, h1, h2, h3, below_only hb h4 (by omega), h5.below hb hB⟩
theorem ri_next {w W : World} {xs : List Nd} {v : Value} {pre : List Ed} {e : Ed} (h : RI w xs v pre W) (he : isAl xs e = true) : RI w xs v (pre ++ [e]) W := ⟨h.1, h.2.1, h.2.2.1, by simp [h.2.2.2, he]⟩
theorem rx_next {w W : World} {xs : List Nd} {v : Value} {pre : List Ed} {e : Ed} (h : RI w xs v pre W) (he : isAl xs e = false) : RX w xs .ret (pre ++ [e]) ((W.setCell ⟨w.heap.size + 2, 0, none⟩ (.int .i64 e.1)).setCell ⟨w.heap.size + 2, 1, none⟩ (.int .i64 e.2)) :=
  ⟨rfl, pre, e, rfl, h.2.2.2, he, only_setNew (only_setNew h.1 (by show w.heap.size ≤ w.heap.size + 2; omega) _) (by show w.heap.size ≤ w.heap.size + 2; omega) _, (h.2.2.1.set_ 0 _).set_ 1 _⟩
set_option maxRecDepth 100000 in
set_option maxHeartbeats 2000000 in
theorem resolve_any (xs : List Nd) (v : Value) (t : Ed) (w : World) (hT : Tbl w v xs) (hxs : xs.length ≤ 140737488351232) :
    Calls Try.prog 50 #[v, edV t] w fun e w' => e = .returned (edV (resolveL xs t)) ∧ w.grownBy w' none := by
  refine (callsIn_wide (n := 3)).1 ?_
  refine callsIn_of_wp_marks Try.func50 rfl trivial ?_ rfl
  simp only [Try.ntmps50, List.size_toArray, List.length_cons, List.length_nil, Nat.reduceAdd, Nat.reduceSub, Array.replicate_succ, Array.replicate_zero, List.push_toArray, List.append_toArray, List.nil_append, List.cons_append]
  have HT := Lib.hid hT
  have HL := Lib.hid hxs
  obtain ⟨A, cap, rfl, hcl⟩ := hT
  clear hcl hxs
  gi_wp2_with (refine ⟨trivial, ?_⟩; gi_at_call 67; go_must (refine (callsIn_wide.2 (way_any _ _ _ _ _)).mono ?_; rintro e w5 ⟨rfl, rfl⟩))
  obtain ⟨W0, hW0⟩ : ∃ W0, (((((w.alloc (.cells #[.slice A xs.length cap] 22)).alloc (.cells #[.int .i64 t.1, .int .i64 t.2] 59)).alloc (.cells #[.int .i64 0, .int .i64 0] 59)).alloc (.cells #[.slice A xs.length cap] 22)).alloc (.cells (edCells t) 59)) = W0 := ⟨_, rfl⟩
  have hg0 : w.grownBy W0 none := by rw [← hW0]; exact only_alloc (only_alloc (only_alloc (only_alloc (only_alloc (only_refl _ _) _) _) _) _) _
  have hz : W0.heap.size = w.heap.size + 5 := by rw [← hW0]; simp
  have hb0 : Blk W0 w.heap.size 22 #[.slice A xs.length cap] := by rw [← hW0]; exact ((((Blk.new w _ _).alloc _).alloc _).alloc _).alloc _
  have hb2 : Blk W0 (w.heap.size + 2) 59 (edCells (0, 0)) := by rw [← hW0]; exact ((blk_at (by simp) _ _).alloc _).alloc _
  have hb3 : Blk W0 (w.heap.size + 3) 22 #[.slice A xs.length cap] := by rw [← hW0]; exact (blk_at (by simp) _ _).alloc _
  have hb4 : Blk W0 (w.heap.size + 4) 59 (edCells t) := by rw [← hW0]; exact blk_at (by simp) _ _
  rw [hW0]
  clear hW0
  refine wpIn_rangeFunc_tells rfl (by omega) (gf := 76) (lb := #[.pointer (some ⟨w.heap.size + 4, 0, none⟩), .pointer (some ⟨w.heap.size + 3, 0, none⟩)]) rfl trivial (enters_of Try.func76 (by kernel_rfl) rfl)
    (way_tells (w.heap.size + 4) (w.heap.size + 3) xs (.slice A xs.length cap) t HL.out) (fun h k => h.trans k) (fun _ _ _ o' h hc => .putObj o' h hc) KeepsCells.alloc (fun _ => rfl) ?t0 (RI w xs (.slice A xs.length cap)) (RX w xs) (ri_below (by omega)) (rx_below (by omega)) ⟨hg0, hb0, hb2, rfl⟩ 59 edCells
    (fun e Bx => { tmps := #[.slice A xs.length cap, edV t, .pointer (some ⟨w.heap.size, 0, none⟩), .pointer (some ⟨w.heap.size + 1, 0, none⟩), .pointer (some ⟨w.heap.size + 1 + 1, 0, none⟩), .pointer (some ⟨Bx, 0, none⟩), .slice A xs.length cap, edV t, .func (.func 76) #[] #[.pointer (some ⟨w.heap.size + 1 + 1 + 1 + 1, 0, none⟩), .pointer (some ⟨w.heap.size + 1 + 1 + 1, 0, none⟩)], edV e, undef, undef, undef, undef, undef, undef, undef, undef, undef], defers := [] }) ?assign ?body ?done ?stop
  case t0 =>
    intro W hW
    exact ⟨hb4.below hW (by omega), hb3.below hW (by omega), (HT.out.keep (.grown hg0)).keep (.below hW)⟩
  case assign =>
    intro l e W K hK
    gi_wp2
    exact hK
  case body =>
    rintro l pre ⟨a, o⟩ W Bx hpre hBx hI hbx
    obtain ⟨x, hx⟩ := wayL_mem (hpre.subset (List.mem_append_right _ (List.mem_singleton_self _)))
    obtain ⟨hi0, hi1, hix⟩ := nodeAt_some hx
    dsimp only at hx hi0 hi1 hix
    obtain ⟨i, rfl⟩ : ∃ i : Nat, a = i := ⟨a.toNat, by omega⟩
    rw [show ((i : Int)).toNat = i by simp] at hix
    have c0 : W.cell? ⟨Bx, 0, none⟩ = some (.int .i64 (i : Int)) := hbx.cell 0
    have c1 : W.cell? ⟨Bx, 1, none⟩ = some (.int .i64 o) := hbx.cell 1
    have cn : W.cell? ⟨w.heap.size, 0, none⟩ = some (.slice A xs.length cap) := hI.2.1.cell 0
    have c2 : W.cell? ⟨w.heap.size + 1 + 1, 0, none⟩ = some (.int .i64 0) := hI.2.2.1.cell 0
    have c3 : W.cell? ⟨w.heap.size + 1 + 1, 1, none⟩ = some (.int .i64 0) := hI.2.2.1.cell 1
    have f2 : W.frozen? ⟨w.heap.size + 1 + 1, 0, none⟩ = false := hI.2.2.1.frozen 0
    have f3 : W.frozen? ⟨w.heap.size + 1 + 1, 1, none⟩ = false := hI.2.2.1.frozen 1
    have hal := isAl_at (xs := xs) (t := ((i : Int), o)) hx
    have hT3 := HT.out.keep (Keeps.grown hI.1)
    have HI' := Lib.hid hI
    clear hI hpre hx hbx
    obtain ⟨A', c', hA, hcl⟩ := hT3
    obtain ⟨bb, off, hAb, hcl⟩ := hcl (by intro e0; rw [e0] at hi1; simp at hi1; omega)
    obtain ⟨v', _, n0, _⟩ := hcl i x hix
    obtain ⟨rfl, rfl⟩ : A = A' ∧ cap = c' := by simpa using hA
    subst hAb
    clear hA hcl hix
    have hl2 := HL.out
    by_cases hk : x.kind = 5
    · rw [hk] at n0
      have HS : Hid (isAl xs ((i : Int), o) = true) := hal.trans (by simp [hk])
      clear hal hk
      gi_wp2_with fail
      exact ⟨KeepsFrom.refl _ _, .refl _, ri_next HI'.out HS.out⟩
    · have HS : Hid (isAl xs ((i : Int), o) = false) := hal.trans (by simp [hk])
      clear hal
      gi_wp2_with fail
      exact ⟨((KeepsOthers.setCell _ _ _).trans (KeepsOthers.setCell _ _ _)).from _, rx_next HI'.out HS.out⟩
  case done =>
    rintro D W hD ⟨h1, h2, h3, h4⟩ hK
    have c2 : W.cell? ⟨w.heap.size + 1 + 1, 0, none⟩ = some (.int .i64 0) := h3.cell 0
    have c3 : W.cell? ⟨w.heap.size + 1 + 1, 1, none⟩ = some (.int .i64 0) := h3.cell 1
    have f2 : W.frozen? ⟨w.heap.size + 1 + 1, 0, none⟩ = false := h3.frozen 0
    have f3 : W.frozen? ⟨w.heap.size + 1 + 1, 1, none⟩ = false := h3.frozen 1
    have HK2 := Lib.hid (((KeepsOthers.setCell W ⟨w.heap.size + 1 + 1, 0, none⟩ (.int .i64 (-1))).trans (KeepsOthers.setCell _ ⟨w.heap.size + 1 + 1, 1, none⟩ (.int .i64 0))).same D _ hK rfl)
    have HB7 : Hid (Blk ((W.setCell ⟨w.heap.size + 1 + 1, 0, none⟩ (.int .i64 (-1))).setCell ⟨w.heap.size + 1 + 1, 1, none⟩ (.int .i64 0)) (w.heap.size + 2) 59 (edCells (-1, 0))) := (h3.set_ 0 (.int .i64 (-1))).set_ 1 (.int .i64 0)
    have HG7 := Lib.hid (only_setNew (only_setNew h1 (p := ⟨w.heap.size + 1 + 1, 0, none⟩) (by show w.heap.size ≤ w.heap.size + 1 + 1; omega) (.int .i64 (-1))) (p := ⟨w.heap.size + 1 + 1, 1, none⟩) (by show w.heap.size ≤ w.heap.size + 1 + 1; omega) (.int .i64 0))
    have HS : Hid (resolveL xs t = (-1, 0)) := pickL_nil_of_all h4
    clear h1 h2 h3 h4 hK
    gi_wp2_with fail
    refine marks_ret (B := w.heap.size + 5) [D] _ (by simp) (by simp only [List.mem_singleton, forall_eq]; exact ⟨by omega, HK2.out⟩) fun W' hW' => ?_
    exact ⟨_, res_results rfl (HB7.out.keeps hW'.2), by rw [HS.out], hW'.grown HG7.out (by omega)⟩
  case stop =>
    rintro D c pre W hD hpre hne ⟨rfl, p, s, rfl, hp, hs, h1, h2⟩ hK
    have HS : Hid (resolveL xs t = s) := by
      obtain ⟨r, hr⟩ := hpre
      rw [resolveL, ← hr, List.append_assoc]
      exact pickL_at hp hs
    gi_wp2_with fail
    refine marks_ret (B := w.heap.size + 5) [D] _ (by simp) (by simp only [List.mem_singleton, forall_eq]; exact ⟨by omega, hK⟩) fun W' hW' => ?_
    exact ⟨_, res_results rfl (h2.keeps hW'.2), by rw [HS.out], hW'.grown h1 (by omega)⟩
end Go.Proofs.Ytmhbmeckdbdhpaa

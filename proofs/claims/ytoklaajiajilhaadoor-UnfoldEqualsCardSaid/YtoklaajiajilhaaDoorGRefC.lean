/- The document's answer for graph: Resolve: what it answers of any table and type. -/
import Derived.Test.YtoklaajiajilhaaDoorGRes
import Derived.LoopTactic
import Derived.RegionTactic
import Derived.Deep.RegionWith
namespace Go.Proofs.YtoklaajiajilhaaDoor
open Go.RowKit Go.Shelf

/-- What stands at a step. -/
def RR (w : World) (xs : List Nd) (r : Ed) (f : Nat) (t : Ed) (W : World) : Prop := r = pickL xs (wayL xs f t) ∧ w.grownBy W none ∧ Blk W w.heap.size 24 (edCells t) ∧ Blk W (w.heap.size + 1) 24 (edCells (0, 0))
theorem rr_next {w W : World} {xs : List Nd} {r t e : Ed} {f : Nat} {x : Nd} (h : RR w xs r (f + 1) t W) (hn : nodeAt xs t.1 = some x) (ho : onlyNext x = some e) (o : Obj) :
    RR w xs r f (stepT t e) (((W.setCell ⟨w.heap.size, 0, none⟩ (.int .i64 (stepT t e).1)).setCell ⟨w.heap.size, 1, none⟩ (.int .i64 (stepT t e).2)).alloc o).drew := by
  obtain ⟨h1, h2, h3, h4⟩ := h
  refine ⟨by rw [h1, pick_next hn ho], ?_, ?_, ?_⟩
  · exact only_drew (only_alloc (only_setNew (only_setNew h2 (Nat.le_refl _) _) (Nat.le_refl _) _) _)
  · exact (((h3.set_ 0 _).set_ 1 _).alloc _).drew
  · exact (((h4.far (p := ⟨w.heap.size, 0, none⟩) (by show w.heap.size + 1 ≠ w.heap.size; omega) _).far (p := ⟨w.heap.size, 1, none⟩) (by show w.heap.size + 1 ≠ w.heap.size; omega) _).alloc _).drew
theorem rres_results {tmps : Array Value} {W : World} {b : Nat} {t : Ed} (hp : tmps.getD 4 undef = .pointer (some ⟨b, 0, none⟩)) (hb : Blk W b 24 (edCells t)) :
    (results Tryd.f27 tmps).run Tryd.prog W = .ok (edV t) W := by
  have hp' : tmps[4]?.getD undef = .pointer (some ⟨b, 0, none⟩) := by simpa using hp
  simp [results, Tryd.results27, hp', asAddr, run_loadVar_row W b _ 24 _ _ _ hb Tryd.underlying24 rfl (by exact type_size)]
theorem rr_put {w W : World} {xs : List Nd} {r t : Ed} {f : Nat} (h : RR w xs r f t W) (s : Ed) :
    w.grownBy ((W.setCell ⟨w.heap.size + 1, 0, none⟩ (.int .i64 s.1)).setCell ⟨w.heap.size + 1, 1, none⟩ (.int .i64 s.2)) none ∧ Blk ((W.setCell ⟨w.heap.size + 1, 0, none⟩ (.int .i64 s.1)).setCell ⟨w.heap.size + 1, 1, none⟩ (.int .i64 s.2)) (w.heap.size + 1) 24 (edCells s) :=
  ⟨only_setNew (only_setNew h.2.1 (by show w.heap.size ≤ w.heap.size + 1; omega) _) (by show w.heap.size ≤ w.heap.size + 1; omega) _, (h.2.2.2.set_ 0 _).set_ 1 _⟩

set_option maxRecDepth 100000 in
set_option maxHeartbeats 2000000 in
theorem refResolve_any (xs : List Nd) (v : Value) (t : Ed) (w : World) (hT : Tbl w v xs) (hxs : xs.length ≤ 1000000) :
    Calls Tryd.prog 27 #[v, edV t] w fun e w' => e = .returned (edV (pickL xs (wayL xs (xs.length + 1) t))) ∧ w.grownBy w' none := by
  have HT := Lib.hid hT
  have HL := Lib.hid hxs
  obtain ⟨A, cap, rfl, hcl⟩ := hT
  obtain ⟨r, hr⟩ : ∃ r, pickL xs (wayL xs (xs.length + 1) t) = r := ⟨_, rfl⟩
  rw [hr]
  have H0 : Hid (RR w xs r (xs.length + 1) t ((w.alloc (.cells (edCells t) 24)).alloc (.cells #[.int .i64 0, .int .i64 0] 24))) :=
    ⟨hr.symm, only_alloc (only_alloc (only_refl _ _) _) _, (Blk.new w _ _).alloc _, blk_at (by simp) _ _⟩
  clear hcl hr
  have hl2 := HL.out
  go_enter Tryd.func27, Tryd.ntmps27
  go_wp2_with fail
  go_loopw [5] (fun i wr => ∃ (k : Nat) (t1 : Ed), k ≤ xs.length + 1 ∧ i = .int .i64 (k : Int) ∧ RR w xs r (xs.length + 1 - k) t1 wr) (fun i _ => xs.length + 1 - (intOf i).toNat)
  case atStart => exact ⟨0, t, Nat.zero_le _, rfl, H0.out⟩
  case round =>
    clear H0
    obtain ⟨k, t1, hk, rfl, hR⟩ := hrel
    have q0 : wr.cell? ⟨w.heap.size, 0, none⟩ = some (.int .i64 t1.1) := hR.2.2.1.cell 0
    have q1 : wr.cell? ⟨w.heap.size, 1, none⟩ = some (.int .i64 t1.2) := hR.2.2.1.cell 1
    have p0 : wr.cell? ⟨w.heap.size + 1, 0, none⟩ = some (.int .i64 0) := hR.2.2.2.cell 0
    have p1 : wr.cell? ⟨w.heap.size + 1, 1, none⟩ = some (.int .i64 0) := hR.2.2.2.cell 1
    have fq0 := hR.2.2.1.frozen 0
    have fq1 := hR.2.2.1.frozen 1
    have fp0 := hR.2.2.2.frozen 0
    have fp1 := hR.2.2.2.frozen 1
    by_cases hlt : k ≤ xs.length
    · have hk0 : (0 : Int) ≤ (k : Int) := by omega
      have hk1 : (k : Int) ≤ (xs.length : Int) := by omega
      obtain ⟨f, hf⟩ : ∃ f, xs.length + 1 - k = f + 1 := ⟨xs.length - k, by omega⟩
      rw [hf] at hR
      have HF := Lib.hid hf
      clear hf
      cases hn : nodeAt xs t1.1 with
      | none =>
        have HS : Hid (r = (-1, 0)) := hR.1.trans (pick_none hn)
        have HP := Lib.hid (rr_put hR (-1, 0))
        have hnb := nodeAt_none hn
        have hno : t1.1 < 0 ∨ (xs.length : Int) ≤ t1.1 := by
          rcases Int.lt_or_le t1.1 0 with h | h
          · exact .inl h
          · right
            simp [nodeB, withinB] at hnb
            omega
        clear hnb hn hR
        rcases hno with h | h
        · go_wp2_with fail
          exact bodyPost_ret (rres_results rfl HP.out.2) rfl ⟨by rw [HS.out], HP.out.1⟩
        · have h0 : 0 ≤ t1.1 := by omega
          go_wp2_with fail
          exact bodyPost_ret (rres_results rfl HP.out.2) rfl ⟨by rw [HS.out], HP.out.1⟩
      | some x =>
        obtain ⟨hi0, hi1, hix⟩ := nodeAt_some hn
        obtain ⟨i, o, rfl⟩ : ∃ (i : Nat) (o : Int), t1 = ((i : Int), o) := ⟨t1.1.toNat, t1.2, by ext <;> simp; omega⟩
        dsimp only at hn hi0 hi1 hix q0 q1
        rw [show ((i : Int)).toNat = i by simp] at hix
        obtain ⟨A', c', hA, hcl⟩ := HT.out.keep (Keeps.grown hR.2.1)
        obtain ⟨bb, off, hAb, hcl2⟩ := hcl (by intro e0; rw [e0] at hi1; simp at hi1; omega)
        obtain ⟨v', hE, n0, n1, n2, n3, n4, n5⟩ := hcl2 i x hix
        clear hcl2 hcl
        obtain ⟨rfl, rfl⟩ : A = A' ∧ cap = c' := by simpa using hA
        subst hAb
        clear hA hix
        have HN := Lib.hid hn
        have HR := Lib.hid hR
        obtain ⟨kind, prio, chan, ⟨ea, es⟩, next⟩ := x
        dsimp only at n0 n1 n2 n3 n4 n5 hE
        obtain ⟨A2, c2, rfl, hl3, hE2⟩ := hE
        have hwr : w.heap.size < wr.heap.size := hR.2.2.1.lt
        have hwr1 : w.heap.size + 1 < wr.heap.size := hR.2.2.2.lt
        clear hR hn
        by_cases h5 : kind = 5
        · subst h5
          by_cases h1 : next.length = 1
          · obtain ⟨⟨a, b⟩, rfl⟩ : ∃ e, next = [e] := by
              match next, h1 with
              | [e], _ => exact ⟨e, rfl⟩
            obtain ⟨b2, off2, rfl, hE3⟩ := hE2 (by simp)
            obtain ⟨e0, e1⟩ := hE3 0 (a, b) rfl
            simp only [Nat.zero_mul, Nat.add_zero] at e0 e1
            have hb2 : b2 < wr.heap.size := cell_lt e0
            clear hE3 hE2 hl3
            have HW : Hid (∀ ob, RR w xs r f (a, wrap64 (o + b)) (((wr.setCell ⟨w.heap.size, 0, none⟩ (.int .i64 a)).setCell ⟨w.heap.size, 1, none⟩ (.int .i64 (wrap64 (o + b)))).alloc ob).drew) := rr_next (e := (a, b)) HR.out HN.out rfl
            go_wp2_with fail
            go_region_with (fail)
            all_goals go_wp2
            all_goals exact ⟨⟨k + 1, _, by omega, by go_num, by rw [show xs.length + 1 - (k + 1) = f by have := HF.out; omega]; exact HW.out _⟩, by simp [intOf]; omega⟩
          · have hne : onlyNext ⟨5, prio, chan, (ea, es), next⟩ = none := by
              match next, h1 with
              | [], _ => rfl
              | [_], h => exact absurd rfl h
              | _ :: _ :: _, _ => rfl
            have HS : Hid (r = (-1, 0)) := HR.out.1.trans (pick_stop HN.out rfl hne)
            have HP := Lib.hid (rr_put HR.out (-1, 0))
            have h1' : ¬ (next.length : Int) = 1 := by omega
            clear h1 hne hE2
            go_wp2_with fail
            exact bodyPost_ret (rres_results rfl (HP.out.2.alloc _)) rfl ⟨by rw [HS.out], only_alloc HP.out.1 _⟩
        · have HS : Hid (r = ((i : Int), o)) := HR.out.1.trans (pick_here HN.out h5)
          have HP := Lib.hid (rr_put HR.out ((i : Int), o))
          clear hE2
          go_wp2_with fail
          exact bodyPost_ret (rres_results rfl (HP.out.2.alloc _)) rfl ⟨by rw [HS.out], only_alloc HP.out.1 _⟩
    · have hke : k = xs.length + 1 := by omega
      have HS : Hid (r = (-1, 0)) := by have := hR.1; rw [hke, Nat.sub_self] at this; exact this
      have HP := Lib.hid (rr_put hR (-1, 0))
      have hge : (xs.length : Int) < (k : Int) := by omega
      clear hR hke hk
      go_wp2_with fail
      exact bodyPost_ret (rres_results rfl HP.out.2) rfl ⟨by rw [HS.out], HP.out.1⟩
end Go.Proofs.YtoklaajiajilhaaDoor

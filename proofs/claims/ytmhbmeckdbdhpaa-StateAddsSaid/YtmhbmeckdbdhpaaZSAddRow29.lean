/- Texts joined for the claim's sake: OFn, OEds. -/
import Derived.Test.YtmhbmeckdbdhpaaZSAddRow9
import Derived.Test.YtmhbmeckdbdhpaaZSAddRow7
import Derived.Deep.RegionHeld3
import Derived.Test.YtmhbmeckdbdhpaaZSAddRow1
import Derived.Test.YtmhbmeckdbdhpaaZSAddRow8
namespace Go.Proofs.Ytmhbmeckdbdhpaa
open Go.RowKit Go.Shelf

set_option maxHeartbeats 400000 in
theorem oacts_any (x : Nd) (v : Value) (w : World) : Calls Try.prog 46 #[ndV x v] w fun e w' => e = .returned (.bool (actB x.kind)) ∧ w.grownBy w' none := by
  go_enter Try.func46, Try.ntmps46
  go_wp2_with fail
  all_goals go_ret
  · exact ⟨by simp [actB, *], only_alloc (only_refl _ _) _⟩
  · exact ⟨by simp [actB, *]; cases h : (x.kind == 5) <;> simp_all, only_alloc (only_refl _ _) _⟩
abbrev jump3 (p : Option (Int × Int)) : Value := match p with | some (t, r) => .tuple #[.int .i64 t, .int .i64 r, .bool true] | none => .tuple #[.int .i64 0, .int .i64 0, .bool false]
set_option maxRecDepth 100000 in
set_option maxHeartbeats 2000000 in
theorem ojump_any (xs : List Nd) (v : Value) (fr : Int) (e : Ed) (x y : Nd) (w : World) (hT : Tbl w v xs) (hxs : xs.length ≤ 1000) (hx : nodeAt xs fr = some x) (hy : nodeAt xs (resolveL xs e).1 = some y) :
    Calls Try.prog 64 #[v, .int .i64 fr, edV e] w fun en w' => en = .returned (jump3 (jumpP xs x.prio e)) ∧ w.grownBy w' none := by
  have HT := Lib.hid hT
  have HL := Lib.hid hxs
  obtain ⟨A, cap, rfl, hcl⟩ := hT
  have hxs' : (xs.length : Int) ≤ 1000 := by omega
  obtain ⟨q, hq⟩ : ∃ q, resolveL xs e = q := ⟨_, rfl⟩
  have HQ := Lib.hid hq
  rw [hq] at hy
  obtain ⟨qn, qo⟩ := q
  have hx2 := nodeAt_some hx
  have hy2 := nodeAt_some hy
  obtain ⟨f, rfl⟩ : ∃ f : Nat, fr = f := ⟨fr.toNat, by omega⟩
  dsimp only at hy2
  obtain ⟨m, rfl⟩ : ∃ m : Nat, qn = m := ⟨qn.toNat, by omega⟩
  obtain ⟨hx0, hx1, hx3⟩ := hx2
  obtain ⟨hy0, hy1, hy3⟩ := hy2
  have HY := Lib.hid hy
  obtain ⟨b, off, rfl, hcl2⟩ := hcl (by intro e0; rw [e0] at hx1; simp at hx1; omega)
  obtain ⟨vx, _, n0, n1, n2, n3, n4, n5⟩ := hcl2 f x (by simpa using hx3)
  obtain ⟨vy, _, m0, m1, m2, m3, m4, m5⟩ := hcl2 m y (by simpa using hy3)
  have hbb := cell_lt n0
  clear hcl2 hcl hx3 hy3 hx hy hq hxs
  have HR : Hid (jumpP xs x.prio e = if actB y.kind then some ((m : Int), wrap64 (wrap64 (y.prio + qo) - x.prio)) else none) := by
    show _ = _
    unfold jumpP
    rw [HQ.out]
    simp only [HY.out]
  obtain ⟨kk, hkk⟩ : ∃ kk, actB y.kind = kk := ⟨_, rfl⟩
  have HK := Lib.hid hkk
  go_enter Try.func64, Try.ntmps64
  go_wp2_with (first | (go_at_call 50; go_must (refine (resolve_any xs _ e _ (HT.out.keep (.alloc _ _)) (by have := HL.out; omega)).mono ?_; rw [HQ.out]; rintro en w1 ⟨rfl, hg⟩; have HG := Lib.hid (only_trans (only_alloc (only_refl _ _) _) hg); have a1 := Keeps.grown HG.out _ _ n1; have b0 := Keeps.grown HG.out _ _ m0; have b1 := Keeps.grown HG.out _ _ m1; have b2 := Keeps.grown HG.out _ _ m2; have b3 := Keeps.grown HG.out _ _ m3; have b4 := Keeps.grown HG.out _ _ m4; have b5 := Keeps.grown HG.out _ _ m5; have hb1 := cell_lt a1; clear hg)) | (go_at_call 46; go_must (refine (oacts_any y _ _).mono ?_; rw [HK.out]; rintro en w2 ⟨rfl, hg2⟩; have HG2 := Lib.hid (only_trans (only_alloc HG.out _) hg2); have hk2 := (Keeps.alloc w1 _).trans (Keeps.grown hg2); have d1 := hk2 _ _ a1; have d2 := hk2 _ _ b1; have hb2 := cell_lt d1; have hbx : Blk w2 w1.heap.size 59 (edCells ((m : Int), qo)) := (Blk.new w1 _ _).kept hg2; have d3 : w2.cell? ⟨w1.heap.size, 0, none⟩ = some (.int .i64 (m : Int)) := hbx.cell 0; have d4 : w2.cell? ⟨w1.heap.size, 1, none⟩ = some (.int .i64 qo) := hbx.cell 1; clear hg2 hk2 hbx)))
  · go_ret3
    exact ⟨by rw [HR.out]; simp_all, HG2.out⟩
  · go_region_held3 (fun w' => w'.cell? ⟨w1.heap.size, 0, none⟩ = some (.int .i64 (m : Int)) ∧ w'.cell? ⟨w1.heap.size, 1, none⟩ = some (.int .i64 qo) ∧ w'.cell? ⟨b, off + f * 6 + 1, none⟩ = some (.int .i64 x.prio) ∧ w'.cell? ⟨b, off + m * 6 + 1, none⟩ = some (.int .i64 y.prio)) (exact ⟨d3, d4, d1, d2⟩) (fail)
    all_goals go_wp2
    all_goals go_ret3
    all_goals exact ⟨by rw [HR.out]; simp_all [jump3, IntWalk.i64_left], only_drew HG2.out⟩
end Go.Proofs.Ytmhbmeckdbdhpaa

namespace Go.Proofs.Ytmhbmeckdbdhpaa
open Go.RowKit Go.Shelf

theorem empty_row (w : World) : (w.alloc (.cells #[] 67)).ownsRow w.heap.size 67 2 (.slice (some ⟨w.heap.size, 0, none⟩) 0 0) 0 [] :=
  ⟨rfl, .inr ⟨w.heap.size, 0, #[], rfl, Nat.le_refl _, heap_alloc_new w _, Nat.le_refl _, by unfold maxLen; omega, rfl, rfl⟩⟩
theorem edges_cells {w : World} {b off : Nat} {es : List Ed} {o : Obj} (h : ∀ (i : Nat) (e : Ed), es[i]? = some e → w.cell? ⟨b, off + i * 2, none⟩ = some (.int .i64 e.1) ∧ w.cell? ⟨b, off + i * 2 + 1, none⟩ = some (.int .i64 e.2)) (hb : b < w.heap.size) :
    ∀ j u, (edAll es)[j]? = some u → (w.alloc o).cell? ((⟨b, off, none⟩ : Addr).add j) = some u := fun j u hu => by
  rw [addr_plain]
  have hj : j < es.length * 2 := by rw [← edAll_len]; exact (List.getElem?_eq_some_iff.1 hu).1
  have hi : j / 2 < es.length := by omega
  have hx := h (j / 2) _ (List.getElem?_eq_getElem hi)
  have ha := edAll_at (List.getElem?_eq_getElem hi) (j % 2) (by omega)
  rw [show j / 2 * 2 + j % 2 = j by omega, hu] at ha
  rw [World.cell?_alloc_lt w o _ (by exact hb)]
  rcases (by omega : j % 2 = 0 ∨ j % 2 = 1) with e | e
  · rw [e] at ha
    rw [show off + j = off + j / 2 * 2 by omega, hx.1]
    exact ha.symm
  · rw [e] at ha
    rw [show off + j = off + j / 2 * 2 + 1 by omega, hx.2]
    exact ha.symm
set_option maxRecDepth 100000 in
set_option maxHeartbeats 2000000 in
theorem oclone_any (es : List Ed) (v : Value) (w : World) (hE : Edges w v es) (hl : es.length ≤ 1000) (hn : es ≠ []) :
    Calls Try.prog 65 #[v] w fun e w' => ∃ v', e = .returned v' ∧ EOwn w.heap.size w' v' es ∧ w.grownBy w' none := by
  have HE := Lib.hid hE
  obtain ⟨A, cap, rfl, _, hcl⟩ := hE
  obtain ⟨b, off, rfl, hce⟩ := hcl hn
  have he : ∀ (w : World) (a : Addr) (n c : Nat), (binOp .eql 68 (.slice (some a) n c) (.slice none 0 0)).run Try.prog w = .ok (.bool false) w := fun _ _ _ _ => rfl
  go_enter Try.func65, Try.ntmps65
  obtain ⟨i0, hi, hz0, hz1, hz2⟩ := info_parts edge_info
  have hbl := cell_lt (hce 0 _ (List.getElem?_eq_getElem (List.length_pos_iff.2 hn))).1
  have HCE := Lib.hid hce
  have HLN := Lib.hid hl
  clear hce hcl hl hn
  go_wp2_with (at_builtin; refine wpList_append_own _ rfl (.tmp 5) (.tmp 6) 68 rfl w.heap.size 67 i0 _ 2 16 Try.underlying68 hi hz0 hz1 hz2 rfl (by decide) _ 0 [] rfl (empty_row w) ⟨b, off, none⟩ es.length cap (edAll es) rfl (edAll_len es) (edges_cells HCE.out hbl) (edAll_one es) (by have := HLN.out; unfold maxLen; omega) (by have := HLN.out; omega) (by simp) ?_; intro v' w1 hr hg _; have HR := Lib.hid hr; have HG := Lib.hid hg; clear hr hg)
  go_ret
  exact ⟨_, rfl, by have := HR.out; rw [Nat.zero_add, List.nil_append] at this; exact this, only_new (only_alloc (only_refl _ _) _) HG.out (Nat.le_refl _)⟩

set_option maxRecDepth 100000 in
set_option maxHeartbeats 2000000 in
theorem oedges_any (x : Nd) (v : Value) (w : World) (hE : Edges w v x.next) (hl : x.next.length ≤ 900) (hn : x.next ≠ []) :
    Calls Try.prog 48 #[ndV x v] w fun e w' => ∃ v', e = .returned v' ∧ Edges w' v' (allE x) ∧ w.grownBy w' none := by
  have HE := Lib.hid hE
  have HN : Hid (x.next.length ≤ 900 ∧ x.next ≠ []) := ⟨hl, hn⟩
  obtain ⟨kind, prio, chan, ⟨pa, ps⟩, next⟩ := x
  dsimp only at HE HN hE
  obtain ⟨A, cap, rfl, _, _⟩ := hE
  clear hl hn
  cases chan
  rotate_left
  · have HA : Hid (allE ⟨kind, prio, true, (pa, ps), next⟩ = next ++ [(pa, ps)]) := show _ = _ by simp [allE]
    go_enter Try.func48, Try.ntmps48
    go_wp2_with fail
    have hb0 : Blk (w.alloc (.cells #[.int .i64 kind, .int .i64 prio, .bool true, .int .i64 pa, .int .i64 ps, .slice A next.length cap] 70)).drew w.heap.size 70 _ := Blk.drew (Blk.new _ _ _)
    have hg0 : w.grownBy (w.alloc (.cells #[.int .i64 kind, .int .i64 prio, .bool true, .int .i64 pa, .int .i64 ps, .slice A next.length cap] 70)).drew none := only_drew (only_alloc (only_refl _ _) _)
    have hz0 : w.heap.size < (w.alloc (.cells #[.int .i64 kind, .int .i64 prio, .bool true, .int .i64 pa, .int .i64 ps, .slice A next.length cap] 70)).drew.heap.size := by simp [World.drew]
    generalize (w.alloc (.cells #[.int .i64 kind, .int .i64 prio, .bool true, .int .i64 pa, .int .i64 ps, .slice A next.length cap] 70)) = W1 at *
    have HN1 : Hid (next.length ≤ 1000) := Nat.le_trans HN.out.1 (by decide)
    have hzz : W1.drew.heap.size = W1.heap.size := rfl
    have hb1 : Blk (W1.alloc (.cells (edCells (pa, ps)) 67)).drew w.heap.size 70 _ := hb0.alloc (.cells (edCells (pa, ps)) 67)
    have hg1 : w.grownBy (W1.alloc (.cells (edCells (pa, ps)) 67)).drew none := only_alloc hg0 (.cells (edCells (pa, ps)) 67)
    go_region_held3 (fun w' => w'.cell? ⟨w.heap.size, 3, none⟩ = some (.int .i64 pa) ∧ w'.cell? ⟨w.heap.size, 4, none⟩ = some (.int .i64 ps) ∧ w'.cell? ⟨w.heap.size, 5, none⟩ = some (.slice A next.length cap))
      (first | exact ⟨hb0.cell 3, hb0.cell 4, hb0.cell 5⟩ | exact ⟨hb1.cell 3, hb1.cell 4, hb1.cell 5⟩ | exact ⟨hb2.cell 3, hb2.cell 4, hb2.cell 5⟩ | exact ⟨(hb2.alloc _).cell 3, (hb2.alloc _).cell 4, (hb2.alloc _).cell 5⟩ | exact ⟨hb3.cell 3, hb3.cell 4, hb3.cell 5⟩)
      (first
        | (go_at_call 65; ((with_reducible refine (oclone_any next _ _ (HE.out.keep (Keeps.grown hg0)) HN1.out HN.out.2).mono ?_); rintro e W2 ⟨v2, rfl, ho2, hg2⟩; have hb2 := hb0.kept hg2))
        | (go_at_call 65; ((with_reducible refine (oclone_any next _ _ (HE.out.keep (Keeps.grown hg1)) HN1.out HN.out.2).mono ?_); rintro e W2 ⟨v2, rfl, ho2, hg2⟩; have hb2 := hb1.kept hg2))
        | (refine step_append_edge rfl (.tmp 10) (.tmp 13) rfl rfl rfl (ho2.kept0 (only_alloc (only_refl _ _) (.cells (edCells (pa, ps)) 67))) (Blk.new _ _ (edCells (pa, ps))) HN1.out (by have := hg2.size; simp; omega) ?_; intro v3 W3 ho3 hg3; have hb3 := (hb2.alloc (.cells (edCells (pa, ps)) 67)).grown hg3 (fun e => by have := (own_row ho2 _ e.symm).1; omega); have HO3 := Lib.hid (ho3.edges (by have := HN.out.1; simp; omega)).edges; have HG3 := Lib.hid (grown_own (only_alloc (only_trans hg0 hg2) (.cells (edCells (pa, ps)) 67)) (fun g e => by have := (own_row ho2 g e).1; omega) hg3))
        | (refine step_append_edge rfl (.tmp 10) (.tmp 13) rfl rfl rfl ho2 ((Blk.drew (Blk.new W1 _ (edCells (pa, ps)))).kept hg2) HN1.out hg2.size ?_; intro v3 W3 ho3 hg3; have hb3 := hb2.grown hg3 (fun e => by have := (own_row ho2 _ e.symm).1; simp [World.drew] at this; omega); have HO3 := Lib.hid (ho3.edges (by have := HN.out.1; simp; omega)).edges; have HG3 := Lib.hid (grown_own (only_trans hg1 hg2) (fun g e => by have := (own_row ho2 g e).1; simp [World.drew] at this; omega) hg3)))
    all_goals go_wp2
    all_goals go_ret
    all_goals exact ⟨_, rfl, by rw [HA.out]; exact HO3.out, HG3.out⟩
  · have HA : Hid (allE ⟨kind, prio, false, (pa, ps), next⟩ = next) := show _ = _ by simp [allE]
    go_enter Try.func48, Try.ntmps48
    go_wp2_with fail
    go_ret
    exact ⟨_, rfl, by rw [HA.out]; exact HE.out.keep (.alloc _ _), only_alloc (only_refl _ _) _⟩

theorem ojumps_any (vn ve : Value) (fr : Int) (w : World) (A B : Option Addr) (n m c d : Nat) (hn : vn = .slice A n c) (he : ve = .slice B m d) :
    Calls Try.prog 47 #[vn, .int .i64 fr, ve] w fun e w' => e = .returned (.func (.func 63) #[] #[.pointer (some ⟨w.heap.size + 2, 0, none⟩), .pointer (some ⟨w.heap.size, 0, none⟩), .pointer (some ⟨w.heap.size + 1, 0, none⟩)]) ∧
      w' = ((w.alloc (.cells #[vn] 22)).alloc (.cells #[.int .i64 fr] 3)).alloc (.cells #[ve] 68) := by
  subst hn he
  have hmf : ∀ (fn : Fn) (first cap : Array Value) (w : World), (Instr.makeFunc fn first cap).run Try.prog w = .ok (.func fn first cap) w := fun _ _ _ _ => rfl
  go_enter Try.func47, Try.ntmps47
  go_wp2_with fail
  go_ret
  exact ⟨rfl, rfl⟩
end Go.Proofs.Ytmhbmeckdbdhpaa

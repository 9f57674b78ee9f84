/- order: edges: what a node has. -/
import Derived.Test.YtablbgfleopbfaaOFn
import Derived.Test.YtablbgfleopbfaaGOm
import Derived.Test.YtablbgfleopbfaaGMadA
namespace Go.Proofs.Ytablbgfleopbfaa
open Go.RowKit Go.Shelf

theorem empty_row (w : World) : (w.alloc (.cells #[] 24)).ownsRow w.heap.size 24 2 (.slice (some ⟨w.heap.size, 0, none⟩) 0 0) 0 [] :=
  ⟨rfl, .inr ⟨w.heap.size, 0, #[], rfl, Nat.le_refl _, heap_alloc_new w _, Nat.le_refl _, by unfold maxLen; omega, rfl, rfl⟩⟩
theorem edges_cells {w : World} {b off : Nat} {es : List Ed} {o : Obj} (h : ∀ (i : Nat) (e : Ed), es[i]? = some e → w.cell? ⟨b, off + i * 2, none⟩ = some (.int .i64 e.1) ∧ w.cell? ⟨b, off + i * 2 + 1, none⟩ = some (.int .i64 e.2)) (hb : b < w.heap.size) :
    ∀ j u, (edAll es)[j]? = some u → (w.alloc o).cell? ((⟨b, off, none⟩ : Addr).add j) = some u := fun j u hu => by
  rw [addr_plain]
  have hj : j < es.length * 2 := by rw [← edAll_len]; exact (List.getElem?_eq_some_iff.1 hu).1
  have hi : j / 2 < es.length := by omega
  have hx := h (j / 2) _ (List.getElem?_eq_getElem hi)
  have ha := edAll_at (List.getElem?_eq_getElem hi) (j % 2) (by omega)
  rw [show j / 2 * 2 + j % 2 = j by omega, hu] at ha
  rw [World.cell?_alloc_lt w o _ (by exact hb)]
  rcases (by omega : j % 2 = 0 ∨ j % 2 = 1) with e | e
  · rw [e] at ha
    rw [show off + j = off + j / 2 * 2 by omega, hx.1]
    exact ha.symm
  · rw [e] at ha
    rw [show off + j = off + j / 2 * 2 + 1 by omega, hx.2]
    exact ha.symm
set_option maxRecDepth 100000 in
set_option maxHeartbeats 2000000 in
theorem oclone_any (es : List Ed) (v : Value) (w : World) (hE : Edges w v es) (hl : es.length ≤ 1000) (hn : es ≠ []) :
    Calls Try.prog 32 #[v] w fun e w' => ∃ v', e = .returned v' ∧ EOwn w.heap.size w' v' es ∧ w.grownBy w' none := by
  have HE := Lib.hid hE
  obtain ⟨A, cap, rfl, _, hcl⟩ := hE
  obtain ⟨b, off, rfl, hce⟩ := hcl hn
  have he : ∀ (w : World) (a : Addr) (n c : Nat), (binOp .eql 39 (.slice (some a) n c) (.slice none 0 0)).run Try.prog w = .ok (.bool false) w := fun _ _ _ _ => rfl
  go_enter Try.func32, Try.ntmps32
  obtain ⟨i0, hi, hz0, hz1, hz2⟩ := info_parts edge_info
  have hbl := cell_lt (hce 0 _ (List.getElem?_eq_getElem (List.length_pos_iff.2 hn))).1
  have HCE := Lib.hid hce
  have HLN := Lib.hid hl
  clear hce hcl hl hn
  go_wp2_with (at_builtin; refine wpList_append_own _ rfl (.tmp 5) (.tmp 6) 39 rfl w.heap.size 24 i0 _ 2 16 Try.underlying39 hi hz0 hz1 hz2 rfl (by decide) _ 0 [] rfl (empty_row w) ⟨b, off, none⟩ es.length cap (edAll es) rfl (edAll_len es) (edges_cells HCE.out hbl) (edAll_one es) (by have := HLN.out; unfold maxLen; omega) (by have := HLN.out; omega) (by simp) ?_; intro v' w1 hr hg _; have HR := Lib.hid hr; have HG := Lib.hid hg; clear hr hg)
  go_ret
  exact ⟨_, rfl, by have := HR.out; rw [Nat.zero_add, List.nil_append] at this; exact this, only_new (only_alloc (only_refl _ _) _) HG.out (Nat.le_refl _)⟩

set_option maxRecDepth 100000 in
set_option maxHeartbeats 2000000 in
theorem oedges_any (x : Nd) (v : Value) (w : World) (hE : Edges w v x.next) (hl : x.next.length ≤ 900) (hn : x.next ≠ []) :
    Calls Try.prog 21 #[ndV x v] w fun e w' => ∃ v', e = .returned v' ∧ Edges w' v' (allE x) ∧ w.grownBy w' none := by
  have HE := Lib.hid hE
  have HN : Hid (x.next.length ≤ 900 ∧ x.next ≠ []) := ⟨hl, hn⟩
  obtain ⟨kind, prio, chan, ⟨pa, ps⟩, next⟩ := x
  dsimp only at HE HN hE
  obtain ⟨A, cap, rfl, _, _⟩ := hE
  clear hl hn
  cases chan
  rotate_left
  · have HA : Hid (allE ⟨kind, prio, true, (pa, ps), next⟩ = next ++ [(pa, ps)]) := show _ = _ by simp [allE]
    go_enter Try.func21, Try.ntmps21
    go_wp2_with fail
    have hb0 : Blk (w.alloc (.cells #[.int .i64 kind, .int .i64 prio, .bool true, .int .i64 pa, .int .i64 ps, .slice A next.length cap] 41)).drew w.heap.size 41 _ := Blk.drew (Blk.new _ _ _)
    have hg0 : w.grownBy (w.alloc (.cells #[.int .i64 kind, .int .i64 prio, .bool true, .int .i64 pa, .int .i64 ps, .slice A next.length cap] 41)).drew none := only_drew (only_alloc (only_refl _ _) _)
    have hz0 : w.heap.size < (w.alloc (.cells #[.int .i64 kind, .int .i64 prio, .bool true, .int .i64 pa, .int .i64 ps, .slice A next.length cap] 41)).drew.heap.size := by simp [World.drew]
    generalize (w.alloc (.cells #[.int .i64 kind, .int .i64 prio, .bool true, .int .i64 pa, .int .i64 ps, .slice A next.length cap] 41)) = W1 at *
    have HN1 : Hid (next.length ≤ 1000) := Nat.le_trans HN.out.1 (by decide)
    have hzz : W1.drew.heap.size = W1.heap.size := rfl
    have hb1 : Blk (W1.alloc (.cells (edCells (pa, ps)) 24)).drew w.heap.size 41 _ := hb0.alloc (.cells (edCells (pa, ps)) 24)
    have hg1 : w.grownBy (W1.alloc (.cells (edCells (pa, ps)) 24)).drew none := only_alloc hg0 (.cells (edCells (pa, ps)) 24)
    go_region_held3 (fun w' => w'.cell? ⟨w.heap.size, 3, none⟩ = some (.int .i64 pa) ∧ w'.cell? ⟨w.heap.size, 4, none⟩ = some (.int .i64 ps) ∧ w'.cell? ⟨w.heap.size, 5, none⟩ = some (.slice A next.length cap))
      (first | exact ⟨hb0.cell 3, hb0.cell 4, hb0.cell 5⟩ | exact ⟨hb1.cell 3, hb1.cell 4, hb1.cell 5⟩ | exact ⟨hb2.cell 3, hb2.cell 4, hb2.cell 5⟩ | exact ⟨(hb2.alloc _).cell 3, (hb2.alloc _).cell 4, (hb2.alloc _).cell 5⟩ | exact ⟨hb3.cell 3, hb3.cell 4, hb3.cell 5⟩)
      (first
        | (go_at_call 32; ((with_reducible refine (oclone_any next _ _ (HE.out.keep (Keeps.grown hg0)) HN1.out HN.out.2).mono ?_); rintro e W2 ⟨v2, rfl, ho2, hg2⟩; have hb2 := hb0.kept hg2))
        | (go_at_call 32; ((with_reducible refine (oclone_any next _ _ (HE.out.keep (Keeps.grown hg1)) HN1.out HN.out.2).mono ?_); rintro e W2 ⟨v2, rfl, ho2, hg2⟩; have hb2 := hb1.kept hg2))
        | (refine step_append_edge rfl (.tmp 10) (.tmp 13) rfl rfl rfl (ho2.kept0 (only_alloc (only_refl _ _) (.cells (edCells (pa, ps)) 24))) (Blk.new _ _ (edCells (pa, ps))) HN1.out (by have := hg2.size; simp; omega) ?_; intro v3 W3 ho3 hg3; have hb3 := (hb2.alloc (.cells (edCells (pa, ps)) 24)).grown hg3 (fun e => by have := (own_row ho2 _ e.symm).1; omega); have HO3 := Lib.hid (ho3.edges (by have := HN.out.1; simp; omega)).edges; have HG3 := Lib.hid (grown_own (only_alloc (only_trans hg0 hg2) (.cells (edCells (pa, ps)) 24)) (fun g e => by have := (own_row ho2 g e).1; omega) hg3))
        | (refine step_append_edge rfl (.tmp 10) (.tmp 13) rfl rfl rfl ho2 ((Blk.drew (Blk.new W1 _ (edCells (pa, ps)))).kept hg2) HN1.out hg2.size ?_; intro v3 W3 ho3 hg3; have hb3 := hb2.grown hg3 (fun e => by have := (own_row ho2 _ e.symm).1; simp [World.drew] at this; omega); have HO3 := Lib.hid (ho3.edges (by have := HN.out.1; simp; omega)).edges; have HG3 := Lib.hid (grown_own (only_trans hg1 hg2) (fun g e => by have := (own_row ho2 g e).1; simp [World.drew] at this; omega) hg3)))
    all_goals go_wp2
    all_goals go_ret
    all_goals exact ⟨_, rfl, by rw [HA.out]; exact HO3.out, HG3.out⟩
  · have HA : Hid (allE ⟨kind, prio, false, (pa, ps), next⟩ = next) := show _ = _ by simp [allE]
    go_enter Try.func21, Try.ntmps21
    go_wp2_with fail
    go_ret
    exact ⟨_, rfl, by rw [HA.out]; exact HE.out.keep (.alloc _ _), only_alloc (only_refl _ _) _⟩

theorem ojumps_any (vn ve : Value) (fr : Int) (w : World) (A B : Option Addr) (n m c d : Nat) (hn : vn = .slice A n c) (he : ve = .slice B m d) :
    Calls Try.prog 20 #[vn, .int .i64 fr, ve] w fun e w' => e = .returned (.func (.func 31) #[] #[.pointer (some ⟨w.heap.size + 2, 0, none⟩), .pointer (some ⟨w.heap.size, 0, none⟩), .pointer (some ⟨w.heap.size + 1, 0, none⟩)]) ∧
      w' = ((w.alloc (.cells #[vn] 22)).alloc (.cells #[.int .i64 fr] 3)).alloc (.cells #[ve] 39) := by
  subst hn he
  have hmf : ∀ (fn : Fn) (first cap : Array Value) (w : World), (Instr.makeFunc fn first cap).run Try.prog w = .ok (.func fn first cap) w := fun _ _ _ _ => rfl
  go_enter Try.func20, Try.ntmps20
  go_wp2_with fail
  go_ret
  exact ⟨rfl, rfl⟩
end Go.Proofs.Ytablbgfleopbfaa

/- Texts joined for the claim's sake: GRes, GOwn. -/
import Derived.Test.YtmhbmeckdbdhpaaZSKnwRow4
import Derived.Test.YtmhbmeckdbdhpaaZSKnwRow1
import Derived.Laws.AppendOwn
import Derived.Maps.AppendAt
import Derived.RowKit
namespace Go.Proofs.Ytmhbmeckdbdhpaa
open Go.RowKit Go.Shelf
attribute [local go_sem] Oper.semAt_some

theorem type_size : (Try.prog.info? 59).map (·.size) = some 2 := by kernel_rfl
theorem res_results {tmps : Array Value} {W : World} {b : Nat} {t : Ed} (hp : tmps.getD 4 undef = .pointer (some ⟨b, 0, none⟩)) (hb : Blk W b 59 (edCells t)) :
    (results Try.f50 tmps).run Try.prog W = .ok (edV t) W := by
  have hp' : tmps[4]?.getD undef = .pointer (some ⟨b, 0, none⟩) := by simpa using hp
  simp [results, Try.results50, hp', asAddr, run_loadVar_row W b _ 59 _ _ _ hb Try.underlying59 rfl (by exact type_size)]

/-- Between two types of the way; where one is no alias. -/
def RI (w : World) (xs : List Nd) (v : Value) (pre : List Ed) (W : World) : Prop := w.grownBy W none ∧ Blk W w.heap.size 22 #[v] ∧ Blk W (w.heap.size + 2) 59 (edCells (0, 0)) ∧ pre.all (isAl xs) = true
def RX (w : World) (xs : List Nd) (c : Code) (pre : List Ed) (W : World) : Prop := c = .ret ∧ ∃ p s, pre = p ++ [s] ∧ p.all (isAl xs) = true ∧ isAl xs s = false ∧ w.grownBy W none ∧ Blk W (w.heap.size + 2) 59 (edCells s)
theorem ri_below {w : World} {xs : List Nd} {v : Value} {B : Nat} (hB : w.heap.size + 2 < B) (s : List Ed) (X Y : World) (h : RI w xs v s X) (hb : Below B X Y) : RI w xs v s Y := ⟨below_only hb h.1 (by omega), h.2.1.below hb (by omega), h.2.2.1.below hb hB, h.2.2.2⟩
theorem rx_below {w : World} {xs : List Nd} {B : Nat} (hB : w.heap.size + 2 < B) (c : Code) (s : List Ed) (X Y : World) (h : RX w xs c s X) (hb : Below B X Y) : RX w xs c s Y := by
  obtain ⟨h0, p, s, h1, h2, h3, h4, h5⟩ := h
  exact ⟨h0, p, s, h1, h2, h3, below_only hb h4 (by omega), h5.below hb hB⟩
theorem ri_next {w W : World} {xs : List Nd} {v : Value} {pre : List Ed} {e : Ed} (h : RI w xs v pre W) (he : isAl xs e = true) : RI w xs v (pre ++ [e]) W := ⟨h.1, h.2.1, h.2.2.1, by simp [h.2.2.2, he]⟩
theorem rx_next {w W : World} {xs : List Nd} {v : Value} {pre : List Ed} {e : Ed} (h : RI w xs v pre W) (he : isAl xs e = false) : RX w xs .ret (pre ++ [e]) ((W.setCell ⟨w.heap.size + 2, 0, none⟩ (.int .i64 e.1)).setCell ⟨w.heap.size + 2, 1, none⟩ (.int .i64 e.2)) :=
  ⟨rfl, pre, e, rfl, h.2.2.2, he, only_setNew (only_setNew h.1 (by show w.heap.size ≤ w.heap.size + 2; omega) _) (by show w.heap.size ≤ w.heap.size + 2; omega) _, (h.2.2.1.set_ 0 _).set_ 1 _⟩
set_option maxRecDepth 100000 in
set_option maxHeartbeats 2000000 in
theorem resolve_any (xs : List Nd) (v : Value) (t : Ed) (w : World) (hT : Tbl w v xs) (hxs : xs.length ≤ 140737488351232) :
    Calls Try.prog 50 #[v, edV t] w fun e w' => e = .returned (edV (resolveL xs t)) ∧ w.grownBy w' none := by
  refine (callsIn_wide (n := 3)).1 ?_
  refine callsIn_of_wp_marks Try.func50 rfl trivial ?_ rfl
  simp only [Try.ntmps50, List.size_toArray, List.length_cons, List.length_nil, Nat.reduceAdd, Nat.reduceSub, Array.replicate_succ, Array.replicate_zero, List.push_toArray, List.append_toArray, List.nil_append, List.cons_append]
  have HT := Lib.hid hT
  have HL := Lib.hid hxs
  obtain ⟨A, cap, rfl, hcl⟩ := hT
  clear hcl hxs
  gi_wp2_with (refine ⟨trivial, ?_⟩; gi_at_call 67; go_must (refine (callsIn_wide.2 (way_any _ _ _ _ _)).mono ?_; rintro e w5 ⟨rfl, rfl⟩))
  obtain ⟨W0, hW0⟩ : ∃ W0, (((((w.alloc (.cells #[.slice A xs.length cap] 22)).alloc (.cells #[.int .i64 t.1, .int .i64 t.2] 59)).alloc (.cells #[.int .i64 0, .int .i64 0] 59)).alloc (.cells #[.slice A xs.length cap] 22)).alloc (.cells (edCells t) 59)) = W0 := ⟨_, rfl⟩
  have hg0 : w.grownBy W0 none := by rw [← hW0]; exact only_alloc (only_alloc (only_alloc (only_alloc (only_alloc (only_refl _ _) _) _) _) _) _
  have hz : W0.heap.size = w.heap.size + 5 := by rw [← hW0]; simp
  have hb0 : Blk W0 w.heap.size 22 #[.slice A xs.length cap] := by rw [← hW0]; exact ((((Blk.new w _ _).alloc _).alloc _).alloc _).alloc _
  have hb2 : Blk W0 (w.heap.size + 2) 59 (edCells (0, 0)) := by rw [← hW0]; exact ((blk_at (by simp) _ _).alloc _).alloc _
  have hb3 : Blk W0 (w.heap.size + 3) 22 #[.slice A xs.length cap] := by rw [← hW0]; exact (blk_at (by simp) _ _).alloc _
  have hb4 : Blk W0 (w.heap.size + 4) 59 (edCells t) := by rw [← hW0]; exact blk_at (by simp) _ _
  rw [hW0]
  clear hW0
  refine wpIn_rangeFunc_tells rfl (by omega) (gf := 76) (lb := #[.pointer (some ⟨w.heap.size + 4, 0, none⟩), .pointer (some ⟨w.heap.size + 3, 0, none⟩)]) rfl trivial (enters_of Try.func76 (by kernel_rfl) rfl)
    (way_tells (w.heap.size + 4) (w.heap.size + 3) xs (.slice A xs.length cap) t HL.out) (fun h k => h.trans k) (fun _ _ _ o' h hc => .putObj o' h hc) KeepsCells.alloc (fun _ => rfl) ?t0 (RI w xs (.slice A xs.length cap)) (RX w xs) (ri_below (by omega)) (rx_below (by omega)) ⟨hg0, hb0, hb2, rfl⟩ 59 edCells
    (fun e Bx => { tmps := #[.slice A xs.length cap, edV t, .pointer (some ⟨w.heap.size, 0, none⟩), .pointer (some ⟨w.heap.size + 1, 0, none⟩), .pointer (some ⟨w.heap.size + 1 + 1, 0, none⟩), .pointer (some ⟨Bx, 0, none⟩), .slice A xs.length cap, edV t, .func (.func 76) #[] #[.pointer (some ⟨w.heap.size + 1 + 1 + 1 + 1, 0, none⟩), .pointer (some ⟨w.heap.size + 1 + 1 + 1, 0, none⟩)], edV e, undef, undef, undef, undef, undef, undef, undef, undef, undef], defers := [] }) ?assign ?body ?done ?stop
  case t0 =>
    intro W hW
    exact ⟨hb4.below hW (by omega), hb3.below hW (by omega), (HT.out.keep (.grown hg0)).keep (.below hW)⟩
  case assign =>
    intro l e W K hK
    gi_wp2
    exact hK
  case body =>
    rintro l pre ⟨a, o⟩ W Bx hpre hBx hI hbx
    obtain ⟨x, hx⟩ := wayL_mem (hpre.subset (List.mem_append_right _ (List.mem_singleton_self _)))
    obtain ⟨hi0, hi1, hix⟩ := nodeAt_some hx
    dsimp only at hx hi0 hi1 hix
    obtain ⟨i, rfl⟩ : ∃ i : Nat, a = i := ⟨a.toNat, by omega⟩
    rw [show ((i : Int)).toNat = i by simp] at hix
    have c0 : W.cell? ⟨Bx, 0, none⟩ = some (.int .i64 (i : Int)) := hbx.cell 0
    have c1 : W.cell? ⟨Bx, 1, none⟩ = some (.int .i64 o) := hbx.cell 1
    have cn : W.cell? ⟨w.heap.size, 0, none⟩ = some (.slice A xs.length cap) := hI.2.1.cell 0
    have c2 : W.cell? ⟨w.heap.size + 1 + 1, 0, none⟩ = some (.int .i64 0) := hI.2.2.1.cell 0
    have c3 : W.cell? ⟨w.heap.size + 1 + 1, 1, none⟩ = some (.int .i64 0) := hI.2.2.1.cell 1
    have f2 : W.frozen? ⟨w.heap.size + 1 + 1, 0, none⟩ = false := hI.2.2.1.frozen 0
    have f3 : W.frozen? ⟨w.heap.size + 1 + 1, 1, none⟩ = false := hI.2.2.1.frozen 1
    have hal := isAl_at (xs := xs) (t := ((i : Int), o)) hx
    have hT3 := HT.out.keep (Keeps.grown hI.1)
    have HI' := Lib.hid hI
    clear hI hpre hx hbx
    obtain ⟨A', c', hA, hcl⟩ := hT3
    obtain ⟨bb, off, hAb, hcl⟩ := hcl (by intro e0; rw [e0] at hi1; simp at hi1; omega)
    obtain ⟨v', _, n0, _⟩ := hcl i x hix
    obtain ⟨rfl, rfl⟩ : A = A' ∧ cap = c' := by simpa using hA
    subst hAb
    clear hA hcl hix
    have hl2 := HL.out
    by_cases hk : x.kind = 5
    · rw [hk] at n0
      have HS : Hid (isAl xs ((i : Int), o) = true) := hal.trans (by simp [hk])
      clear hal hk
      gi_wp2_with fail
      exact ⟨KeepsFrom.refl _ _, .refl _, ri_next HI'.out HS.out⟩
    · have HS : Hid (isAl xs ((i : Int), o) = false) := hal.trans (by simp [hk])
      clear hal
      gi_wp2_with fail
      exact ⟨((KeepsOthers.setCell _ _ _).trans (KeepsOthers.setCell _ _ _)).from _, rx_next HI'.out HS.out⟩
  case done =>
    rintro D W hD ⟨h1, h2, h3, h4⟩ hK
    have c2 : W.cell? ⟨w.heap.size + 1 + 1, 0, none⟩ = some (.int .i64 0) := h3.cell 0
    have c3 : W.cell? ⟨w.heap.size + 1 + 1, 1, none⟩ = some (.int .i64 0) := h3.cell 1
    have f2 : W.frozen? ⟨w.heap.size + 1 + 1, 0, none⟩ = false := h3.frozen 0
    have f3 : W.frozen? ⟨w.heap.size + 1 + 1, 1, none⟩ = false := h3.frozen 1
    have HK2 := Lib.hid (((KeepsOthers.setCell W ⟨w.heap.size + 1 + 1, 0, none⟩ (.int .i64 (-1))).trans (KeepsOthers.setCell _ ⟨w.heap.size + 1 + 1, 1, none⟩ (.int .i64 0))).same D _ hK rfl)
    have HB7 : Hid (Blk ((W.setCell ⟨w.heap.size + 1 + 1, 0, none⟩ (.int .i64 (-1))).setCell ⟨w.heap.size + 1 + 1, 1, none⟩ (.int .i64 0)) (w.heap.size + 2) 59 (edCells (-1, 0))) := (h3.set_ 0 (.int .i64 (-1))).set_ 1 (.int .i64 0)
    have HG7 := Lib.hid (only_setNew (only_setNew h1 (p := ⟨w.heap.size + 1 + 1, 0, none⟩) (by show w.heap.size ≤ w.heap.size + 1 + 1; omega) (.int .i64 (-1))) (p := ⟨w.heap.size + 1 + 1, 1, none⟩) (by show w.heap.size ≤ w.heap.size + 1 + 1; omega) (.int .i64 0))
    have HS : Hid (resolveL xs t = (-1, 0)) := pickL_nil_of_all h4
    clear h1 h2 h3 h4 hK
    gi_wp2_with fail
    refine marks_ret (B := w.heap.size + 5) [D] _ (by simp) (by simp only [List.mem_singleton, forall_eq]; exact ⟨by omega, HK2.out⟩) fun W' hW' => ?_
    exact ⟨_, res_results rfl (HB7.out.keeps hW'.2), by rw [HS.out], hW'.grown HG7.out (by omega)⟩
  case stop =>
    rintro D c pre W hD hpre hne ⟨rfl, p, s, rfl, hp, hs, h1, h2⟩ hK
    have HS : Hid (resolveL xs t = s) := by
      obtain ⟨r, hr⟩ := hpre
      rw [resolveL, ← hr, List.append_assoc]
      exact pickL_at hp hs
    gi_wp2_with fail
    refine marks_ret (B := w.heap.size + 5) [D] _ (by simp) (by simp only [List.mem_singleton, forall_eq]; exact ⟨by omega, hK⟩) fun W' hW' => ?_
    exact ⟨_, res_results rfl (h2.keeps hW'.2), by rw [HS.out], hW'.grown h1 (by omega)⟩
end Go.Proofs.Ytmhbmeckdbdhpaa

namespace Go.Proofs.Ytmhbmeckdbdhpaa
open Go.RowKit

theorem node_info : (Try.prog.info? 70).map (fun i => (i.zero, i.size, i.bytes)) = some (some (.agg #[.int .i64 0, .int .i64 0, .bool false, .int .i64 0, .int .i64 0, .slice none 0 0]), 6, 64) := by kernel_rfl

theorem addr_plain (b o j : Nat) : (⟨b, o, none⟩ : Addr).add j = ⟨b, o + j, none⟩ := by unfold Addr.add; split <;> simp_all
/-- Edges that lie where no row of nodes does: below base, or in a block of edges. -/
def EdgesO (base : Nat) (W : World) (v : Value) (es : List Ed) : Prop := ∃ (A : Option Addr) (c : Nat), v = .slice A es.length c ∧ es.length ≤ 9223372036854775807 ∧
  (es ≠ [] → ∃ b off, A = some ⟨b, off, none⟩ ∧ (b < base ∨ ∃ cs, Blk W b 67 cs) ∧ ∀ i e, es[i]? = some e → W.cell? ⟨b, off + i * 2, none⟩ = some (.int .i64 e.1) ∧ W.cell? ⟨b, off + i * 2 + 1, none⟩ = some (.int .i64 e.2))
section
variable {base : Nat} {W W' : World} {v : Value} {es : List Ed}
theorem EdgesO.edges (h : EdgesO base W v es) : Edges W v es := by
  obtain ⟨A, c, h1, hl, h2⟩ := h
  refine ⟨A, c, h1, hl, fun hn => ?_⟩
  obtain ⟨b, off, h3, _, h4⟩ := h2 hn
  exact ⟨b, off, h3, h4⟩
theorem Edges.old (h : Edges W v es) (hB : W.heap.size ≤ base) : EdgesO base W v es := by
  obtain ⟨A, c, h1, hl, h2⟩ := h
  refine ⟨A, c, h1, hl, fun hn => ?_⟩
  obtain ⟨b, off, h3, h4⟩ := h2 hn
  have h0 : ∃ e, es[0]? = some e := by
    cases es with
    | nil => exact absurd rfl hn
    | cons e _ => exact ⟨e, rfl⟩
  obtain ⟨e, he⟩ := h0
  have : b < W.heap.size := cell_lt (h4 0 e he).1
  exact ⟨b, off, h3, .inl (by omega), h4⟩
theorem EdgesO.grown {row : Option Nat} (h : EdgesO base W v es) (hg : W.grownBy W' row) (hr : ∀ g, row = some g → base ≤ g ∧ ∃ cs t, Blk W g t cs ∧ t ≠ 67) : EdgesO base W' v es := by
  obtain ⟨A, c, h1, hl, h2⟩ := h
  refine ⟨A, c, h1, hl, fun hn => ?_⟩
  obtain ⟨b, off, h3, h5, h4⟩ := h2 hn
  have hne : some b ≠ row := fun e => by
    obtain ⟨hb, cs, t, hblk, ht⟩ := hr b e.symm
    rcases h5 with h5 | ⟨cs', h5⟩
    · omega
    · exact Blk.ne_ hblk h5 ht rfl
  refine ⟨b, off, h3, h5.imp id (fun ⟨cs, hb⟩ => ⟨cs, hb.grown hg hne⟩), fun i e he => ?_⟩
  have hlt := cell_lt (h4 i e he).1
  have hc := fun o => World.cell?_of_block (a := ⟨b, o, none⟩) (hg.block b hlt hne)
  exact ⟨(hc _).trans (h4 i e he).1, (hc _).trans (h4 i e he).2⟩
theorem EdgesO.kept (h : EdgesO base W v es) (hg : W.grownBy W' none) : EdgesO base W' v es := h.grown hg (fun _ e => by cases e)
theorem EdgesO.nil_ : EdgesO base W (.slice none 0 0) [] := ⟨none, 0, rfl, by simp, fun h => absurd rfl h⟩
theorem EdgesO.one {g c : Nat} {e : Ed} (h : Blk W g 67 (edCells e)) : EdgesO base W (.slice (some ⟨g, 0, none⟩) 1 c) [e] :=
  ⟨_, _, rfl, by simp, fun _ => ⟨g, 0, rfl, .inr ⟨_, h⟩, fun i x hx => by
    match i, hx with
    | 0, hx => cases hx; exact ⟨h.cell 0, h.cell 1⟩
    | i + 1, hx => simp at hx⟩⟩
end

/-- The cells of nodes, one behind the other. -/
def ndAll (ns : List (Nd × Value)) : List Value := ns.flatMap fun p => (ndCells p.1 p.2).toList
theorem ndAll_len (ns : List (Nd × Value)) : (ndAll ns).length = ns.length * 6 := by
  induction ns with
  | nil => rfl
  | cons p ns ih => simp only [ndAll, List.flatMap_cons, List.length_append] at ih ⊢; rw [ih]; simp; omega
theorem ndAll_snoc (ns : List (Nd × Value)) (p : Nd × Value) : ndAll (ns ++ [p]) = ndAll ns ++ (ndCells p.1 p.2).toList := by simp [ndAll]
theorem ndAll_at {ns : List (Nd × Value)} {i : Nat} {p : Nd × Value} (h : ns[i]? = some p) (j : Nat) (hj : j < 6) : (ndAll ns)[i * 6 + j]? = (ndCells p.1 p.2).toList[j]? := by
  induction ns generalizing i with
  | nil => simp at h
  | cons q ns ih =>
    have hq : (ndCells q.1 q.2).toList.length = 6 := rfl
    cases i with
    | zero =>
      simp only [List.getElem?_cons_zero, Option.some.injEq] at h
      subst h
      simp only [ndAll, List.flatMap_cons]
      rw [List.getElem?_append_left (by rw [hq]; omega), Nat.zero_mul, Nat.zero_add]
    | succ i =>
      rw [List.getElem?_cons_succ] at h
      simp only [ndAll, List.flatMap_cons]
      rw [List.getElem?_append_right (by rw [hq]; omega), hq, show (i + 1) * 6 + j - 6 = i * 6 + j by omega]
      exact ih h

/-- A table that is owned. -/
structure OT (base : Nat) (W : World) (v : Value) (ns : List (Nd × Value)) : Prop where
  row : W.ownsRow base 70 6 v ns.length (ndAll ns)
  eds : ∀ p ∈ ns, EdgesO base W p.2 p.1.next
section
variable {base : Nat} {W W' : World} {v : Value} {ns : List (Nd × Value)}
theorem OT.start (base : Nat) (W : World) : OT base W (.slice none 0 0) [] := ⟨World.ownsRow_nil _ _ _ _, fun p hp => by cases hp⟩
theorem OT.kept (h : OT base W v ns) (hg : W.grownBy W' none) : OT base W' v ns := by
  refine ⟨h.row.kept hg ?_, fun p hp => (h.eds p hp).kept hg⟩
  cases hb : v.ownBlock with
  | none => exact .inl rfl
  | some g => exact .inr (fun e => by cases e)
theorem own_row {n : Nat} {xs : List Value} {t : TypeId} {size : Nat} (h : W.ownsRow base t size v n xs) : ∀ g, v.ownBlock = some g → base ≤ g ∧ ∃ cs, Blk W g t cs := fun g hg => by
  rcases h.2 with ⟨rfl, _⟩ | ⟨g', cap, cur, rfl, hb, hh, _⟩
  · simp [Value.ownBlock] at hg
  · have : g' = g := by simpa [Value.ownBlock] using hg
    subst this
    exact ⟨hb, cur, hh⟩
theorem OT.tbl (h : OT base W v ns) : Tbl W v (ns.map (·.1)) := by
  rcases h.row.2 with ⟨rfl, he⟩ | ⟨g, cap, cur, rfl, hb, hh, _⟩
  · have h0 : ns = [] := by
      have := ndAll_len ns
      rw [he] at this
      exact List.eq_nil_of_length_eq_zero (by simp at this; omega)
    subst h0
    exact Tbl.nil_ W
  · refine ⟨_, cap, by simp, fun _ => ⟨g, 0, rfl, fun i x hx => ?_⟩⟩
    rw [List.getElem?_map] at hx
    obtain ⟨p, hp, rfl⟩ := Option.map_eq_some_iff.1 hx
    have hc := h.row.cells (g := g) rfl
    have e : ∀ j, ((⟨g, 0, none⟩ : Addr).add j) = ⟨g, j, none⟩ := fun j => by rw [addr_plain, Nat.zero_add]
    have at_ : ∀ j u, j < 6 → (ndCells p.1 p.2).toList[j]? = some u → W.cell? ⟨g, i * 6 + j, none⟩ = some u := fun j u hj hu => by
      have := hc (i * 6 + j) u ((ndAll_at hp j hj).trans hu)
      rwa [e] at this
    refine ⟨p.2, (h.eds p (List.mem_of_getElem? hp)).edges, ?_⟩
    rw [Nat.zero_add]
    exact ⟨at_ 0 _ (by omega) rfl, at_ 1 _ (by omega) rfl, at_ 2 _ (by omega) rfl, at_ 3 _ (by omega) rfl, at_ 4 _ (by omega) rfl, at_ 5 _ (by omega) rfl⟩
theorem OT.len (h : OT base W v ns) : ∃ A c, v = .slice A ns.length c := by
  rcases h.row.2 with ⟨rfl, he⟩ | ⟨g, cap, cur, rfl, _⟩
  · have h0 : ns = [] := by
      have := ndAll_len ns
      rw [he] at this
      exact List.eq_nil_of_length_eq_zero (by simp at this; omega)
    subst h0
    exact ⟨none, 0, rfl⟩
  · exact ⟨_, _, rfl⟩
end

theorem grown_own {w W W' : World} {v : Value} (h : w.grownBy W none) (hr : ∀ g, v.ownBlock = some g → w.heap.size ≤ g) (hg : W.grownBy W' v.ownBlock) : w.grownBy W' none := by
  cases hb : v.ownBlock with
  | none => rw [hb] at hg; exact only_trans h hg
  | some g => rw [hb] at hg; exact only_new h hg (hr g hb)
end Go.Proofs.Ytmhbmeckdbdhpaa

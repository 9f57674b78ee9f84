/- Texts joined for the claim's sake: GRefD, GOwn, GOm, GMadA, GWyP. -/
import Derived.Test.YtepjkoegbehojaaZMgAF
import Derived.Test.YtepjkoegbehojaaZMgAG
import Derived.Test.YtepjkoegbehojaaZMgAH
import Derived.Test.YtepjkoegbehojaaZMgAA
import Derived.Laws.AppendOwn
import Derived.Maps.AppendAt
import Derived.RowKit
import Derived.Deep.RegionLaw
/- The document's answer for graph: Check: what it answers of any table. -/
namespace Go.Proofs.Ytepjkoegbehojaa
open Go.RowKit Go.Shelf

theorem pick_neg {xs : List Nd} : ∀ {L : List Ed}, (∀ s ∈ L, 0 ≤ s.1) → ((pickL xs L).1 < 0 ↔ L.all (isAl xs) = true)
  | [], _ => by simp [pickL]
  | t :: L, h => by
    have ih := pick_neg (xs := xs) (L := L) (fun s hs => h s (List.mem_cons_of_mem _ hs))
    have h0 := h t List.mem_cons_self
    cases ht : isAl xs t with
    | true => simp only [pickL, ht, if_true, List.all_cons, Bool.true_and]; exact ih
    | false => simp only [pickL, ht, List.all_cons, Bool.false_and]; simp; omega
theorem lost_iff (xs : List Nd) (k : Nat) : (resolveL xs ((k : Int), 0)).1 < 0 ↔ lostB xs k = true :=
  pick_neg fun s hs => by
    obtain ⟨x, hx⟩ := wayL_mem hs
    exact (nodeAt_some hx).1
theorem lost_not {xs : List Nd} {k : Nat} {x : Nd} (hx : xs[k]? = some x) (hk : x.kind ≠ 5) : lostB xs k = false := by
  have hn : nodeAt xs (k : Int) = some x := nodeAt_nat.trans hx
  obtain ⟨hl, _⟩ := List.getElem?_eq_some_iff.1 hx
  obtain ⟨f, hf⟩ : ∃ f, xs.length = f + 1 := ⟨xs.length - 1, by omega⟩
  unfold lostB
  obtain ⟨r, hr⟩ := wayL_head (f := f) (t := ((k : Int), 0)) hn
  rw [hf, hr, List.all_cons, isAl_at (t := ((k : Int), 0)) hn]
  simp [hk]
theorem field_0 (p : Ed) (w : World) : (Instr.field 35 (edV p) 0).run Try.prog w = .ok (.int .i64 p.1) w := by kernel_rfl
def Found (xs : List Nd) (k : Nat) : Prop := ∀ j, j < k → lostB xs j = false
theorem Found.next {xs : List Nd} {k : Nat} (h : Found xs k) (hl : lostB xs k = false) : Found xs (k + 1) := fun j hj => by
  by_cases e : j = k
  · subst e; exact hl
  · exact h j (by omega)

set_option maxRecDepth 100000 in
set_option maxHeartbeats 2000000 in
theorem refCheck_any (xs : List Nd) (v : Value) (w : World) (hT : Tbl w v xs) (hxs : xs.length ≤ 1000000) :
    Calls Try.prog 49 #[v] w fun e w' => e = .returned (pairV (checkL xs)) ∧ w.grownBy w' none := by
  have HT := Lib.hid hT
  have HL := Lib.hid hxs
  obtain ⟨A, cap, rfl, hcl⟩ := hT
  obtain ⟨r, hr⟩ : ∃ r, checkL xs = r := ⟨_, rfl⟩
  rw [hr]
  have HR := Lib.hid hr
  clear hcl hxs hr
  by_cases h0 : xs.length = 0
  · have HC := Lib.hid (HR.out.symm.trans (check_0 h0))
    have h0' : (xs.length : Int) = 0 := by omega
    clear h0
    go_enter Try.func49, Try.ntmps49
    go_wp2_with fail
    go_ret2
    exact ⟨by rw [HC.out]; rfl, only_refl _ _⟩
  · by_cases h1 : 64 < xs.length
    · have HC := Lib.hid (HR.out.symm.trans (check_1 h1))
      have h0' : ¬ (xs.length : Int) = 0 := by omega
      have h1' : (64 : Int) < (xs.length : Int) := by omega
      clear h0 h1
      go_enter Try.func49, Try.ntmps49
      go_wp2_with fail
      go_ret2
      exact ⟨by rw [HC.out]; rfl, only_refl _ _⟩
    · have h0' : ((xs.length : Int) == 0) = false := beq_eq_false_iff_ne.2 (by omega)
      have h1' : decide ((64 : Int) < (xs.length : Int)) = false := decide_eq_false (by omega)
      have h64 : xs.length ≤ 64 := by omega
      have HP : Hid (0 < xs.length ∧ xs.length ≤ 64) := ⟨by omega, by omega⟩
      clear h0 h1
      go_enter Try.func49, Try.ntmps49
      go_wp2_with fail
      go_loopw [4] (fun i wr => ∃ k : Nat, k ≤ xs.length ∧ i = .int .i64 (k : Int) ∧ Fine xs k ∧ w.grownBy wr none) (fun i _ => xs.length - (intOf i).toNat)
      case atStart => exact ⟨0, Nat.zero_le _, rfl, fun j x h => by omega, only_refl _ _⟩
      case round =>
        obtain ⟨k, hk, rfl, hfine, hg⟩ := hrel
        have HF := Lib.hid hfine
        have HG := Lib.hid hg
        clear hfine hg
        by_cases hlt : k < xs.length
        · have hk0 : (0 : Int) ≤ (k : Int) := by omega
          have hk1 : (k : Int) < (xs.length : Int) := by omega
          obtain ⟨x, hx⟩ : ∃ x, xs[k]? = some x := ⟨_, List.getElem?_eq_getElem hlt⟩
          have HX := Lib.hid hx
          obtain ⟨A', c', hA, hcl⟩ := HT.out.keep (Keeps.grown HG.out)
          obtain ⟨bb, off, hAb, hcl2⟩ := hcl (by intro e0; rw [e0] at hlt; simp at hlt)
          have hnd := hcl2 k x hx
          have HND := Lib.hid hnd
          obtain ⟨v', hE, n0, n1, n2, n3, n4, n5⟩ := hnd
          have HE := Lib.hid hE
          obtain ⟨A2, c2, rfl, _, _⟩ := hE
          clear hcl2 hcl hx
          obtain ⟨rfl, rfl⟩ : A = A' ∧ cap = c' := by simpa using hA
          subst hAb
          clear hA
          cases hs : shapeB x
          · have HS : Hid (r = ((k : Int), 7)) := HR.out.symm.trans (by rw [check_2 HP.out.1 HP.out.2 (by rw [firstIll_here HX.out HF.out (by rw [ill_shape hs]; omega), ill_shape hs]; simp), firstIll_here HX.out HF.out (by rw [ill_shape hs]; omega), ill_shape hs])
            go_wp2_with (go_at_call 65; go_must (refine (refShape_any x (.slice A2 x.next.length c2) _ HE.out).mono ?_; rintro e w1 ⟨rfl, hg1⟩; have HG1 := Lib.hid hg1; clear hg1))
            go_ret2
            exact ⟨by rw [HS.out]; rfl, only_trans HG.out HG1.out⟩
          · have HSh := Lib.hid hs
            cases ho : (!(edgesL x).all (inB xs.length))
            · have HO := Lib.hid ho
              have HN := Lib.hid (HF.out.next HX.out (ill_ok HSh.out (by simpa using HO.out)))
              go_wp2_with (first | (go_at_call 65; go_must (refine (refShape_any x (.slice A2 x.next.length c2) _ HE.out).mono ?_; rintro e w1 ⟨rfl, hg1⟩; have HG1 := Lib.hid hg1; have HE1 := Lib.hid (HE.out.keep (.grown hg1)); have m0 := Keeps.grown hg1 _ _ n0; have m1 := Keeps.grown hg1 _ _ n1; have m2 := Keeps.grown hg1 _ _ n2; have m3 := Keeps.grown hg1 _ _ n3; have m4 := Keeps.grown hg1 _ _ n4; have m5 := Keeps.grown hg1 _ _ n5; clear hg1)) | (go_at_call 66; go_must (refine (open_any x (.slice A2 x.next.length c2) xs.length _ HE1.out).mono ?_; rintro e w2 ⟨rfl, hg2⟩; have HG2 := Lib.hid hg2; clear hg2)))
              go_roundw
              case rel => exact ⟨k + 1, by omega, by go_num, HN.out, only_trans (only_trans HG.out HG1.out) HG2.out⟩
              case measure => simp [intOf]; omega
            · have HO := Lib.hid ho
              have hof : (edgesL x).all (inB xs.length) = false := by simpa using HO.out
              have HS : Hid (r = ((k : Int), 8)) := HR.out.symm.trans (by rw [check_2 HP.out.1 HP.out.2 (by rw [firstIll_here HX.out HF.out (by rw [ill_open HSh.out hof]; omega), ill_open HSh.out hof]; simp), firstIll_here HX.out HF.out (by rw [ill_open HSh.out hof]; omega), ill_open HSh.out hof])
              clear hof
              go_wp2_with (first | (go_at_call 65; go_must (refine (refShape_any x (.slice A2 x.next.length c2) _ HE.out).mono ?_; rintro e w1 ⟨rfl, hg1⟩; have HG1 := Lib.hid hg1; have HE1 := Lib.hid (HE.out.keep (.grown hg1)); have m0 := Keeps.grown hg1 _ _ n0; have m1 := Keeps.grown hg1 _ _ n1; have m2 := Keeps.grown hg1 _ _ n2; have m3 := Keeps.grown hg1 _ _ n3; have m4 := Keeps.grown hg1 _ _ n4; have m5 := Keeps.grown hg1 _ _ n5; clear hg1)) | (go_at_call 66; go_must (refine (open_any x (.slice A2 x.next.length c2) xs.length _ HE1.out).mono ?_; rintro e w2 ⟨rfl, hg2⟩; have HG2 := Lib.hid hg2; clear hg2)))
              go_ret2
              exact ⟨by rw [HS.out]; rfl, only_trans (only_trans HG.out HG1.out) HG2.out⟩
        · have hke : k = xs.length := by omega
          have HI : Hid ((firstIll xs.length xs 0).2 = 0) := by rw [firstIll_none (by have := HF.out; rw [hke] at this; exact this)]; rfl
          have hge : decide (k < xs.length) = false := decide_eq_false hlt
          clear hke hlt hk HF
          go_wp2_with fail
          go_loopw [5] (fun i wr => ∃ k : Nat, k ≤ xs.length ∧ i = .int .i64 (k : Int) ∧ Found xs k ∧ w.grownBy wr none) (fun i _ => xs.length - (intOf i).toNat)
          case atStart => exact ⟨0, Nat.zero_le _, rfl, fun j h => by omega, HG.out⟩
          case round =>
            clear HG hge
            obtain ⟨k2, hk, rfl, hfd, hg⟩ := hrel
            have HF := Lib.hid hfd
            have hfld := fun p w => field_0 p w
            have HG := Lib.hid hg
            clear hfd hg
            by_cases hlt : k2 < xs.length
            · have hk0 : (0 : Int) ≤ (k2 : Int) := by omega
              have hk1 : (k2 : Int) < (xs.length : Int) := by omega
              obtain ⟨x, hx⟩ : ∃ x, xs[k2]? = some x := ⟨_, List.getElem?_eq_getElem hlt⟩
              have HX := Lib.hid hx
              have hT2 := HT.out.keep (Keeps.grown HG.out)
              have HT2 := Lib.hid hT2
              obtain ⟨A', c', hA, hcl⟩ := hT2
              obtain ⟨bb, off, hAb, hcl2⟩ := hcl (by intro e0; rw [e0] at hlt; simp at hlt)
              obtain ⟨v', _, n0, _⟩ := hcl2 k2 x hx
              clear hcl2 hcl hx
              obtain ⟨rfl, rfl⟩ : A = A' ∧ cap = c' := by simpa using hA
              subst hAb
              clear hA
              by_cases h5 : x.kind = 5
              · rw [h5] at n0
                clear h5
                by_cases hl : (resolveL xs ((k2 : Int), 0)).1 < 0
                · have HS : Hid (r = ((k2 : Int), 9)) := by
                    have hh := firstLost_here hlt HF.out ((lost_iff xs k2).1 hl)
                    exact HR.out.symm.trans (by rw [check_4 HP.out.1 HP.out.2 HI.out (by rw [hh]; omega), hh])
                  go_wp2_with (go_at_call 31; go_must (refine (refResolve_any xs _ ((k2 : Int), 0) _ HT2.out HL.out).mono ?_; rintro e w2 ⟨rfl, hg2⟩; have HG2 := Lib.hid hg2; clear hg2; rw [pick_more]))
                  go_ret2
                  exact ⟨by rw [HS.out]; rfl, only_trans HG.out HG2.out⟩
                · have HN : Hid (Found xs (k2 + 1)) := HF.out.next (by
                    cases hb : lostB xs k2 with
                    | false => rfl
                    | true => exact absurd ((lost_iff xs k2).2 hb) hl)
                  have hl' : 0 ≤ (resolveL xs ((k2 : Int), 0)).1 := by omega
                  clear hl
                  go_wp2_with (go_at_call 31; go_must (refine (refResolve_any xs _ ((k2 : Int), 0) _ HT2.out HL.out).mono ?_; rintro e w2 ⟨rfl, hg2⟩; have HG2 := Lib.hid hg2; clear hg2; rw [pick_more]))
                  go_roundw
                  case rel => exact ⟨k2 + 1, by omega, by go_num, HN.out, only_trans HG.out HG2.out⟩
                  case measure => simp [intOf]; omega
              · have HN := Lib.hid (HF.out.next (lost_not HX.out h5))
                go_wp2_with fail
                go_roundw
                case rel => exact ⟨k2 + 1, by omega, by go_num, HN.out, HG.out⟩
                case measure => simp [intOf]; omega
            · have hke : k2 = xs.length := by omega
              have HS : Hid (r = (-1, 0)) := by
                have hh := firstLost_none (n := xs.length) (by have := HF.out; rw [hke] at this; exact this)
                exact HR.out.symm.trans (check_3 HP.out.1 HP.out.2 HI.out (by rw [hh]; omega))
              have hge : (xs.length : Int) ≤ (k2 : Int) := by omega
              clear hke hlt hk
              go_wp2_with fail
              go_ret2
              exact ⟨by rw [HS.out]; rfl, HG.out⟩
end Go.Proofs.Ytepjkoegbehojaa

/- Tables that a call makes by append: what is owned, and one node more. -/
namespace Go.Proofs.Ytepjkoegbehojaa
open Go.RowKit

theorem node_info : (Try.prog.info? 46).map (fun i => (i.zero, i.size, i.bytes)) = some (some (.agg #[.int .i64 0, .int .i64 0, .bool false, .int .i64 0, .int .i64 0, .slice none 0 0]), 6, 64) := by kernel_rfl

theorem addr_plain (b o j : Nat) : (⟨b, o, none⟩ : Addr).add j = ⟨b, o + j, none⟩ := by unfold Addr.add; split <;> simp_all
/-- Edges that lie where no row of nodes does: below base, or in a block of edges. -/
def EdgesO (base : Nat) (W : World) (v : Value) (es : List Ed) : Prop := ∃ (A : Option Addr) (c : Nat), v = .slice A es.length c ∧ es.length ≤ 9223372036854775807 ∧
  (es ≠ [] → ∃ b off, A = some ⟨b, off, none⟩ ∧ (b < base ∨ ∃ cs, Blk W b 43 cs) ∧ ∀ i e, es[i]? = some e → W.cell? ⟨b, off + i * 2, none⟩ = some (.int .i64 e.1) ∧ W.cell? ⟨b, off + i * 2 + 1, none⟩ = some (.int .i64 e.2))
section
variable {base : Nat} {W W' : World} {v : Value} {es : List Ed}
theorem EdgesO.edges (h : EdgesO base W v es) : Edges W v es := by
  obtain ⟨A, c, h1, hl, h2⟩ := h
  refine ⟨A, c, h1, hl, fun hn => ?_⟩
  obtain ⟨b, off, h3, _, h4⟩ := h2 hn
  exact ⟨b, off, h3, h4⟩
theorem Edges.old (h : Edges W v es) (hB : W.heap.size ≤ base) : EdgesO base W v es := by
  obtain ⟨A, c, h1, hl, h2⟩ := h
  refine ⟨A, c, h1, hl, fun hn => ?_⟩
  obtain ⟨b, off, h3, h4⟩ := h2 hn
  have h0 : ∃ e, es[0]? = some e := by
    cases es with
    | nil => exact absurd rfl hn
    | cons e _ => exact ⟨e, rfl⟩
  obtain ⟨e, he⟩ := h0
  have : b < W.heap.size := cell_lt (h4 0 e he).1
  exact ⟨b, off, h3, .inl (by omega), h4⟩
theorem EdgesO.grown {row : Option Nat} (h : EdgesO base W v es) (hg : W.grownBy W' row) (hr : ∀ g, row = some g → base ≤ g ∧ ∃ cs t, Blk W g t cs ∧ t ≠ 43) : EdgesO base W' v es := by
  obtain ⟨A, c, h1, hl, h2⟩ := h
  refine ⟨A, c, h1, hl, fun hn => ?_⟩
  obtain ⟨b, off, h3, h5, h4⟩ := h2 hn
  have hne : some b ≠ row := fun e => by
    obtain ⟨hb, cs, t, hblk, ht⟩ := hr b e.symm
    rcases h5 with h5 | ⟨cs', h5⟩
    · omega
    · exact Blk.ne_ hblk h5 ht rfl
  refine ⟨b, off, h3, h5.imp id (fun ⟨cs, hb⟩ => ⟨cs, hb.grown hg hne⟩), fun i e he => ?_⟩
  have hlt := cell_lt (h4 i e he).1
  have hc := fun o => World.cell?_of_block (a := ⟨b, o, none⟩) (hg.block b hlt hne)
  exact ⟨(hc _).trans (h4 i e he).1, (hc _).trans (h4 i e he).2⟩
theorem EdgesO.kept (h : EdgesO base W v es) (hg : W.grownBy W' none) : EdgesO base W' v es := h.grown hg (fun _ e => by cases e)
theorem EdgesO.nil_ : EdgesO base W (.slice none 0 0) [] := ⟨none, 0, rfl, by simp, fun h => absurd rfl h⟩
theorem EdgesO.one {g c : Nat} {e : Ed} (h : Blk W g 43 (edCells e)) : EdgesO base W (.slice (some ⟨g, 0, none⟩) 1 c) [e] :=
  ⟨_, _, rfl, by simp, fun _ => ⟨g, 0, rfl, .inr ⟨_, h⟩, fun i x hx => by
    match i, hx with
    | 0, hx => cases hx; exact ⟨h.cell 0, h.cell 1⟩
    | i + 1, hx => simp at hx⟩⟩
end

/-- The cells of nodes, one behind the other. -/
def ndAll (ns : List (Nd × Value)) : List Value := ns.flatMap fun p => (ndCells p.1 p.2).toList
theorem ndAll_len (ns : List (Nd × Value)) : (ndAll ns).length = ns.length * 6 := by
  induction ns with
  | nil => rfl
  | cons p ns ih => simp only [ndAll, List.flatMap_cons, List.length_append] at ih ⊢; rw [ih]; simp; omega
theorem ndAll_snoc (ns : List (Nd × Value)) (p : Nd × Value) : ndAll (ns ++ [p]) = ndAll ns ++ (ndCells p.1 p.2).toList := by simp [ndAll]
theorem ndAll_at {ns : List (Nd × Value)} {i : Nat} {p : Nd × Value} (h : ns[i]? = some p) (j : Nat) (hj : j < 6) : (ndAll ns)[i * 6 + j]? = (ndCells p.1 p.2).toList[j]? := by
  induction ns generalizing i with
  | nil => simp at h
  | cons q ns ih =>
    have hq : (ndCells q.1 q.2).toList.length = 6 := rfl
    cases i with
    | zero =>
      simp only [List.getElem?_cons_zero, Option.some.injEq] at h
      subst h
      simp only [ndAll, List.flatMap_cons]
      rw [List.getElem?_append_left (by rw [hq]; omega), Nat.zero_mul, Nat.zero_add]
    | succ i =>
      rw [List.getElem?_cons_succ] at h
      simp only [ndAll, List.flatMap_cons]
      rw [List.getElem?_append_right (by rw [hq]; omega), hq, show (i + 1) * 6 + j - 6 = i * 6 + j by omega]
      exact ih h

/-- A table that is owned. -/
structure OT (base : Nat) (W : World) (v : Value) (ns : List (Nd × Value)) : Prop where
  row : W.ownsRow base 46 6 v ns.length (ndAll ns)
  eds : ∀ p ∈ ns, EdgesO base W p.2 p.1.next
section
variable {base : Nat} {W W' : World} {v : Value} {ns : List (Nd × Value)}
theorem OT.start (base : Nat) (W : World) : OT base W (.slice none 0 0) [] := ⟨World.ownsRow_nil _ _ _ _, fun p hp => by cases hp⟩
theorem OT.kept (h : OT base W v ns) (hg : W.grownBy W' none) : OT base W' v ns := by
  refine ⟨h.row.kept hg ?_, fun p hp => (h.eds p hp).kept hg⟩
  cases hb : v.ownBlock with
  | none => exact .inl rfl
  | some g => exact .inr (fun e => by cases e)
theorem own_row {n : Nat} {xs : List Value} {t : TypeId} {size : Nat} (h : W.ownsRow base t size v n xs) : ∀ g, v.ownBlock = some g → base ≤ g ∧ ∃ cs, Blk W g t cs := fun g hg => by
  rcases h.2 with ⟨rfl, _⟩ | ⟨g', cap, cur, rfl, hb, hh, _⟩
  · simp [Value.ownBlock] at hg
  · have : g' = g := by simpa [Value.ownBlock] using hg
    subst this
    exact ⟨hb, cur, hh⟩
theorem OT.tbl (h : OT base W v ns) : Tbl W v (ns.map (·.1)) := by
  rcases h.row.2 with ⟨rfl, he⟩ | ⟨g, cap, cur, rfl, hb, hh, _⟩
  · have h0 : ns = [] := by
      have := ndAll_len ns
      rw [he] at this
      exact List.eq_nil_of_length_eq_zero (by simp at this; omega)
    subst h0
    exact Tbl.nil_ W
  · refine ⟨_, cap, by simp, fun _ => ⟨g, 0, rfl, fun i x hx => ?_⟩⟩
    rw [List.getElem?_map] at hx
    obtain ⟨p, hp, rfl⟩ := Option.map_eq_some_iff.1 hx
    have hc := h.row.cells (g := g) rfl
    have e : ∀ j, ((⟨g, 0, none⟩ : Addr).add j) = ⟨g, j, none⟩ := fun j => by rw [addr_plain, Nat.zero_add]
    have at_ : ∀ j u, j < 6 → (ndCells p.1 p.2).toList[j]? = some u → W.cell? ⟨g, i * 6 + j, none⟩ = some u := fun j u hj hu => by
      have := hc (i * 6 + j) u ((ndAll_at hp j hj).trans hu)
      rwa [e] at this
    refine ⟨p.2, (h.eds p (List.mem_of_getElem? hp)).edges, ?_⟩
    rw [Nat.zero_add]
    exact ⟨at_ 0 _ (by omega) rfl, at_ 1 _ (by omega) rfl, at_ 2 _ (by omega) rfl, at_ 3 _ (by omega) rfl, at_ 4 _ (by omega) rfl, at_ 5 _ (by omega) rfl⟩
theorem OT.len (h : OT base W v ns) : ∃ A c, v = .slice A ns.length c := by
  rcases h.row.2 with ⟨rfl, he⟩ | ⟨g, cap, cur, rfl, _⟩
  · have h0 : ns = [] := by
      have := ndAll_len ns
      rw [he] at this
      exact List.eq_nil_of_length_eq_zero (by simp at this; omega)
    subst h0
    exact ⟨none, 0, rfl⟩
  · exact ⟨_, _, rfl⟩
end

/-- One node more, appended. -/
theorem wpList_append_node {ops : Array Oper} {rest : List Oper} {o : Oper} {a : Act} {W : World} {Q : Exit → Act → World → Prop} (hgd : o.guard = none) (s x : Operand)
    (ho : o.op = .call { callee := .builtin .append, args := #[s, x], argTypes := #[22, 22] })
    {base : Nat} {v : Value} {ns : List (Nd × Value)} {nd : Nd} {e : Value} {g : Nat} (hs : a.eval s = v) (hx : a.eval x = .slice (some ⟨g, 0, none⟩) 1 1)
    (hot : OT base W v ns) (hb : Blk W g 46 (ndCells nd e)) (hE : EdgesO base W e nd.next) (hn : ns.length ≤ 1000) (hbase : base ≤ W.heap.size)
    (h : ∀ v' W', OT base W' v' (ns ++ [(nd, e)]) → W.grownBy W' v.ownBlock → wpList Try.prog ops Q rest (a.put o.dst v') W') : wpList Try.prog ops Q (o :: rest) a W := by
  obtain ⟨i0, hi, hz0, hz1, hz2⟩ := info_parts node_info
  have hE2 := hE
  obtain ⟨A2, c2, he, _⟩ := hE2
  refine wpList_append_own W hgd s x 22 ho base 46 i0 _ 6 64 Try.underlying22 hi hz0 hz1 hz2 rfl (by decide) v ns.length (ndAll ns) hs hot.row
    ⟨g, 0, none⟩ 1 1 (ndCells nd e).toList hx rfl (fun j u hu => ?_) (fun u hu => ?_) (by unfold maxLen; omega) (by omega) hbase (fun v' W' hr hg _ => h v' W' ⟨?_, ?_⟩ hg)
  · rw [addr_plain, Nat.zero_add, hb.cell j, ← hu]; simp
  · rw [he] at hu
    simp only [List.mem_cons, List.not_mem_nil, or_false] at hu
    rcases hu with rfl | rfl | rfl | rfl | rfl | rfl <;> rfl
  · rw [List.length_append, ndAll_snoc]; exact hr
  · intro p hp
    rcases List.mem_append.1 hp with hp | hp
    · refine (hot.eds p hp).grown hg (fun g' e' => ?_)
      obtain ⟨hb', cs, hblk⟩ := own_row hot.row g' e'
      exact ⟨hb', cs, _, hblk, by decide⟩
    · obtain rfl := List.mem_singleton.1 hp
      refine hE.grown hg (fun g' e' => ?_)
      obtain ⟨hb', cs, hblk⟩ := own_row hot.row g' e'
      exact ⟨hb', cs, _, hblk, by decide⟩
theorem grown_own {w W W' : World} {v : Value} (h : w.grownBy W none) (hr : ∀ g, v.ownBlock = some g → w.heap.size ≤ g) (hg : W.grownBy W' v.ownBlock) : w.grownBy W' none := by
  cases hb : v.ownBlock with
  | none => rw [hb] at hg; exact only_trans h hg
  | some g => rw [hb] at hg; exact only_new h hg (hr g hb)
end Go.Proofs.Ytepjkoegbehojaa

/- Tables whose edges are owned, too: each node's in a row of its own. -/
namespace Go.Proofs.Ytepjkoegbehojaa
open Go.RowKit

theorem edge_info : (Try.prog.info? 43).map (fun i => (i.zero, i.size, i.bytes)) = some (some (.agg #[.int .i64 0, .int .i64 0]), 2, 16) := by kernel_rfl
def edAll (es : List Ed) : List Value := es.flatMap fun e => (edCells e).toList
theorem edAll_len (es : List Ed) : (edAll es).length = es.length * 2 := by
  induction es with
  | nil => rfl
  | cons e es ih => simp only [edAll, List.flatMap_cons, List.length_append] at ih ⊢; rw [ih]; simp; omega
theorem edAll_snoc (es : List Ed) (e : Ed) : edAll (es ++ [e]) = edAll es ++ (edCells e).toList := by simp [edAll]
theorem edAll_at {es : List Ed} {i : Nat} {e : Ed} (h : es[i]? = some e) (j : Nat) (hj : j < 2) : (edAll es)[i * 2 + j]? = (edCells e).toList[j]? := by
  induction es generalizing i with
  | nil => simp at h
  | cons q es ih =>
    have hq : (edCells q).toList.length = 2 := rfl
    cases i with
    | zero =>
      simp only [List.getElem?_cons_zero, Option.some.injEq] at h
      subst h
      simp only [edAll, List.flatMap_cons]
      rw [List.getElem?_append_left (by rw [hq]; omega), Nat.zero_mul, Nat.zero_add]
    | succ i =>
      rw [List.getElem?_cons_succ] at h
      simp only [edAll, List.flatMap_cons]
      rw [List.getElem?_append_right (by rw [hq]; omega), hq, show (i + 1) * 2 + j - 2 = i * 2 + j by omega]
      exact ih h
/-- A row of edges of the call's own. -/
def EOwn (base : Nat) (W : World) (v : Value) (es : List Ed) : Prop := W.ownsRow base 43 2 v es.length (edAll es)
section
variable {base : Nat} {W W' : World} {v : Value} {es : List Ed}
theorem EOwn.nil_ (base : Nat) (W : World) : EOwn base W (.slice none 0 0) [] := World.ownsRow_nil _ _ _ _
theorem EOwn.edges (h : EOwn base W v es) (hl : es.length ≤ 1000) : EdgesO base W v es := by
  rcases h.2 with ⟨rfl, he⟩ | ⟨g, cap, cur, rfl, hb, hh, _⟩
  · have h0 : es = [] := by
      have := edAll_len es
      rw [he] at this
      exact List.eq_nil_of_length_eq_zero (by simp at this; omega)
    subst h0
    exact EdgesO.nil_
  · refine ⟨_, cap, rfl, by omega, fun _ => ⟨g, 0, rfl, .inr ⟨cur, hh⟩, fun i e he => ?_⟩⟩
    have hc := h.cells (g := g) rfl
    have at_ : ∀ j u, j < 2 → (edCells e).toList[j]? = some u → W.cell? ⟨g, i * 2 + j, none⟩ = some u := fun j u hj hu => by
      have := hc (i * 2 + j) u ((edAll_at he j hj).trans hu)
      rwa [addr_plain, Nat.zero_add] at this
    rw [Nat.zero_add]
    exact ⟨at_ 0 _ (by omega) rfl, at_ 1 _ (by omega) rfl⟩
theorem EOwn.kept {row : Option Nat} (h : EOwn base W v es) (hg : W.grownBy W' row) (hr : ∀ g, v.ownBlock = some g → row ≠ some g) : EOwn base W' v es := by
  refine World.ownsRow.kept h hg ?_
  cases hb : v.ownBlock with
  | none => exact .inl rfl
  | some g => exact .inr (fun e => hr g hb e.symm)
theorem EOwn.kept0 (h : EOwn base W v es) (hg : W.grownBy W' none) : EOwn base W' v es := h.kept hg (fun _ _ e => by cases e)
theorem EOwn.one {g : Nat} {e : Ed} (h : Blk W g 43 (edCells e)) (hb : base ≤ g) : EOwn base W (.slice (some ⟨g, 0, none⟩) 1 1) [e] :=
  ⟨rfl, .inr ⟨g, 1, edCells e, rfl, hb, h, Nat.le_refl _, by unfold maxLen; omega, rfl, rfl⟩⟩
theorem EOwn.len (h : EOwn base W v es) : ∃ A c, v = .slice A es.length c := by
  rcases h.2 with ⟨rfl, he⟩ | ⟨g, cap, cur, rfl, _⟩
  · have h0 : es = [] := by
      have := edAll_len es
      rw [he] at this
      exact List.eq_nil_of_length_eq_zero (by simp at this; omega)
    subst h0
    exact ⟨none, 0, rfl⟩
  · exact ⟨_, _, rfl⟩
end

/-- A table that is owned, its edges, too, each node's in a row of its own. -/
structure OM (base : Nat) (W : World) (v : Value) (ns : List (Nd × Value)) : Prop where
  row : W.ownsRow base 46 6 v ns.length (ndAll ns)
  eds : ∀ p ∈ ns, EOwn base W p.2 p.1.next ∧ p.1.next.length ≤ 1000
  apart : ns.Pairwise fun p q => ∀ g, p.2.ownBlock = some g → q.2.ownBlock ≠ some g
section
variable {base : Nat} {W W' : World} {v : Value} {ns : List (Nd × Value)}
theorem OM.ot (h : OM base W v ns) : OT base W v ns := ⟨h.row, fun p hp => (h.eds p hp).1.edges (h.eds p hp).2⟩
theorem OM.start (base : Nat) (W : World) : OM base W (.slice none 0 0) [] := ⟨World.ownsRow_nil _ _ _ _, (fun p hp => by cases hp), List.Pairwise.nil⟩
/-- Another block is turned: neither the table's, nor its edges'. -/
theorem OM.far {row : Option Nat} (h : OM base W v ns) (hg : W.grownBy W' row) (hr : ∀ g, row = some g → v.ownBlock ≠ some g ∧ ∀ p ∈ ns, p.2.ownBlock ≠ some g) : OM base W' v ns := by
  refine ⟨h.row.kept hg ?_, fun p hp => ⟨(h.eds p hp).1.kept hg (fun g e e' => (hr g e').2 p hp e), (h.eds p hp).2⟩, h.apart⟩
  cases hb : v.ownBlock with
  | none => exact .inl rfl
  | some g => exact .inr (fun e => (hr g e.symm).1 hb)
theorem OM.kept (h : OM base W v ns) (hg : W.grownBy W' none) : OM base W' v ns := h.far hg (fun _ e => by cases e)
end
end Go.Proofs.Ytepjkoegbehojaa

/- Tables as the statements make them: what a node of them is like; and an edge, a node, appended to what is owned. -/
namespace Go.Proofs.Ytepjkoegbehojaa
open Go.RowKit

/-- As it may be, with no more than eight edges. -/
def Good (n : Nat) (x : Nd) : Prop := illN n x = 0 ∧ x.next.length ≤ 8
theorem good_of {n : Nat} {x : Nd} (h : headB x = true) (hs : ∀ e ∈ edgesL x, 0 ≤ e.2 ∧ e.2 ≤ 1000) (hi : ∀ e ∈ edgesL x, 0 ≤ e.1 ∧ e.1 < n) (hl : x.next.length ≤ 8) : Good n x := by
  refine ⟨?_, hl⟩
  have h1 : shapeB x = true := by
    unfold shapeB
    rw [h, Bool.true_and, List.all_eq_true]
    intro e he
    simpa [shiftB, withinB] using hs e he
  have h2 : (edgesL x).all (inB n) = true := by
    rw [List.all_eq_true]
    intro e he
    exact nodeB_true.2 (hi e he)
  simp only [illN, h1, h2, if_true]
def edOk (n : Nat) (e : Ed) : Prop := 0 ≤ e.1 ∧ e.1 < n ∧ 0 ≤ e.2 ∧ e.2 ≤ 1000
theorem good_end (n : Nat) : Good n ⟨0, 0, false, (0, 0), []⟩ := good_of rfl (by simp [edgesL]) (by simp [edgesL]) (by simp)
theorem good_alias {n : Nat} {e : Ed} (h : edOk n e) : Good n ⟨5, 0, false, (0, 0), [e]⟩ :=
  good_of rfl (by simp [edgesL]; exact h.2.2) (by simp [edgesL]; exact ⟨h.1, h.2.1⟩) (by simp)
theorem good_word {n : Nat} {k p : Int} {e : Ed} (hk : k = 1 ∨ k = 2) (hp : 0 ≤ p) (hp2 : p ≤ 255) (h : edOk n e) : Good n ⟨k, p, false, (0, 0), [e]⟩ :=
  good_of (by rcases hk with rfl | rfl <;> simp [headB, kindB, withinB, leastN, mostN, mostP, payB] <;> omega) (by simp [edgesL]; exact h.2.2) (by simp [edgesL]; exact ⟨h.1, h.2.1⟩) (by simp)
theorem good_chan {n : Nat} {k p : Int} {e q : Ed} (hk : k = 1 ∨ k = 2) (hp : 0 ≤ p) (hp2 : p ≤ 255) (h : edOk n e) (hq : edOk n q) : Good n ⟨k, p, true, q, [e]⟩ :=
  good_of (by rcases hk with rfl | rfl <;> simp [headB, kindB, withinB, leastN, mostN, mostP, payB, paysB] <;> omega) (by simp [edgesL]; exact ⟨hq.2.2, h.2.2⟩) (by simp [edgesL]; exact ⟨⟨hq.1, hq.2.1⟩, ⟨h.1, h.2.1⟩⟩) (by simp)
theorem good_fan {n : Nat} {k : Int} {es : List Ed} (hk : k = 3 ∨ k = 4) (h0 : 1 ≤ es.length) (h8 : es.length ≤ 8) (h : ∀ e ∈ es, edOk n e) : Good n ⟨k, 0, false, (0, 0), es⟩ :=
  good_of (by rcases hk with rfl | rfl <;> simp [headB, kindB, withinB, leastN, mostN, mostP, payB] <;> omega) (fun e he => (h e (by simpa [edgesL] using he)).2.2) (fun e he => ⟨(h e (by simpa [edgesL] using he)).1, (h e (by simpa [edgesL] using he)).2.1⟩) h8

theorem EOwn.base_ {base base' : Nat} {W : World} {v : Value} {es : List Ed} (h : EOwn base W v es) (hb : base' ≤ base) : EOwn base' W v es :=
  ⟨h.1, h.2.imp id (fun ⟨g, cap, cur, h1, h2, h3⟩ => ⟨g, cap, cur, h1, Nat.le_trans hb h2, h3⟩)⟩
theorem edAll_one (es : List Ed) : ∀ u ∈ edAll es, u.oneCell' = true := by
  intro u hu
  simp only [edAll, List.mem_flatMap] at hu
  obtain ⟨e, _, hu⟩ := hu
  simp only [List.mem_cons, List.not_mem_nil, or_false] at hu
  rcases hu with rfl | rfl <;> rfl
/-- One edge more, appended, in a region that draws. -/
theorem step_append_edge {ops : Array Oper} {o : Oper} {a : Act} {W : World} {K : Act → World → Prop} {Q : Exit → Act → World → Prop} {E : Prop} (hgd : o.guard = none) (s x : Operand)
    (ho : o.op = .call { callee := .builtin .append, args := #[s, x], argTypes := #[44, 44] })
    {base : Nat} {v : Value} {es : List Ed} {e : Ed} {g : Nat} (hs : a.eval s = v) (hx : a.eval x = .slice (some ⟨g, 0, none⟩) 1 1)
    (hot : EOwn base W v es) (hb : Blk W g 43 (edCells e)) (hn : es.length ≤ 1000) (hbase : base ≤ W.heap.size)
    (h : ∀ v' W', EOwn base W' v' (es ++ [e]) → W.grownBy W' v.ownBlock → K (a.put o.dst v') W') : if Region.wanted o (yielded ops a.tmps) = true then Oper.wp Try.prog o a W K Q else E := by
  have hw : Region.wanted o (yielded ops a.tmps) = true := by simp [Region.wanted, hgd]
  rw [if_pos hw]
  obtain ⟨i0, hi, hz0, hz1, hz2⟩ := info_parts edge_info
  refine wp_append_own W s x 44 ho base 43 i0 _ 2 16 Try.underlying44 hi hz0 hz1 hz2 rfl (by decide) v es.length (edAll es) hs hot
    ⟨g, 0, none⟩ 1 1 (edCells e).toList hx rfl (fun j u hu => ?_) (fun u hu => ?_) (by unfold maxLen; omega) (by omega) hbase (fun v' W' hr hg _ => h v' W' ?_ hg)
  · rw [addr_plain, Nat.zero_add, hb.cell j, ← hu]; simp
  · exact edAll_one [e] u (by simpa [edAll] using hu)
  · show World.ownsRow _ _ _ _ _ _ _
    rw [List.length_append, edAll_snoc]; exact hr
theorem EOwn.ne_node {base base' : Nat} {W : World} {v u : Value} {es : List Ed} {n : Nat} {xs : List Value} (h : EOwn base W v es) (hr : W.ownsRow base' 46 6 u n xs) : ∀ g, u.ownBlock = some g → v.ownBlock ≠ some g := fun g hg e => by
  obtain ⟨_, cs, hb⟩ := own_row hr g hg
  obtain ⟨_, cs', hb'⟩ := own_row h g e
  exact Blk.ne_ hb hb' (by decide) rfl
/-- One node more, appended: its edges in a row of their own. -/
theorem wpList_append_nodeM {ops : Array Oper} {rest : List Oper} {o : Oper} {a : Act} {W : World} {Q : Exit → Act → World → Prop} (hgd : o.guard = none) (s x : Operand)
    (ho : o.op = .call { callee := .builtin .append, args := #[s, x], argTypes := #[22, 22] })
    {base : Nat} {v : Value} {ns : List (Nd × Value)} {nd : Nd} {e : Value} {g : Nat} (hs : a.eval s = v) (hx : a.eval x = .slice (some ⟨g, 0, none⟩) 1 1)
    (hot : OM base W v ns) (hb : Blk W g 46 (ndCells nd e)) (hE : EOwn base W e nd.next) (hl : nd.next.length ≤ 1000) (hap : ∀ p ∈ ns, ∀ g, p.2.ownBlock = some g → e.ownBlock ≠ some g) (hn : ns.length ≤ 1000) (hbase : base ≤ W.heap.size)
    (h : ∀ v' W', OM base W' v' (ns ++ [(nd, e)]) → W.grownBy W' v.ownBlock → wpList Try.prog ops Q rest (a.put o.dst v') W') : wpList Try.prog ops Q (o :: rest) a W := by
  refine wpList_append_node hgd s x ho hs hx hot.ot hb (hE.edges hl) hn hbase (fun v' W' ho hg => h v' W' ⟨ho.row, ?_, ?_⟩ hg)
  · intro p hp
    rcases List.mem_append.1 hp with hp | hp
    · exact ⟨(hot.eds p hp).1.kept hg (fun g e e' => (hot.eds p hp).1.ne_node hot.row g e' e), (hot.eds p hp).2⟩
    · obtain rfl := List.mem_singleton.1 hp
      exact ⟨hE.kept hg (fun g e e' => hE.ne_node hot.row g e' e), hl⟩
  · rw [List.pairwise_append]
    exact ⟨hot.apart, List.pairwise_singleton _ _, fun p hp q hq => by obtain rfl := List.mem_singleton.1 hq; exact hap p hp⟩
end Go.Proofs.Ytepjkoegbehojaa

/- What holds of the ways of a table whose nodes have their shapes. No program. -/
namespace Go.Proofs.Ytepjkoegbehojaa
open Go.RowKit

theorem good_one {n : Nat} {x : Nd} (h : Good n x) (hk : x.kind = 5) : ∃ e, x.next = [e] ∧ onlyNext x = some e ∧ edOk n e := by
  have h1 := h.1
  have hs : shapeB x = true := by
    cases hb : shapeB x with
    | true => rfl
    | false => simp [illN, hb] at h1
  have hi : (edgesL x).all (inB n) = true := by
    cases hb : (edgesL x).all (inB n) with
    | true => rfl
    | false => simp [illN, hs, hb] at h1
  simp only [shapeB, headB, Bool.and_eq_true, withinB, decide_eq_true_eq, hk, leastN, mostN] at hs
  obtain ⟨⟨⟨⟨_, hl⟩, _⟩, hp⟩, hsh⟩ := hs
  have hl1 : x.next.length = 1 := by
    have a := hl.1
    have b := hl.2
    simp at a b
    omega
  have hc : x.chan = false := by
    cases hc : x.chan with
    | false => rfl
    | true => simp [payB, hc, paysB] at hp
  obtain ⟨e, he⟩ := List.length_eq_one_iff.1 hl1
  have hed : edgesL x = [e] := by simp [edgesL, hc, he]
  rw [hed] at hsh hi
  simp only [List.all_cons, List.all_nil, Bool.and_true] at hsh hi
  have h2 := nodeB_true.1 hi
  simp only [shiftB, withinB, Bool.and_eq_true, decide_eq_true_eq] at hsh
  exact ⟨e, he, by simp [onlyNext, hk, he], h2.1, h2.2, hsh.1, hsh.2⟩

theorem least_lost (xs : List Nd) : ∀ n : Nat, (∀ j, j < n → lostB xs j = false) ∨ ∃ k, k < n ∧ lostB xs k = true ∧ ∀ j, j < k → lostB xs j = false
  | 0 => .inl fun j hj => by omega
  | n + 1 => by
    rcases least_lost xs n with h | ⟨k, hk, h1, h2⟩
    · cases hl : lostB xs n with
      | true => exact .inr ⟨n, by omega, hl, h⟩
      | false =>
        refine .inl fun j hj => ?_
        by_cases e : j = n
        · subst e; exact hl
        · exact h j (by omega)
    · exact .inr ⟨k, by omega, h1, h2⟩

/-- Of nodes that have their shapes Check tells the first one that is lost, or none. -/
theorem check_good {xs : List Nd} (h : ∀ x ∈ xs, Good xs.length x) (h0 : 0 < xs.length) (h64 : xs.length ≤ 64) :
    ∃ b e : Int, checkL xs = (b, e) ∧ ((e = 0 ∧ b = -1) ∨ (e = 9 ∧ 0 ≤ b)) ∧ (∀ i : Nat, i < xs.length → lostB xs i = true → e = 9 ∧ b ≤ i) ∧ (∀ i : Nat, i < xs.length → lostB xs i = false → (i : Int) ≠ b) := by
  have hi : (firstIll xs.length xs 0).2 = 0 := by
    rw [firstIll_none (fun j x _ hx => (h x (List.mem_of_getElem? hx)).1)]
  rcases least_lost xs xs.length with hn | ⟨k, hk, h1, h2⟩
  · refine ⟨-1, 0, check_3 h0 h64 hi (by rw [firstLost_none hn]; decide), .inl ⟨rfl, rfl⟩, fun i hi hl => ?_, fun i _ _ => by omega⟩
    rw [hn i hi] at hl; cases hl
  · have hf := firstLost_here hk h2 h1
    refine ⟨(k : Int), 9, ?_, .inr ⟨rfl, by omega⟩, fun i hi hl => ⟨rfl, ?_⟩, fun i hi hl => ?_⟩
    · rw [check_4 h0 h64 hi (by rw [hf]; omega), hf]
    · rcases Nat.lt_or_ge i k with hik | hik
      · rw [h2 i hik] at hl; cases hl
      · omega
    · intro e
      obtain rfl : i = k := by omega
      rw [h1] at hl; cases hl

theorem pick_some {xs : List Nd} : ∀ {L : List Ed}, pickL xs L = (-1, 0) ∨ (pickL xs L ∈ L ∧ isAl xs (pickL xs L) = false)
  | [] => .inl rfl
  | t :: L => by
    cases ht : isAl xs t with
    | true =>
      simp only [pickL, ht, if_true]
      rcases pick_some (xs := xs) (L := L) with h | ⟨h, h2⟩
      · exact .inl h
      · exact .inr ⟨List.mem_cons_of_mem _ h, h2⟩
    | false =>
      have : pickL xs (t :: L) = t := by simp [pickL, ht]
      rw [this]
      exact .inr ⟨List.mem_cons_self, ht⟩
/-- What a type comes to: none, or a node that is no alias. -/
theorem resolve_at (xs : List Nd) (t : Ed) : resolveL xs t = (-1, 0) ∨ ∃ x, nodeAt xs (resolveL xs t).1 = some x ∧ x.kind ≠ 5 := by
  rcases pick_some (xs := xs) (L := wayL xs xs.length t) with h | ⟨h, h2⟩
  · exact .inl h
  · obtain ⟨x, hx⟩ := wayL_mem h
    refine .inr ⟨x, hx, ?_⟩
    rw [isAl_at hx] at h2
    simpa using h2
theorem resolve_fix {xs : List Nd} {a : Ed} {x : Nd} (hx : nodeAt xs a.1 = some x) (hk : x.kind ≠ 5) : resolveL xs a = a := by
  obtain ⟨h0, h1, _⟩ := nodeAt_some hx
  obtain ⟨f, hf⟩ : ∃ f, xs.length = f + 1 := ⟨xs.length - 1, by omega⟩
  unfold resolveL
  rw [hf]
  exact pick_here hx hk
theorem resolve_next {xs : List Nd} {t e : Ed} {x : Nd} (hx : nodeAt xs t.1 = some x) (ho : onlyNext x = some e) : resolveL xs (stepT t e) = resolveL xs t := by
  rw [← pick_more xs t, pick_next hx ho]
  rfl
theorem wrap_add (a b c : Int) : wrap64 (wrap64 (a + b) + c) = wrap64 (wrap64 (a + c) + b) := by
  unfold wrap64
  omega
theorem pick_shift {xs : List Nd} (o : Int) : ∀ {f : Nat} {t : Ed}, (pickL xs (wayL xs f t) = (-1, 0) ∧ pickL xs (wayL xs f (t.1, wrap64 (t.2 + o))) = (-1, 0)) ∨ (pickL xs (wayL xs f (t.1, wrap64 (t.2 + o))) = ((pickL xs (wayL xs f t)).1, wrap64 ((pickL xs (wayL xs f t)).2 + o)))
  | 0, t => .inl ⟨rfl, rfl⟩
  | f + 1, t => by
    rcases node_cases xs t.1 with h0 | ⟨x, h0, hk⟩ | ⟨x, h0, hk, ho⟩ | ⟨x, e, h0, hk, ho⟩
    · exact .inl ⟨pick_none h0, pick_none (t := (t.1, wrap64 (t.2 + o))) h0⟩
    · rw [pick_here h0 hk, pick_here (t := (t.1, wrap64 (t.2 + o))) h0 hk]
      exact .inr rfl
    · exact .inl ⟨pick_stop h0 hk ho, pick_stop (t := (t.1, wrap64 (t.2 + o))) h0 hk ho⟩
    · rw [pick_next h0 ho, pick_next (t := (t.1, wrap64 (t.2 + o))) h0 ho]
      have := pick_shift (xs := xs) o (f := f) (t := stepT t e)
      simp only [stepT] at this ⊢
      rw [wrap_add t.2 o e.2]
      exact this
/-- An offset more is an offset more of what a type comes to. -/
theorem resolve_shift {xs : List Nd} {t a : Ed} {x : Nd} (o : Int) (h : resolveL xs t = a) (hx : nodeAt xs a.1 = some x) : resolveL xs (t.1, wrap64 (t.2 + o)) = (a.1, wrap64 (a.2 + o)) := by
  rcases pick_shift (xs := xs) o (f := xs.length) (t := t) with ⟨h1, _⟩ | h1
  · have h2 : resolveL xs t = (-1, 0) := h1
    rw [h2] at h
    subst h
    have := (nodeAt_some hx).1
    simp at this
  · have h2 : resolveL xs t = pickL xs (wayL xs xs.length t) := rfl
    rw [← h2, h] at h1
    exact h1
end Go.Proofs.Ytepjkoegbehojaa

/- Texts joined for the claim's sake: SApp, SBsy. -/
import Derived.Test.YtmhbmeckdbdhpaaZSAddRow13
import Derived.Test.YtmhbmeckdbdhpaaZSAddRow8
import Derived.Maps.AppendAt
import Derived.Test.YtmhbmeckdbdhpaaZSAddRow12
import Derived.Test.YtmhbmeckdbdhpaaZSAddRow2
import Derived.Test.YtmhbmeckdbdhpaaZSAddRow11
namespace Go.Proofs.Ytmhbmeckdbdhpaa
open Go.RowKit

theorem wpList_append_flat {ops : Array Oper} {rest : List Oper} {o : Oper} {a : Act} {W : World} {Q : Exit → Act → World → Prop} (hgd : o.guard = none) (s x : Operand) (ts t : TypeId)
    (ho : o.op = .call { callee := .builtin .append, args := #[s, x], argTypes := #[ts, ts] }) (hu : Try.prog.underlying ts = some (.slice t)) {z : Value} {bytes sz : Nat} (hinfo : (Try.prog.info? t).map (fun i => (i.zero, i.size, i.bytes)) = some (some z, sz, bytes))
    (hzs : z.cells.size = sz) (h0 : 0 < sz) (hby : bytes ≤ 1000) {g base n : Nat} {v : Value} {xs : List Value} {cs : Array Value} (hs : a.eval s = v) (hx : a.eval x = .slice (some ⟨g, 0, none⟩) 1 1)
    (hot : W.ownsRow base t sz v n xs) (hb : Blk W g t cs) (hcs : cs.size = sz) (h1 : ∀ u ∈ cs.toList, u.oneCell' = true) (hn : n ≤ 1000) (hbase : base ≤ W.heap.size)
    (h : ∀ v' W', W'.ownsRow base t sz v' (n + 1) (xs ++ cs.toList) → W.grownBy W' v.ownBlock → (v'.ownBlock = v.ownBlock ∨ v'.ownBlock = some W.heap.size) → wpList Try.prog ops Q rest (a.put o.dst v') W') : wpList Try.prog ops Q (o :: rest) a W := by
  obtain ⟨i0, hi, hz0, hz1, hz2⟩ := info_parts hinfo
  refine wpList_plain hgd fun K hK => ?_
  have hbb : (n + 1) * bytes ≤ 140737488355328 := by
    have := Nat.mul_le_mul (show n + 1 ≤ 1001 by omega) hby
    omega
  obtain ⟨v', W', hr, h2, h3, _, h5⟩ := run_append_own_at (P := Try.prog) W base ts o.type t i0 z sz bytes hu hi hz0 hz1 hz2 hzs h0 v n xs hot ⟨g, 0, none⟩ 1 1 cs.toList (by simp [hcs]) (fun j u hu => by
    have : (⟨g, 0, none⟩ : Addr).add j = ⟨g, 0 + j, none⟩ := by unfold Addr.add; split <;> simp_all
    rw [this, Nat.zero_add, hb.cell j, ← hu]; simp) h1 (by unfold maxLen; omega) hbb hbase
  unfold Oper.wp execOp
  simp only [ho, resolve, invoke, builtin, Sem.run_bind, Sem.run_pure, Result.andThen_ok, List.map_toArray, List.map_cons, List.map_nil, hs, hx, hr]
  exact hK _ _ (h v' W' h2 h3 h5)
theorem own_lt {W : World} {base n sz : Nat} {t : TypeId} {v : Value} {xs : List Value} (h : W.ownsRow base t sz v n xs) : ∀ g, v.ownBlock = some g → base ≤ g ∧ g < W.heap.size := fun g hg => World.ownsRow.lt h g hg
theorem own_slice {W : World} {base n sz : Nat} {t : TypeId} {v : Value} {xs : List Value} (h : W.ownsRow base t sz v n xs) : ∃ A c, v = .slice A n c := by
  rcases h.2 with ⟨rfl, rfl⟩ | ⟨g, cap, cur, rfl, _⟩
  · exact ⟨_, _, rfl⟩
  · exact ⟨_, _, rfl⟩
theorem own_sliceN {W : World} {base n sz : Nat} {t : TypeId} {v : Value} {xs : List Value} (h : W.ownsRow base t sz v n xs) : ∃ A m c, v = .slice A m c := by
  obtain ⟨A, c, e⟩ := own_slice h
  exact ⟨A, n, c, e⟩
theorem own_keep0 {W W' : World} {base n sz : Nat} {t : TypeId} {v : Value} {xs : List Value} (h : W.ownsRow base t sz v n xs) (hg : W.grownBy W' none) : W'.ownsRow base t sz v n xs := h.kept hg (by
  cases e : v.ownBlock with
  | none => exact .inl rfl
  | some g => exact .inr (fun e => by cases e))
theorem grown_row {w W W' : World} {v : Value} (h : w.grownBy W none) (hr : ∀ g, v.ownBlock = some g → w.heap.size ≤ g) (hg : W.grownBy W' v.ownBlock) : w.grownBy W' none := by
  cases hb : v.ownBlock with
  | none => rw [hb] at hg; exact only_trans h hg
  | some g => rw [hb] at hg; exact only_new h hg (hr g hb)
/-- A row of slots that a call makes. -/
abbrev SO (base : Nat) (W : World) (v : Value) (l : List Slt) : Prop := W.ownsRow base 42 3 v l.length (rgL l)
theorem SO.nil_ (base : Nat) (W : World) : SO base W (.slice none 0 0) [] := ⟨rfl, .inl ⟨rfl, rfl⟩⟩
theorem SO.slots {base : Nat} {W : World} {v : Value} {l : List Slt} (h : SO base W v l) (hl : l.length ≤ 1000) : SlotsV (fun k => base ≤ k) W v l := by
  rcases h.2 with ⟨rfl, hn⟩ | ⟨g, cap, cur, rfl, hb, hh, _⟩
  · obtain rfl : l = [] := List.length_eq_zero_iff.1 hn
    exact SlotsV.nil_ _ _
  · refine ⟨some ⟨g, 0, none⟩, cap, rfl, by omega, fun _ => ⟨g, 0, rfl, hb, fun j u hu => ?_⟩⟩
    have := World.ownsRow.cells h (g := g) rfl j u hu
    have e : (⟨g, 0, none⟩ : Addr).add j = ⟨g, 0 + j, none⟩ := by unfold Addr.add; split <;> simp_all
    rw [e] at this
    exact this
theorem slot_info : (Try.prog.info? 42).map (fun i => (i.zero, i.size, i.bytes)) = some (some (.agg #[.int .i64 0, .int .i64 0, .int .i64 0]), 3, 24) := by kernel_rfl
theorem slots_info0 : (Try.prog.info? 74).map (fun i => (i.zero, i.size, i.bytes)) = some (some (.slice none 0 0), 1, 24) := by kernel_rfl
/-- One slot more. -/
theorem wpList_append_slot {ops : Array Oper} {rest : List Oper} {o : Oper} {a : Act} {W : World} {Q : Exit → Act → World → Prop} (hgd : o.guard = none) (s x : Operand)
    (ho : o.op = .call { callee := .builtin .append, args := #[s, x], argTypes := #[74, 74] }) {g base : Nat} {v : Value} {l : List Slt} {y : Slt} (hs : a.eval s = v) (hx : a.eval x = .slice (some ⟨g, 0, none⟩) 1 1)
    (hot : SO base W v l) (hb : Blk W g 42 (slC y)) (hn : l.length ≤ 1000) (hbase : base ≤ W.heap.size)
    (h : ∀ v' W', SO base W' v' (l ++ [y]) → W.grownBy W' v.ownBlock → wpList Try.prog ops Q rest (a.put o.dst v') W') : wpList Try.prog ops Q (o :: rest) a W :=
  wpList_append_flat hgd s x 74 42 ho Try.underlying74 slot_info rfl (by omega) (by omega) hs hx hot hb rfl (fun u hu => by
    simp only [List.mem_cons, List.not_mem_nil, or_false] at hu
    rcases hu with rfl | rfl | rfl <;> rfl) hn hbase (fun v' W' h1 h2 _ => h v' W' (by
      show World.ownsRow _ _ _ _ _ _ _
      have e : rgL (l ++ [y]) = rgL l ++ (slC y).toList := by unfold rgL; simp
      rw [e, List.length_append]
      exact h1) h2)
/-- A row of lists of slots that a call makes. -/
structure PO (base : Nat) (W : World) (v : Value) (vs : List Value) (ps : List (List Slt)) : Prop where
  row : W.ownsRow base 74 1 v ps.length vs
  el : ∀ (i : Nat) (u : Value) (l : List Slt), vs[i]? = some u → ps[i]? = some l → SlotsV (fun k => base ≤ k ∧ some k ≠ v.ownBlock) W u l
theorem PO.nil_ (base : Nat) (W : World) : PO base W (.slice none 0 0) [] [] := ⟨⟨rfl, .inl ⟨rfl, rfl⟩⟩, fun i u l h => by simp at h⟩
theorem PO.kept {base : Nat} {W W' : World} {v : Value} {vs : List Value} {ps : List (List Slt)} (h : PO base W v vs ps) (hg : W.grownBy W' none) : PO base W' v vs ps :=
  ⟨own_keep0 h.row hg, fun i u l h1 h2 => (h.el i u l h1 h2).keep (.grown hg)⟩
theorem PO.len {base : Nat} {W : World} {v : Value} {vs : List Value} {ps : List (List Slt)} (h : PO base W v vs ps) : vs.length = ps.length := by
  have := h.row.1
  rw [this, Nat.mul_one]
theorem PO.below {base : Nat} {W W' : World} {v : Value} {vs : List Value} {ps : List (List Slt)} (h : PO base W v vs ps) {b : Nat} (hb : b < base) (hg : W.grownBy W' (some b)) : PO base W' v vs ps := by
  refine ⟨h.row.kept hg ?_, fun i u l h1 h2 => (h.el i u l h1 h2).row hg (fun g e hS => by injection e with e; omega)⟩
  cases e : v.ownBlock with
  | none => exact .inl rfl
  | some g =>
    refine .inr (fun e' => ?_)
    injection e' with e'
    have := own_lt h.row g e
    omega
/-- Tables of classes stay where a block is turned that holds no number. -/
theorem cell_rowS {W W' : World} {b : Nat} (hg : W.grownBy W' (some b)) {a : Addr} {v : Value} (ha : a.block ≠ b) (hc : W.cell? a = some v) : W'.cell? a = some v := by
  rw [World.cell?_of_block (hg.block a.block (cell_lt hc) (fun e => ha (by injection e)))]
  exact hc
def NoInt (W : World) (b : Nat) : Prop := ∀ (k : Nat) (z : Int), W.cell? ⟨b, k, none⟩ ≠ some (.int .i64 z)
theorem Ints.far {W W' : World} {b : Nat} (hn : NoInt W b) (hg : W.grownBy W' (some b)) {v : Value} {zs : List Int} (h : Ints W v zs) : Ints W' v zs := by
  obtain ⟨A, c, h1, hl, h2⟩ := h
  refine ⟨A, c, h1, hl, fun hne => ?_⟩
  obtain ⟨b0, off, h3, h4⟩ := h2 hne
  exact ⟨b0, off, h3, fun i z hz => cell_rowS hg (fun e => hn _ z (by rw [← e]; exact h4 i z hz)) (h4 i z hz)⟩
theorem Edges.far {W W' : World} {b : Nat} (hn : NoInt W b) (hg : W.grownBy W' (some b)) {v : Value} {es : List Ed} (h : Edges W v es) : Edges W' v es := by
  obtain ⟨A, c, h1, hl, h2⟩ := h
  refine ⟨A, c, h1, hl, fun hne => ?_⟩
  obtain ⟨b0, off, h3, h4⟩ := h2 hne
  exact ⟨b0, off, h3, fun i z hz => ⟨cell_rowS hg (fun e => hn _ _ (by rw [← e]; exact (h4 i z hz).1)) (h4 i z hz).1, cell_rowS hg (fun e => hn _ _ (by rw [← e]; exact (h4 i z hz).2)) (h4 i z hz).2⟩⟩
theorem NdAt.far {W W' : World} {b : Nat} (hn : NoInt W b) (hg : W.grownBy W' (some b)) {b0 off : Nat} {x : Nd} (h : NdAt W b0 off x) : NdAt W' b0 off x := by
  obtain ⟨v, h0, h1, h2, h3, h4, h5, h6⟩ := h
  have hne : b0 ≠ b := fun e => hn _ _ (by rw [← e]; exact h1)
  exact ⟨v, h0.far hn hg, cell_rowS hg hne h1, cell_rowS hg hne h2, cell_rowS hg hne h3, cell_rowS hg hne h4, cell_rowS hg hne h5, cell_rowS hg hne h6⟩
theorem TabV.far {W W' : World} {b : Nat} (hn : NoInt W b) (hg : W.grownBy W' (some b)) {v : Value} {T : ClsT} (h : TabV W v T) : TabV W' v T := by
  obtain ⟨vc, vo, vp, h1, ⟨A, c, h2, h3⟩, h4, h5⟩ := h
  refine ⟨vc, vo, vp, h1, ⟨A, c, h2, fun hne => ?_⟩, h4.far hn hg, h5.far hn hg⟩
  obtain ⟨b0, off, h6, h7⟩ := h3 hne
  exact ⟨b0, off, h6, fun i x hx => (h7 i x hx).far hn hg⟩
theorem noInt_slices {W : World} {b : Nat} {t : TypeId} {cs : Array Value} (hb : Blk W b t cs) (hc : ∀ u ∈ cs.toList, ∀ z : Int, u ≠ .int .i64 z) : NoInt W b := fun k z h => by
  rw [hb.cell k] at h
  exact hc _ (Array.mem_toList_iff.2 (Array.mem_of_getElem? h)) z rfl
theorem PO.pars {base : Nat} {W : World} {v : Value} {vs : List Value} {ps : List (List Slt)} (h : PO base W v vs ps) (hl : ps.length ≤ 1000) : ParsV W v ps := by
  have hlen := h.len
  rcases h.row.2 with ⟨rfl, hn⟩ | ⟨g, cap, cur, rfl, hb, hh, _⟩
  · obtain rfl : ps = [] := List.length_eq_zero_iff.1 hn
    exact ParsV.nil_ _
  · refine ⟨some ⟨g, 0, none⟩, cap, rfl, by omega, fun _ => ⟨g, 0, rfl, fun i l hi => ?_⟩⟩
    have hil := (List.getElem?_eq_some_iff.1 hi).1
    obtain ⟨u, hu⟩ : ∃ u, vs[i]? = some u := ⟨_, List.getElem?_eq_getElem (by omega)⟩
    refine ⟨u, ?_, (h.el i u l hu hi).weak fun _ _ _ => trivial⟩
    have := World.ownsRow.cells h.row (g := g) rfl i u hu
    have e : (⟨g, 0, none⟩ : Addr).add i = ⟨g, 0 + i, none⟩ := by unfold Addr.add; split <;> simp_all
    rw [e] at this
    exact this
/-- One list more. -/
theorem wpList_append_par {ops : Array Oper} {rest : List Oper} {o : Oper} {a : Act} {W : World} {Q : Exit → Act → World → Prop} (hgd : o.guard = none) (s x : Operand)
    (ho : o.op = .call { callee := .builtin .append, args := #[s, x], argTypes := #[33, 33] }) {g base : Nat} {v u : Value} {vs : List Value} {ps : List (List Slt)} {l : List Slt} (hs : a.eval s = v) (hx : a.eval x = .slice (some ⟨g, 0, none⟩) 1 1)
    (hot : PO base W v vs ps) (hb : Blk W g 74 #[u]) (hu : SlotsV (fun k => base ≤ k ∧ some k ≠ v.ownBlock) W u l) (hn : ps.length ≤ 1000) (hbase : base ≤ W.heap.size)
    (h : ∀ v' W', PO base W' v' (vs ++ [u]) (ps ++ [l]) → W.grownBy W' v.ownBlock → wpList Try.prog ops Q rest (a.put o.dst v') W') : wpList Try.prog ops Q (o :: rest) a W := by
  have hlen := hot.len
  have hone : u.oneCell' = true := by
    obtain ⟨A, c, rfl, _⟩ := hu
    rfl
  refine wpList_append_flat hgd s x 33 74 ho Try.underlying33 slots_info0 rfl (by omega) (by omega) hs hx hot.row hb rfl (fun y hy => by obtain rfl := List.mem_singleton.1 hy; exact hone) hn hbase (fun v' W' h1 h2 h3 => h v' W' ⟨?_, fun i y m hy hm => ?_⟩ h2)
  · rw [List.length_append]; exact h1
  · have step : ∀ {y : Value} {m : List Slt}, SlotsV (fun k => base ≤ k ∧ some k ≠ v.ownBlock) W y m → SlotsV (fun k => base ≤ k ∧ some k ≠ v'.ownBlock) W' y m := fun {y m} hm => by
      have e1 := hm.weak (S' := fun k => (base ≤ k ∧ some k ≠ v'.ownBlock) ∧ some k ≠ v.ownBlock) (fun b hb hk => ⟨⟨hk.1, fun e => by
        rcases h3 with h3 | h3
        · exact hk.2 (e.trans h3)
        · rw [h3] at e; injection e with e; omega⟩, hk.2⟩)
      exact (e1.row h2 (fun g e hk => hk.2 e.symm)).weak (fun _ _ hk => hk.1)
    rcases Nat.lt_or_ge i vs.length with hi | hi
    · rw [List.getElem?_append_left hi] at hy
      rw [List.getElem?_append_left (by omega)] at hm
      exact step (hot.el i y m hy hm)
    · have hi2 : i = vs.length := by
        have := (List.getElem?_eq_some_iff.1 hy).1
        rw [List.length_append, List.length_singleton] at this
        omega
      subst hi2
      rw [List.getElem?_append_right (Nat.le_refl _), Nat.sub_self] at hy
      rw [hlen, List.getElem?_append_right (Nat.le_refl _), Nat.sub_self] at hm
      simp only [List.getElem?_cons_zero, Option.some.injEq] at hy hm
      subst hy hm
      exact step hu
end Go.Proofs.Ytmhbmeckdbdhpaa

namespace Go.Proofs.Ytmhbmeckdbdhpaa
open Go.RowKit Go.Shelf

set_option maxRecDepth 100000 in
set_option maxHeartbeats 1000000 in
theorem ssame_any {a b : StT} (ha : a.regs.length = 16) (hb : b.regs.length = 16) (w : World) : Calls Try.prog 18 #[stV a, stV b] w fun e w' => e = .returned (.bool (decide (a = b))) ∧ w.grownBy w' none := by
  have h1 : Hid (StB ((w.alloc (.cells (stC a) 45)).alloc (.cells (stC b) 45)) w.heap.size a) := Lib.hid ((Blk.new _ _ _).alloc _)
  have h2 : Hid (StB ((w.alloc (.cells (stC a) 45)).alloc (.cells (stC b) 45)) (w.heap.size + 1) b) := Lib.hid (blk_at (by simp) _ _)
  have hg : Hid (w.grownBy ((w.alloc (.cells (stC a) 45)).alloc (.cells (stC b) 45)) none) := Lib.hid (only_alloc (only_alloc (only_refl _ _) _) _)
  have HA := Lib.hid ha
  have HB := Lib.hid hb
  clear ha hb
  go_enter Try.func18, Try.ntmps18
  go_upto_region 1 with fail
  generalize (w.alloc (.cells (stC a) 45)).alloc (.cells (stC b) 45) = W at *
  refine wp_region_lit ?_
  refine wpList_load_st rfl (.tmp 2) rfl rfl HA.out h1.out ?_
  refine wpList_load_st rfl (.tmp 3) rfl rfl HB.out h2.out ?_
  refine wpList_eq_st rfl (.tmp 5) (.tmp 6) _ rfl rfl rfl HA.out HB.out ?_
  simp only [Act.put, List.setIfInBounds_toArray, List.set_cons_zero, List.set_cons_succ]
  go_wp2_with fail
  go_ret
  exact ⟨rfl, hg.out⟩

theorem busy_not {xs : List Nd} {x : Slt} (h : ¬ (x.kind = 2 ∧ 0 ≤ x.cls ∧ x.cls < (xs.length : Int))) : busyB xs x = false := by
  cases hb : busyB xs x with
  | false => rfl
  | true =>
    obtain ⟨h1, n, h2, _⟩ := busy_kind hb
    obtain ⟨h3, h4, _⟩ := nodeAt_some h2
    exact absurd ⟨h1, h3, h4⟩ h
theorem busy_at {xs : List Nd} {k : Nat} {p : Int} {y : Nd} (h : xs[k]? = some y) : busyB xs ⟨2, (k : Int), p⟩ = decide (y.kind ≠ 0) := by
  unfold busyB
  dsimp only
  rw [nodeAt_nat, h]
  simp
set_option maxRecDepth 100000 in
set_option maxHeartbeats 1000000 in
theorem sbusy_any (xs : List Nd) (vc vo vp vq : Value) (x : Slt) (w : World) (hT : Tbl w vc xs) (hl : xs.length ≤ 1000000) : Calls Try.prog 17 #[.agg #[vc, vo, vp, vq], slV x] w fun e w' => e = .returned (.bool (busyB xs x)) ∧ w.grownBy w' none := by
  have hg : Hid (w.grownBy ((w.alloc (.cells #[vc, vo, vp, vq] 35)).alloc (.cells (slC x) 42)) none) := Lib.hid (only_alloc (only_alloc (only_refl _ _) _) _)
  have HT := Lib.hid hT
  obtain ⟨A, c, rfl, _⟩ := hT
  obtain ⟨k, n, p⟩ := x
  have hlI : (xs.length : Int) ≤ 1000000 := by omega
  by_cases hk : k = 2
  · subst hk
    by_cases hn : 0 ≤ n ∧ n < (xs.length : Int)
    · obtain ⟨n, rfl⟩ : ∃ m : Nat, n = (m : Int) := ⟨n.toNat, by omega⟩
      obtain ⟨y, hy⟩ : ∃ y, xs[n]? = some y := ⟨_, List.getElem?_eq_getElem (by omega)⟩
      obtain ⟨b, off, A2, c2, rfl, _, m0, _⟩ := cls_at HT.out hy
      rw [busy_at hy]
      have hb := cell_lt m0
      obtain ⟨h0, h1⟩ := hn
      clear hy HT
      go_enter Try.func17, Try.ntmps17
      go_wp2_with fail
      go_ret
      exact ⟨rfl, hg.out⟩
    · rw [busy_not (fun h => hn h.2)]
      clear HT
      by_cases h0 : 0 ≤ n
      · have h1 : (xs.length : Int) ≤ n := by omega
        clear hn
        go_enter Try.func17, Try.ntmps17
        go_wp2_with fail
        go_ret
        exact ⟨rfl, hg.out⟩
      · have h0' : n < 0 := by omega
        clear hn h0
        go_enter Try.func17, Try.ntmps17
        go_wp2_with fail
        go_ret
        exact ⟨rfl, hg.out⟩
  · rw [busy_not (fun h => hk h.1)]
    clear HT
    go_enter Try.func17, Try.ntmps17
    go_wp2_with fail
    go_ret
    exact ⟨rfl, hg.out⟩
end Go.Proofs.Ytmhbmeckdbdhpaa

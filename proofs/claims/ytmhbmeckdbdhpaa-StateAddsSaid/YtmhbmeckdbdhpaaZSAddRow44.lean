/- Texts joined for the claim's sake: SShf, Reg. -/
import Derived.Test.YtmhbmeckdbdhpaaZSAddRow23
import Derived.Test.YtmhbmeckdbdhpaaZSAddRow42
import Derived.Test.YtmhbmeckdbdhpaaZSAddRow19
namespace Go.Proofs.Ytmhbmeckdbdhpaa
open Go.RowKit Go.Shelf
attribute [local go_sem] Oper.semAt_some

theorem busyI_mem {xs : List Nd} : ∀ {l : List Slt} {i : Nat} {p : Nat × Slt}, p ∈ busyI xs i l → i ≤ p.1 ∧ l[p.1 - i]? = some p.2 ∧ busyB xs p.2 = true
  | [], _, _, h => by cases h
  | x :: l, i, p, h => by
    have h' : p ∈ (if busyB xs x then [(i, x)] else []) ++ busyI xs (i + 1) l := h
    rcases List.mem_append.1 h' with h' | h'
    · split at h'
      · rename_i hb
        obtain rfl := List.mem_singleton.1 h'
        exact ⟨Nat.le_refl _, by simp, hb⟩
      · cases h'
    · obtain ⟨h1, h2, h3⟩ := busyI_mem h'
      refine ⟨by omega, ?_, h3⟩
      rw [show p.1 - i = (p.1 - (i + 1)) + 1 by omega, List.getElem?_cons_succ]
      exact h2
theorem busyI_has {xs : List Nd} : ∀ {l : List Slt} {i j : Nat} {x : Slt}, l[j]? = some x → busyB xs x = true → (i + j, x) ∈ busyI xs i l
  | [], _, _, _, h, _ => by simp at h
  | y :: l, i, 0, x, h, hb => by
    simp only [List.getElem?_cons_zero, Option.some.injEq] at h
    subst h
    show _ ∈ (if busyB xs y then [(i, y)] else []) ++ _
    rw [if_pos hb]
    exact List.mem_append_left _ (List.mem_singleton.2 rfl)
  | y :: l, i, j + 1, x, h, hb => by
    rw [List.getElem?_cons_succ] at h
    have := busyI_has (i := i + 1) h hb
    rw [show i + 1 + j = i + (j + 1) by omega] at this
    exact List.mem_append_right _ this
theorem busyI_sorted (xs : List Nd) : ∀ (l : List Slt) (i : Nat), (busyI xs i l).Pairwise (fun a b => a.1 < b.1)
  | [], _ => List.Pairwise.nil
  | x :: l, i => by
    show ((if busyB xs x then [(i, x)] else []) ++ busyI xs (i + 1) l).Pairwise _
    refine List.pairwise_append.2 ⟨by split <;> simp, busyI_sorted xs l (i + 1), fun a ha b hb => ?_⟩
    have h2 := (busyI_mem hb).1
    split at ha
    · obtain rfl := List.mem_singleton.1 ha
      show i < _
      omega
    · cases ha
/-- The registers, of which some were moved. -/
def curR (t : Int) (pre : List (Nat × Slt)) (l : List Slt) : List Slt := l.mapIdx fun j x => if pre.any (fun q => q.1 == j) then { x with prio := wrap64 (x.prio + t) } else x
theorem cur_len (t : Int) (pre : List (Nat × Slt)) (l : List Slt) : (curR t pre l).length = l.length := by unfold curR; rw [List.length_mapIdx]
theorem cur_nil (t : Int) (l : List Slt) : curR t [] l = l := by
  unfold curR
  refine List.ext_getElem? fun j => ?_
  rw [List.getElem?_mapIdx]
  simp
theorem cur_all (xs : List Nd) (t : Int) (l : List Slt) : curR t (busyI xs 0 l) l = l.map (movS xs t) := by
  unfold curR
  refine List.ext_getElem? fun j => ?_
  rw [List.getElem?_mapIdx, List.getElem?_map]
  cases hj : l[j]? with
  | none => rfl
  | some x =>
    simp only [Option.map_some, Option.some.injEq]
    unfold movS
    cases hb : busyB xs x with
    | true =>
      have := busyI_has (i := 0) hj hb
      rw [if_pos (List.any_eq_true.2 ⟨_, this, by simp⟩), if_pos rfl]
    | false =>
      rw [if_neg (fun h => ?_), if_neg (by simp)]
      obtain ⟨q, hq, he⟩ := List.any_eq_true.1 h
      obtain ⟨_, h2, h3⟩ := busyI_mem hq
      rw [eq_of_beq he, Nat.sub_zero, hj, Option.some.injEq] at h2
      rw [h2, h3] at hb
      cases hb
theorem cur_at {xs : List Nd} {t : Int} {pre : List (Nat × Slt)} {p : Nat × Slt} {l : List Slt} (h : pre ++ [p] <+: busyI xs 0 l) : l[p.1]? = some p.2 ∧ (curR t pre l)[p.1]? = some p.2 ∧ curR t (pre ++ [p]) l = (curR t pre l).set p.1 { p.2 with prio := wrap64 (p.2.prio + t) } := by
  obtain ⟨r, hr⟩ := h
  have hm : p ∈ busyI xs 0 l := by rw [← hr]; simp
  obtain ⟨_, h2, h3⟩ := busyI_mem hm
  rw [Nat.sub_zero] at h2
  have hs := busyI_sorted xs l 0
  rw [← hr, List.append_assoc] at hs
  have hlt : ∀ q ∈ pre, q.1 < p.1 := fun q hq => (List.pairwise_append.1 hs).2.2 q hq p (by simp)
  have hn : (pre.any fun q => q.1 == p.1) = false := by
    rw [List.any_eq_false]
    intro q hq he
    have := hlt q hq
    have := eq_of_beq he
    omega
  have h1 : (curR t pre l)[p.1]? = some p.2 := by
    unfold curR
    rw [List.getElem?_mapIdx, h2]
    simp [hn]
  refine ⟨h2, h1, ?_⟩
  refine List.ext_getElem? fun j => ?_
  rw [List.getElem?_set]
  split
  · rename_i e
    subst e
    rw [if_pos (by rw [cur_len]; exact (List.getElem?_eq_some_iff.1 h2).1)]
    unfold curR
    rw [List.getElem?_mapIdx, h2]
    simp
  · rename_i e
    unfold curR
    rw [List.getElem?_mapIdx, List.getElem?_mapIdx]
    have : (pre ++ [p]).any (fun q => q.1 == j) = pre.any (fun q => q.1 == j) := by
      rw [List.any_append]
      simp [e]
    rw [this]
theorem rgL_setPrio {p : Int} : ∀ {l : List Slt} {i : Nat} {x : Slt}, l[i]? = some x → (rgL l).set (i * 3 + 2) (.int .i64 p) = rgL (l.set i { x with prio := p })
  | [], _, _, h => by simp at h
  | y :: l, 0, x, h => by
    simp only [List.getElem?_cons_zero, Option.some.injEq] at h
    subst h
    rfl
  | y :: l, i + 1, x, h => by
    rw [List.getElem?_cons_succ] at h
    have := rgL_setPrio (p := p) h
    have e : rgL (y :: l) = slL y ++ rgL l := rfl
    have e2 : rgL (y :: l.set i { x with prio := p }) = slL y ++ rgL (l.set i { x with prio := p }) := rfl
    rw [List.set_cons_succ, e, e2, ← this, List.set_append_right _ _ (by show 3 ≤ _; omega)]
    show slL y ++ (rgL l).set ((i + 1) * 3 + 2 - 3) _ = _
    rw [show (i + 1) * 3 + 2 - 3 = i * 3 + 2 by omega]
theorem StB.setPrio {W : World} {g : Nat} {s : StT} (h : StB W g s) {i : Nat} {x : Slt} (hx : s.regs[i]? = some x) (p : Int) : StB (W.setCell ⟨g, 2 + i * 3 + 2, none⟩ (.int .i64 p)) g { s with regs := s.regs.set i { x with prio := p } } := by
  have := h.set_ (2 + i * 3 + 2) (.int .i64 p)
  have e : (stC s).setIfInBounds (2 + i * 3 + 2) (.int .i64 p) = stC { s with regs := s.regs.set i { x with prio := p } } := by
    unfold stC stL
    rw [List.setIfInBounds_toArray, show 2 + i * 3 + 2 = (i * 3 + 2) + 1 + 1 by omega, List.set_cons_succ, List.set_cons_succ, rgL_setPrio hx]
  rwa [e] at this
/-- What stands as a state's busy registers are moved. -/
structure ShI (w : World) (b1 b2 b3 : Nat) (a b : StT) (t : Int) (pre : List (Nat × Slt)) (W : World) : Prop where
  gr : w.grownBy W none
  h1 : StB W b1 { a with regs := curR t pre a.regs }
  h2 : StB W b2 b
  h3 : Blk W b3 3 #[.int .i64 t]
theorem ShI.kept {w W W' : World} {b1 b2 b3 : Nat} {a b : StT} {t : Int} {pre : List (Nat × Slt)} (h : ShI w b1 b2 b3 a b t pre W) (hg : W.grownBy W' none) : ShI w b1 b2 b3 a b t pre W' := ⟨only_trans h.gr hg, h.h1.kept hg, h.h2.kept hg, h.h3.kept hg⟩
theorem ShI.own {w : World} {b1 b2 b3 : Nat} {a b : StT} {t : Int} {B : Nat} (hB : w.heap.size ≤ B) : OwnFrom B (ShI w b1 b2 b3 a b t) := fun _ _ _ _ h hg hr => ⟨grown_ownFS h.gr hB hg hr, blk_ownFS h.h1 hg hr, blk_ownFS h.h2 hg hr, blk_ownFS h.h3 hg hr⟩
theorem ShI.set {w W : World} {b1 b2 b3 : Nat} {a b : StT} {t : Int} {xs : List Nd} {pre : List (Nat × Slt)} {p : Nat × Slt} (h : ShI w b1 b2 b3 a b t pre W) (hp : pre ++ [p] <+: busyI xs 0 a.regs) (h1 : w.heap.size ≤ b1) (n2 : b2 ≠ b1) (n3 : b3 ≠ b1) : ShI w b1 b2 b3 a b t (pre ++ [p]) (W.setCell ⟨b1, 2 + p.1 * 3 + 2, none⟩ (.int .i64 (wrap64 (p.2.prio + t)))) ∧
    KE (fun k => k = b1) W (W.setCell ⟨b1, 2 + p.1 * 3 + 2, none⟩ (.int .i64 (wrap64 (p.2.prio + t)))) ∧ ∀ B, KeepsFrom B W (W.setCell ⟨b1, 2 + p.1 * 3 + 2, none⟩ (.int .i64 (wrap64 (p.2.prio + t)))) := by
  obtain ⟨_, c2, c3⟩ := cur_at (t := t) hp
  refine ⟨⟨only_setNew h.gr h1 _, ?_, h.h2.far (p := ⟨b1, 2 + p.1 * 3 + 2, none⟩) n2 _, h.h3.far (p := ⟨b1, 2 + p.1 * 3 + 2, none⟩) n3 _⟩, KE.row (only_setCell (g := b1) (only_refl _ _) rfl _) (fun g e => by injection e with e; exact e.symm), fun B => (KeepsOthers.setCell _ _ _).from _⟩
  have := StB.setPrio h.h1 (i := p.1) (x := p.2) c2 (wrap64 (p.2.prio + t))
  rw [c3]
  exact this

set_option maxRecDepth 100000 in
set_option maxHeartbeats 4000000 in
theorem sshift_any (xs : List Nd) (vc vo vp vq : Value) (a b : StT) (w : World) (hT : Tbl w vc xs) (hl : xs.length ≤ 1000000) (ha : a.regs.length = 16) (hb : b.regs.length = 16) :
    Calls Try.prog 20 #[.agg #[vc, vo, vp, vq], stV a, stV b] w fun e w' => e = .returned (.tuple #[.int .i64 (shiftA xs a b).1, .bool (shiftA xs a b).2]) ∧ w.grownBy w' none := by
  have HT := Lib.hid hT
  have HL := Lib.hid hl
  have HSA := Lib.hid ha
  have HSB := Lib.hid hb
  have hB1 : Hid (StB (((w.alloc (.cells #[vc, vo, vp, vq] 35)).alloc (.cells (stC a) 45)).alloc (.cells (stC b) 45)) (w.heap.size + 1) a) := Lib.hid ((blk_at (by simp) _ _).alloc _)
  have hB2 : Hid (StB (((w.alloc (.cells #[vc, vo, vp, vq] 35)).alloc (.cells (stC a) 45)).alloc (.cells (stC b) 45)) (w.heap.size + 1 + 1) b) := Lib.hid (blk_at (by simp) _ _)
  refine (callsIn_wide (n := 3)).1 ?_
  refine callsIn_of_wp_marks Try.func20 rfl trivial ?_ rfl
  simp only [Try.ntmps20, List.size_toArray, List.length_cons, List.length_nil, Nat.reduceAdd, Nat.reduceSub, Array.replicate_succ, Array.replicate_zero, List.push_toArray, List.append_toArray, List.nil_append, List.cons_append]
  clear hT hl ha hb
  have a0 := StB.lv hB1.out
  have b0 := StB.lv hB2.out
  gi_upto_region 2 with fail
  obtain ⟨t, ht⟩ : ∃ t, wrap64 (b.lv - a.lv) = t := ⟨_, rfl⟩
  rw [ht]
  have HTT := Lib.hid ht
  obtain ⟨W0, hW0⟩ : ∃ W0, ((((w.alloc (.cells #[vc, vo, vp, vq] 35)).alloc (.cells (stC a) 45)).alloc (.cells (stC b) 45)).alloc (.cells #[.int .i64 t] 3)) = W0 := ⟨_, rfl⟩
  have hg0 : w.grownBy W0 none := by rw [← hW0]; exact only_alloc (only_alloc (only_alloc (only_alloc (only_refl _ _) _) _) _) _
  have hz : W0.heap.size = w.heap.size + 4 := by rw [← hW0]; simp
  have hbf : Blk W0 w.heap.size 35 #[vc, vo, vp, vq] := by rw [← hW0]; exact (((Blk.new _ _ _).alloc _).alloc _).alloc _
  have hb1 : StB W0 (w.heap.size + 1) a := by rw [← hW0]; exact Blk.alloc hB1.out _
  have hb2 : StB W0 (w.heap.size + 1 + 1) b := by rw [← hW0]; exact Blk.alloc hB2.out _
  have hb3 : Blk W0 (w.heap.size + 1 + 1 + 1) 3 #[.int .i64 t] := by rw [← hW0]; exact blk_at (by simp) _ _
  rw [hW0]
  clear hW0 ht a0 b0 hB1 hB2
  have f0 := hbf.cell 0
  have f1 := hbf.cell 1
  have f2 := hbf.cell 2
  have f3 := hbf.cell 3
  have HB := Lib.hid hb1
  have HI0 : Hid (ShI w (w.heap.size + 1) (w.heap.size + 1 + 1) (w.heap.size + 1 + 1 + 1) a b t [] W0) := Lib.hid ⟨hg0, by rw [cur_nil]; exact hb1, hb2, hb3⟩
  have HZ := Lib.hid hz
  clear hbf hb1 hb2 hb3 hg0 hz
  refine wpIn_region_lit ?_
  gi_wp2_with (first | (refine wpListIn_load_st rfl (.tmp 4) rfl rfl HSA.out HB.out ?_) | (refine ⟨trivial, ?_⟩; gi_at_call 29; go_must (refine (callsIn_wide.2 (sbusyF_any vc vo vp vq a _)).mono ?_; rintro e w5 ⟨rfl, rfl⟩)) | fail)
  obtain ⟨W1, hW1⟩ : ∃ W1, ((W0.alloc (.cells #[vc, vo, vp, vq] 35)).alloc (.cells (stC a) 45)) = W1 := ⟨_, rfl⟩
  have hg1 : W0.grownBy W1 none := by rw [← hW1]; exact only_alloc (only_alloc (only_refl _ _) _) _
  have hz1 : W1.heap.size = w.heap.size + 6 := by rw [← hW1]; simp [HZ.out]
  have hbf : Blk W1 (w.heap.size + 4) 35 #[vc, vo, vp, vq] := by rw [← hW1, ← HZ.out]; exact (Blk.new _ _ _).alloc _
  have hbs : StB W1 (w.heap.size + 4 + 1) a := by rw [← hW1, ← HZ.out]; exact blk_at (by simp) _ _
  have HI1 := Lib.hid (HI0.out.kept hg1)
  have HBT : Hid (BT (fun k => k = w.heap.size + 1) (w.heap.size + 4 + 1) (w.heap.size + 4) vc vo vp vq xs a w W1) := Lib.hid ⟨HT.out, .grown HI1.out.gr, hbs, hbf⟩
  rw [hW1]
  rw [HZ.out]
  clear hW1 hg1 hbf hbs f0 f1 f2 f3 HB HI0 HZ
  have HZ1 := Lib.hid hz1
  refine wpIn_rangeFunc_toldP rfl (by omega) (gf := 44) (lb := #[.pointer (some ⟨w.heap.size + 4 + 1, 0, none⟩), .pointer (some ⟨w.heap.size + 4, 0, none⟩)]) rfl trivial (enters_of Try.func44 (by kernel_rfl) rfl)
    (busy_told (fun k => k = w.heap.size + 1) (w.heap.size + 4 + 1) (w.heap.size + 4) vc vo vp vq xs a w (fun k hk => by omega) (by omega) (by omega) HSA.out HL.out) KE.trans (fun W l o o' _ ho hc => KE.putObj W l o o' ho hc) (fun _ => rfl) ?t0
    (ShI w (w.heap.size + 1) (w.heap.size + 1 + 1) (w.heap.size + 1 + 1 + 1) a b t) (fun _ _ _ => False) (ShI.own (by omega)) (fun _ _ _ _ _ h => h.elim) HI1.out
    (fun p => { tmps := #[.agg #[vc, vo, vp, vq], stV a, stV b, .pointer (some ⟨w.heap.size, 0, none⟩), .pointer (some ⟨w.heap.size + 1, 0, none⟩), .pointer (some ⟨w.heap.size + 1 + 1, 0, none⟩), .int .i64 0, .bool false, .pointer (some ⟨w.heap.size + 1 + 1 + 1, 0, none⟩), .int .i64 (p.1 : Int), .pointer (some ⟨w.heap.size + 1 + 1, 0, none⟩), .int .i64 b.lv, .pointer (some ⟨w.heap.size + 1, 0, none⟩), .int .i64 a.lv, .int .i64 t, .agg #[vc, vo, vp, vq], stV a, (.func (.func 44) #[] #[.pointer (some ⟨w.heap.size + 4 + 1, 0, none⟩), .pointer (some ⟨w.heap.size + 4, 0, none⟩)]), .int .i64 (p.1 : Int), slV p.2, undef, undef, undef, undef, undef, undef, undef, undef, undef, undef, undef, undef, undef, undef, undef, undef, undef, undef, undef, undef, undef, undef, undef], defers := [] }) ?assign ?body ?done ?stop
  case t0 =>
    intro W hW
    exact ⟨HT.out, HBT.out.kp.trans (Keeps.below hW), HBT.out.bs.below hW (by omega), HBT.out.bf.below hW (by omega)⟩
  case assign =>
    intro l e W K hK
    gi_wp2
    exact hK
  case stop =>
    rintro D c pre W hD hpre hne h hK
    exact h.elim
  case body =>
    rintro l pre ⟨i, x, y, c⟩ W hpre hsz h1
    try dsimp only
    obtain ⟨k1, k2, _⟩ := cur_at (t := t) hpre
    have hi : i < 16 := by
      have := (List.getElem?_eq_some_iff.1 k1).1
      have := HSA.out
      omega
    have c2 := (StB.reg h1.h1 k2).2.2
    have c3 : W.cell? ⟨w.heap.size + 1 + 1 + 1, 0, none⟩ = some (.int .i64 t) := h1.h3.cell 0
    have fr := h1.h1.frozen (2 + i * 3 + 2)
    have hi0 : (0 : Int) ≤ (i : Int) := by omega
    have hi1 : (i : Int) < 16 := by omega
    have hset := (h1.kept (only_drew (only_refl _ _))).set hpre (by omega) (by omega) (by omega)
    have hkd : Hid (W.grownBy W.drew none) := Lib.hid (only_drew (only_refl _ _))
    have H2 := Lib.hid hset
    have hl1 := cell_lt c2
    have hl3 := cell_lt c3
    clear h1 hset hpre k1 k2 hsz
    dsimp only at c2 fr hl1 H2
    gi_upto_region 4 with fail
    have HWD := Lib.hid (And.intro c2 c3)
    refine region_chainT (by kernel_rfl) (by kernel_rfl) (by kernel_rfl) [20, 21, 22, 23, 24, 25, 26, 27, 28, 29] (by kernel_rfl) (by kernel_rfl) (by decide)
      [(4, .pointer (some ⟨w.heap.size + 1, 0, none⟩)), (8, .pointer (some ⟨w.heap.size + 1 + 1 + 1, 0, none⟩)), (9, .int .i64 (i : Int)), (20, .int .i64 (i : Int)), (21, .pointer (some ⟨w.heap.size + 1, 2, none⟩)), (22, .pointer (some ⟨w.heap.size + 1, 2 + i * 3, none⟩)), (23, .pointer (some ⟨w.heap.size + 1, 2 + i * 3 + 2, none⟩)), (24, .int .i64 c), (25, .int .i64 t), (26, .int .i64 (wrap64 (c + t))), (27, .pointer (some ⟨w.heap.size + 1, 2, none⟩)), (28, .pointer (some ⟨w.heap.size + 1, 2 + i * 3, none⟩)), (29, .pointer (some ⟨w.heap.size + 1, 2 + i * 3 + 2, none⟩))]
      ?h0 [10] (by kernel_rfl) (by kernel_rfl) (by decide) (by kernel_rfl) (fun j _ W' => (j = 0 → W' = W.drew) ∧ (j = 1 → W' = W.drew.setCell ⟨w.heap.size + 1, 2 + i * 3 + 2, none⟩ (.int .i64 (wrap64 (c + t))))) ?hT ?reads ?steps ⟨fun _ => rfl, fun e => by cases e⟩ ?hQ
    case h0 =>
      intro p hp hn
      simp only [List.mem_cons, List.not_mem_nil, or_false] at hp
      rcases hp with rfl | rfl | rfl | rfl | rfl | rfl | rfl | rfl | rfl | rfl | rfl | rfl | rfl
      all_goals first | rfl | exact absurd (by dsimp only; decide) hn
    case hT => exact fun j f g W' hj _ => hj
    case reads =>
      intro i' o ho hn
      have h9 : i' = 0 ∨ i' = 1 ∨ i' = 2 ∨ i' = 3 ∨ i' = 4 ∨ i' = 5 ∨ i' = 6 ∨ i' = 7 ∨ i' = 8 ∨ i' = 9 := by
        have h1 := (Array.getElem?_eq_some_iff.1 ho).1
        simp only [List.size_toArray, List.length_cons, List.length_nil] at h1
        simp only [List.mem_cons, List.not_mem_nil, or_false] at hn
        omega
      rcases h9 with rfl | rfl | rfl | rfl | rfl | rfl | rfl | rfl | rfl | rfl
      all_goals cases ho
      · exact ⟨20, _, rfl, rfl, fun j f b W' _ hj henv => rs_move rfl (henv 9 _ (by simp [Op.operands]) rfl)⟩
      · exact ⟨21, _, rfl, rfl, fun j f b W' _ hj henv => rs_regs rfl (henv 4 _ (by simp [Op.operands]) rfl)⟩
      · exact ⟨22, _, rfl, rfl, fun j f b W' _ hj henv => rs_idx rfl (henv 21 _ (by simp [Op.operands]) rfl) (henv 20 _ (by simp [Op.operands]) rfl) hi⟩
      · exact ⟨23, _, rfl, rfl, fun j f b W' _ hj henv => rs_prio rfl (henv 22 _ (by simp [Op.operands]) rfl)⟩
      · exact ⟨24, _, rfl, rfl, fun j f b W' hl hj henv => rs_int rfl (henv 23 _ (by simp [Op.operands]) rfl) (by rw [hj.1 (by simpa using hl)]; exact HWD.out.1)⟩
      · exact ⟨25, _, rfl, rfl, fun j f b W' hl hj henv => rs_int rfl (henv 8 _ (by simp [Op.operands]) rfl) (by rw [hj.1 (by simpa using hl)]; exact HWD.out.2)⟩
      · exact ⟨26, _, rfl, rfl, fun j f b W' _ hj henv => rs_add rfl (henv 24 _ (by simp [Op.operands]) rfl) (henv 25 _ (by simp [Op.operands]) rfl)⟩
      · exact ⟨27, _, rfl, rfl, fun j f b W' _ hj henv => rs_regs rfl (henv 4 _ (by simp [Op.operands]) rfl)⟩
      · exact ⟨28, _, rfl, rfl, fun j f b W' _ hj henv => rs_idx rfl (henv 27 _ (by simp [Op.operands]) rfl) (henv 20 _ (by simp [Op.operands]) rfl) hi⟩
      · exact ⟨29, _, rfl, rfl, fun j f b W' _ hj henv => rs_prio rfl (henv 28 _ (by simp [Op.operands]) rfl)⟩
    case steps =>
      intro j i' o hj ho
      have h4 : j = 0 := by
        have := (List.getElem?_eq_some_iff.1 hj).1
        simpa using this
      subst h4
      cases hj
      cases ho
      refine ⟨fun t e => (by cases e), fun b W' hb hT1 henv => ?_⟩
      have hw := hT1.1 rfl
      subst hw
      exact ws_int (z0 := c) rfl (henv 29 _ (by simp [Op.operands]) rfl) (henv 26 _ (by simp [Op.operands]) rfl) HWD.out.1 fr ⟨undef, rfl, fun e => (by cases e), fun _ => rfl⟩
    case hQ =>
      intro vs W' hv hT4
      have hw := hT4.2 rfl
      subst hw
      clear hv hT4
      exact ⟨(only_keepsFrom hkd.out _).trans (H2.out.2.2 _), (KE.grown hkd.out).trans H2.out.2.1, H2.out.1⟩
  case done =>
    rintro D W hD h1 hK
    have hcr := cur_all xs t a.regs
    have hB1 := h1.h1
    rw [hcr] at hB1
    have HB1 := Lib.hid hB1
    have HB2 := Lib.hid h1.h2
    have d1 := StB.dp hB1
    have d2 := StB.dp h1.h2
    have c3 : W.cell? ⟨w.heap.size + 1 + 1 + 1, 0, none⟩ = some (.int .i64 t) := h1.h3.cell 0
    have hl1 := cell_lt d1
    have hl2 := cell_lt d2
    have hl3 := cell_lt c3
    have HG := Lib.hid h1.gr
    have HK := Lib.hid hK
    have HM : Hid ((a.regs.map (movS xs t)).length = 16) := Lib.hid (by rw [List.length_map]; exact HSA.out)
    have HS : Hid (shiftA xs a b = if a.dp = b.dp ∧ a.regs.map (movS xs t) = b.regs then (t, true) else (0, false)) := Lib.hid (by unfold shiftA; rw [HTT.out])
    clear h1 hK hcr hB1
    dsimp only at d1
    gi_upto_region 5 with fail
    refine wpIn_region_lit ?_
    by_cases hd : a.dp = b.dp
    · gi_wp2_with (first | (refine wpListIn_load_rgG rfl (.tmp 36) rfl rfl HM.out HB1.out ?_) | (refine wpListIn_load_rgG rfl (.tmp 38) rfl rfl HSB.out HB2.out ?_) | (refine wpListIn_ne_rgG rfl (.tmp 37) (.tmp 39) _ rfl rfl rfl HM.out HSB.out ?_) | fail)
      · rename_i hq
        have HS2 : Hid (shiftA xs a b = (0, false)) := Lib.hid (by
          rw [Bool.not_eq_true', decide_eq_false_iff_not] at hq
          rw [HS.out, if_neg (fun h => hq h.2)])
        refine marks_ret (B := w.heap.size + 6) [D] _ (by simp) (fun D' hm => by obtain rfl := List.mem_singleton.1 hm; exact ⟨by have := HZ1.out; omega, by simpa using HK.out⟩) fun W' hW' => ⟨.tuple #[.int .i64 0, .bool false], by simp [results, Try.results20, go_sem], by rw [HS2.out], hW'.grown HG.out (by omega)⟩
      · rename_i hq
        have HS2 : Hid (shiftA xs a b = (t, true)) := Lib.hid (by
          rw [Bool.not_eq_false', decide_eq_true_eq] at hq
          rw [HS.out, if_pos ⟨hd, hq⟩])
        refine marks_ret (B := w.heap.size + 6) [D] _ (by simp) (fun D' hm => by obtain rfl := List.mem_singleton.1 hm; exact ⟨by have := HZ1.out; omega, by simpa using HK.out⟩) fun W' hW' => ⟨.tuple #[.int .i64 t, .bool true], by simp [results, Try.results20, go_sem], by rw [HS2.out], hW'.grown HG.out (by omega)⟩
    · have HS2 : Hid (shiftA xs a b = (0, false)) := Lib.hid (by rw [HS.out, if_neg (fun h => hd h.1)])
      gi_wp2_with fail
      refine marks_ret (B := w.heap.size + 6) [D] _ (by simp) (fun D' hm => by obtain rfl := List.mem_singleton.1 hm; exact ⟨by have := HZ1.out; omega, by simpa using HK.out⟩) fun W' hW' => ⟨.tuple #[.int .i64 0, .bool false], by simp [results, Try.results20, go_sem], by rw [HS2.out], hW'.grown HG.out (by omega)⟩
end Go.Proofs.Ytmhbmeckdbdhpaa

namespace Go.Proofs.Ytmhbmeckdbdhpaa.Rg
open Go.RowKit

def AllOps (f : Nat → Oper → Prop) : List Oper → Nat → Prop
  | [], _ => True
  | o :: l, i => f i o ∧ AllOps f l (i + 1)
theorem AllOps.at_ {f : Nat → Oper → Prop} : ∀ {l : List Oper} {k : Nat}, AllOps f l k → ∀ (i : Nat) (o : Oper), l[i]? = some o → f (k + i) o
  | [], _, _, i, o, h => by simp at h
  | x :: l, k, ⟨h1, h2⟩, i, o, h => by
    cases i with
    | zero =>
      simp only [List.getElem?_cons_zero, Option.some.injEq] at h
      subst h
      exact h1
    | succ i =>
      rw [List.getElem?_cons_succ] at h
      have := AllOps.at_ h2 i o h
      rwa [show k + (i + 1) = k + 1 + i by omega]
theorem nodup_at {α β : Type} {f : α → Option β} : ∀ {l : List α} {i j : Nat} {x y : α} {t : β}, (l.filterMap f).Nodup → l[i]? = some x → l[j]? = some y → f x = some t → f y = some t → i = j
  | [], i, _, _, _, _, _, h, _, _, _ => by simp at h
  | z :: l, i, j, x, y, t, hn, hi, hj, hx, hy => by
    have mem : ∀ (k : Nat) (u : α), l[k]? = some u → f u = some t → t ∈ l.filterMap f := fun k u hk hu => List.mem_filterMap.2 ⟨u, List.mem_of_getElem? hk, hu⟩
    cases i with
    | zero =>
      simp only [List.getElem?_cons_zero, Option.some.injEq] at hi
      subst hi
      cases j with
      | zero => rfl
      | succ j =>
        rw [List.getElem?_cons_succ] at hj
        rw [List.filterMap_cons_some hx] at hn
        exact absurd (mem j y hj hy) (List.nodup_cons.1 hn).1
    | succ i =>
      rw [List.getElem?_cons_succ] at hi
      cases j with
      | zero =>
        simp only [List.getElem?_cons_zero, Option.some.injEq] at hj
        subst hj
        rw [List.filterMap_cons_some hy] at hn
        exact absurd (mem i x hi hx) (List.nodup_cons.1 hn).1
      | succ j =>
        rw [List.getElem?_cons_succ] at hj
        have hn' : (l.filterMap f).Nodup := by
          cases hz : f z with
          | none => rwa [List.filterMap_cons_none hz] at hn
          | some u => rw [List.filterMap_cons_some hz] at hn; exact (List.nodup_cons.1 hn).2
        rw [nodup_at hn' hi hj hx hy]
theorem lookup_mem {l : List (Nat × Value)} {t : Nat} {v : Value} (h : l.lookup t = some v) : (t, v) ∈ l := by
  induction l with
  | nil => cases h
  | cons q l ih =>
    obtain ⟨t', d'⟩ := q
    rw [List.lookup_cons] at h
    split at h
    · rename_i e
      simp only [Option.some.injEq] at h
      subst h
      rw [eq_of_beq e]
      exact List.mem_cons_self
    · exact List.mem_cons_of_mem _ (ih h)

def InitOk (a : Act) : List (Tmp × Value) → Prop
  | [] => True
  | p :: l => a.tmps.getD p.1 undef = p.2 ∧ InitOk a l
theorem InitOk.at_ {a : Act} : ∀ {l : List (Tmp × Value)}, InitOk a l → ∀ p ∈ l, a.tmps.getD p.1 undef = p.2
  | p :: l, h, q, hq => by
    rcases List.mem_cons.1 hq with rfl | hq
    · exact h.1
    · exact h.2.at_ q hq
abbrev VP := Value → World → Prop
def AllV (f : Tmp → VP → Prop) : List (Tmp × VP) → Prop
  | [] => True
  | p :: l => f p.1 p.2 ∧ AllV f l
theorem AllV.at_ {f : Tmp → VP → Prop} : ∀ {l : List (Tmp × VP)}, AllV f l → ∀ {t : Tmp} {p : VP}, l.lookup t = some p → f t p
  | q :: l, h, t, p, hp => by
    rw [List.lookup_cons] at hp
    split at hp
    · rename_i e
      injection hp with hp
      subst hp
      have := eq_of_beq e
      subst this
      exact h.1
    · exact h.2.at_ hp
def KeepsV (_ : Tmp) (p : VP) : Prop := ∀ v W W', p v W → W.grownBy W' none → p v W'
def inW (vals : List (Tmp × Value)) (xs : List Tmp) (t : Tmp) : Bool := (vals.lookup t).isSome || xs.contains t
def guardOkX (vals : List (Tmp × Value)) (xs : List Tmp) (ops : Array Oper) (o : Oper) : Bool := match o.guard with
  | none => match o.dst with
    | some t => inW vals xs t
    | none => false
  | some (j, want) => (o.after.toList.any fun e => Region.binds .any e && e.on == j) && (match (((ops[j]?).bind (·.dst)).bind fun t => vals.lookup t) with
    | some (.bool c) => (match o.dst with
      | some t => if c == want then inW vals xs t else !inW vals xs t
      | none => false)
    | _ => false)
def depsX (vals : List (Tmp × Value)) (xs : List Tmp) (ops : Array Oper) (o : Oper) : Bool := o.op.operands.toList.all fun
  | .tmp t => (!inW vals xs t) || (ops.toList.all fun oj => oj.dst != some t) || o.after.toList.any fun e => Region.binds .any e && ((ops[e.on]?).bind (·.dst) == some t)
  | _ => true
def regOkX (vals : List (Tmp × Value)) (xs : List Tmp) (ops : Array Oper) : Bool := ops.toList.zipIdx.all fun (o, i) => guardOkX vals xs ops o && (o.after.toList.all fun e => !Region.binds .any e || decide (e.on < i)) && depsX vals xs ops o
section
variable {vals : List (Tmp × Value)} {xs : List Tmp} {ops : Array Oper}
theorem regOkX_at (h : regOkX vals xs ops = true) {i : Nat} {o : Oper} (hi : ops[i]? = some o) : guardOkX vals xs ops o = true ∧ (∀ e ∈ o.after, Region.binds .any e = true → e.on < i) ∧ depsX vals xs ops o = true := by
  unfold regOkX at h
  rw [List.all_eq_true] at h
  have h1 := h (o, i) (List.mem_iff_getElem?.2 ⟨i, by rw [List.getElem?_zipIdx, Array.getElem?_toList, hi]; simp⟩)
  simp only [Bool.and_eq_true, List.all_eq_true, Bool.or_eq_true, Bool.not_eq_true', decide_eq_true_eq] at h1
  refine ⟨h1.1.1, fun e he hb => ?_, h1.2⟩
  rcases h1.1.2 e (Array.mem_toList_iff.2 he) with h2 | h2
  · rw [hb] at h2; cases h2
  · exact h2
theorem all_listedX (hok : regOkX vals xs ops = true) {listed : Array Bool} (hs : listed.size = ops.size) (hr : Region.ready .any ops listed = []) : ∀ i, i < ops.size → listed.getD i false = true := by
  intro i
  induction i using Nat.strongRecOn with
  | _ i ih =>
    intro hi
    cases hl : listed.getD i false with
    | true => rfl
    | false =>
      have ho : ops[i]? = some ops[i] := Array.getElem?_eq_getElem hi
      have hm : i ∈ Region.ready .any ops listed := mem_ready.2 ⟨by simpa [hs, hi] using hl, ops[i], ho, fun e he hb => by
        have := (regOkX_at hok ho).2.1 e he hb
        exact ih e.on this (by omega)⟩
      rw [hr] at hm
      cases hm
/-- An operation is wanted, and answers; or it is not wanted. -/
theorem guard_casesX {o : Oper} (h : guardOkX vals xs ops o = true) {listed : Array Bool} {tmps : Array Value} (hall : ∀ e ∈ o.after, Region.binds .any e = true → listed.getD e.on false = true)
    (hv : ∀ (i : Nat) (oi : Oper) (t : Tmp) (c : Value), listed.getD i false = true → ops[i]? = some oi → oi.dst = some t → vals.lookup t = some c → tmps.getD t undef = c) :
    ∃ t, o.dst = some t ∧ (Region.wanted o (yielded ops tmps) = true ∧ inW vals xs t = true ∨ Region.wanted o (yielded ops tmps) = false ∧ inW vals xs t = false) := by
  unfold guardOkX at h
  cases hg : o.guard with
  | none =>
    rw [hg] at h
    dsimp only at h
    cases ht : o.dst with
    | none => rw [ht] at h; cases h
    | some t =>
      rw [ht] at h
      exact ⟨t, rfl, .inl ⟨by simp [Region.wanted, hg], h⟩⟩
  | some p =>
    obtain ⟨j, want⟩ := p
    rw [hg] at h
    dsimp only at h
    rw [Bool.and_eq_true, List.any_eq_true] at h
    obtain ⟨⟨e, he, hb⟩, h2⟩ := h
    simp only [Bool.and_eq_true, beq_iff_eq] at hb
    have hl := hall e (Array.mem_toList_iff.1 he) hb.1
    rw [hb.2] at hl
    split at h2
    · rename_i c hc
      obtain ⟨tj, htj, hc⟩ := Option.bind_eq_some_iff.1 hc
      obtain ⟨oj, hoj, htj⟩ := Option.bind_eq_some_iff.1 htj
      cases ht : o.dst with
      | none => rw [ht] at h2; cases h2
      | some t =>
        rw [ht] at h2
        dsimp only at h2
        have hw := hv j oj tj (.bool c) hl hoj htj hc
        have hy : yielded ops tmps j = some c := by
          unfold yielded
          have hlt : tj < tmps.size := by
            rcases Nat.lt_or_ge tj tmps.size with h | h
            · exact h
            · have hn : ¬ tj < tmps.size := Nat.not_lt.2 h
              simp [Array.getD_eq_getD_getElem?, hn] at hw
              cases hw
          have hx : tmps[tj]? = some (.bool c) := by
            rw [Array.getD_eq_getD_getElem?, Array.getElem?_eq_getElem hlt] at hw
            rw [Array.getElem?_eq_getElem hlt]
            exact congrArg some hw
          simp [hoj, htj, hx]
        refine ⟨t, rfl, ?_⟩
        by_cases hcw : c = want
        · rw [if_pos (by simp [hcw])] at h2
          exact .inl ⟨by simp [Region.wanted, hg, hy, hcw], h2⟩
        · rw [if_neg (by simp [hcw])] at h2
          exact .inr ⟨by simp [Region.wanted, hg, hy, hcw], by simpa using h2⟩
    · cases h2
end
/-- What an operation owes that fills slot t. -/
def OpP (P : Program) (o : Oper) (vals : List (Tmp × Value)) (ex : List (Tmp × VP)) (w : World) (p : VP) : Prop :=
  ∀ (b : Act) (W : World), w.grownBy W none → (∀ t v, Operand.tmp t ∈ o.op.operands → vals.lookup t = some v → b.eval (.tmp t) = v) → (∀ t q, Operand.tmp t ∈ o.op.operands → ex.lookup t = some q → q (b.eval (.tmp t)) W) →
    (∃ x W', (execOp b.eval o).run P W = .ok (.value x) W' ∧ W.grownBy W' none ∧ p x W') ∨ ∃ f args, (execOp b.eval o).run P W = .ok (.enter f args) W ∧ Calls P f args W fun e w'' => ∃ x, e = .returned x ∧ W.grownBy w'' none ∧ p x w''
def SlotP (vals : List (Tmp × Value)) (ex : List (Tmp × VP)) (t : Tmp) : VP := fun x W => (∀ c, vals.lookup t = some c → x = c) ∧ (∀ p, ex.lookup t = some p → p x W)
def OpB (P : Program) (o : Oper) (vals : List (Tmp × Value)) (ex : List (Tmp × VP)) (w : World) : Prop := ∃ t, o.dst = some t ∧ (inW vals (ex.map (·.1)) t = true → OpP P o vals ex w (SlotP vals ex t))

theorem region_both {P : Program} {ops : Array Oper} {Q : Exit → Act → World → Prop} {id : Nat} {a : Act} {w : World} (hm : P.follows .mixedOrders = true) (made init : List (Tmp × Value)) (ex : List (Tmp × VP)) (hk : AllV KeepsV ex) (hok : regOkX (made ++ init) (ex.map (·.1)) ops = true) (ds : List Tmp) (hds : dstsOf ops = ds) (hlt : (ds.all fun t => decide (t < a.tmps.size)) = true) (hdn : ds.Nodup)
    (hmd : (made.all fun p => ds.contains p.1) = true) (hxd : ((ex.map (·.1)).all fun t => ds.contains t) = true) (h0 : InitOk a init)
    (hops : AllOps (fun _ o => OpB P o (made ++ init) ex w) ops.toList 0)
    (hQ : ∀ (vs : Tmp → Value) (W : World), w.grownBy W none → (∀ t v, (made ++ init).lookup t = some v → t ∈ ds → vs t = v) → (∀ t p, ex.lookup t = some p → p (vs t) W) →
      Q .normal { a with tmps := ds.foldl (fun (ts : Array Value) t => ts.setIfInBounds t (vs t)) a.tmps } W) :
    (Code.region id ops true).wp P Q a w := by
  have h0' : ∀ p ∈ made ++ init, p.1 ∉ ds → a.tmps.getD p.1 undef = p.2 := fun p hp hn => by
    rcases List.mem_append.1 hp with hp | hp
    · exact absurd (by simpa using List.all_eq_true.1 hmd p hp) hn
    · exact h0.at_ p hp
  have hxd' : ∀ t p, ex.lookup t = some p → t ∈ ds := fun t p h => by
    have : t ∈ ex.map (·.1) := by
      clear hok hops hQ hk hxd
      induction ex with
      | nil => cases h
      | cons q l ih =>
        rw [List.lookup_cons] at h
        split at h
        · rename_i e
          rw [eq_of_beq e]
          simp
        · simp only [List.map_cons, List.mem_cons]
          exact .inr (ih h)
    simpa using List.all_eq_true.1 hxd t this
  generalize hvs : made ++ init = vals at *
  clear h0 hmd hvs
  subst hds
  have hu : ∀ (i j : Nat) (oi oj : Oper) (t : Tmp), ops[i]? = some oi → ops[j]? = some oj → oi.dst = some t → oj.dst = some t → i = j := fun i j oi oj t hi hj ei ej =>
    nodup_at hdn (by rw [Array.getElem?_toList]; exact hi) (by rw [Array.getElem?_toList]; exact hj) ei ej
  have hdl : ∀ t ∈ dstsOf ops, t < a.tmps.size := fun t ht => by simpa using List.all_eq_true.1 hlt t ht
  have hxs : ∀ t p, ex.lookup t = some p → (ex.map (·.1)).contains t = true := fun t p h => by
    clear hok hops hQ hk hxd hxd'
    induction ex with
    | nil => cases h
    | cons q l ih =>
      rw [List.lookup_cons] at h
      split at h
      · rename_i e
        rw [eq_of_beq e]
        simp
      · have := ih h
        simp only [List.map_cons, List.contains_cons, Bool.or_eq_true]
        exact .inr this
  refine wp_region_any hm (wpAny_inv (fun listed b W => w.grownBy W none ∧ b.defers = a.defers ∧ b.tmps.size = a.tmps.size ∧ (∀ t, t ∉ dstsOf ops → b.tmps[t]? = a.tmps[t]?) ∧
    (∀ (i : Nat) (o : Oper) (t : Tmp), listed.getD i false = true → ops[i]? = some o → o.dst = some t → SlotP vals ex t (b.tmps.getD t undef) W)) ?_ ?_ ops.size _ _ _ (by simp) (by
      have := List.countP_le_length (p := (! ·)) (l := (Array.replicate ops.size false).toList)
      simpa using this) ?_)
  · rintro listed b W hs ⟨i1, i2, i3, i4, i5⟩ i hi
    obtain ⟨hni, o, ho, hall⟩ := mem_ready.1 hi
    have hil : i < ops.size := (Array.getElem?_eq_some_iff.1 ho).1
    obtain ⟨g1, g2, g3⟩ := regOkX_at hok ho
    have hdep : ∀ t, Operand.tmp t ∈ o.op.operands → inW vals (ex.map (·.1)) t = true → t ∉ dstsOf ops ∨ ∃ j oj, listed.getD j false = true ∧ ops[j]? = some oj ∧ oj.dst = some t := fun t ht hin => by
      unfold depsX at g3
      rw [List.all_eq_true] at g3
      have h1 := g3 (.tmp t) (Array.mem_toList_iff.2 ht)
      simp only [Bool.or_eq_true, List.all_eq_true, List.any_eq_true, Bool.and_eq_true, bne_iff_ne, ne_eq, beq_iff_eq, hin, Bool.not_true, Bool.false_eq_true, false_or] at h1
      rcases h1 with h1 | ⟨e, he, hb, hx⟩
      · exact .inl fun hm => by
          obtain ⟨i, oi, hi, e⟩ := mem_dsts.1 hm
          exact h1 oi (List.mem_iff_getElem?.2 ⟨i, by rw [Array.getElem?_toList]; exact hi⟩) e
      · obtain ⟨oj, hoj, e1⟩ := Option.bind_eq_some_iff.1 hx
        exact .inr ⟨e.on, oj, hall e (Array.mem_toList_iff.1 he) hb, hoj, e1⟩
    have henv : ∀ t v, Operand.tmp t ∈ o.op.operands → vals.lookup t = some v → b.eval (.tmp t) = v := fun t v ht hv => by
      rcases hdep t ht (by simp [inW, hv]) with h4 | ⟨j, oj, h1, h2, h3⟩
      · show b.tmps.getD t undef = v
        rw [Array.getD_eq_getD_getElem?, i4 t h4, ← Array.getD_eq_getD_getElem?]
        exact h0' (t, v) (lookup_mem hv) h4
      · exact (i5 j oj t h1 h2 h3).1 v hv
    have henx : ∀ t q, Operand.tmp t ∈ o.op.operands → ex.lookup t = some q → q (b.eval (.tmp t)) W := fun t q ht hq => by
      rcases hdep t ht (by unfold inW; rw [hxs t q hq]; simp) with h4 | ⟨j, oj, h1, h2, h3⟩
      · exact absurd (hxd' t q hq) h4
      · exact (i5 j oj t h1 h2 h3).2 q hq
    have hset : ∀ j, i ≠ j → (listed.setIfInBounds i true).getD j false = listed.getD j false := fun j hij => getD_set_ne false hij
    obtain ⟨t, htd, hcase⟩ := guard_casesX g1 hall (fun j oj t c h1 h2 h3 h4 => (i5 j oj t h1 h2 h3).1 c h4)
    have key : ∀ (x : Value) W', W.grownBy W' none → SlotP vals ex t x W' → w.grownBy W' none ∧ (b.put o.dst x).defers = a.defers ∧ (b.put o.dst x).tmps.size = a.tmps.size ∧ (∀ t, t ∉ dstsOf ops → (b.put o.dst x).tmps[t]? = a.tmps[t]?) ∧
        (∀ (j : Nat) (oj : Oper) (t' : Tmp), (listed.setIfInBounds i true).getD j false = true → ops[j]? = some oj → oj.dst = some t' → SlotP vals ex t' ((b.put o.dst x).tmps.getD t' undef) W') := fun x W' hg hx => by
      refine ⟨only_trans i1 hg, by rw [htd]; exact i2, by simp [Act.put, htd, i3], fun t' ht' => ?_, fun j oj t' hl hoj e1 => ?_⟩
      · have hne : t ≠ t' := fun e => ht' (mem_dsts.2 ⟨i, o, ho, by rw [htd, e]⟩)
        rw [htd]
        simp only [Act.put]
        rw [Array.getElem?_setIfInBounds_ne hne]
        exact i4 t' ht'
      · by_cases hij : i = j
        · subst hij
          rw [ho] at hoj
          obtain rfl := Option.some.inj hoj
          rw [htd] at e1
          obtain rfl := Option.some.inj e1
          have : t < b.tmps.size := by rw [i3]; exact hdl t (mem_dsts.2 ⟨i, o, ho, htd⟩)
          rw [htd, show (b.put (some t) x).tmps.getD t undef = x by simp [Act.put, this]]
          exact hx
        · have hne : t ≠ t' := fun e => hij (hu i j o oj t ho hoj htd (by rw [e]; exact e1))
          rw [hset j hij] at hl
          rw [htd]
          simp only [Act.put]
          rw [Array.getD_eq_getD_getElem?, Array.getElem?_setIfInBounds_ne hne, ← Array.getD_eq_getD_getElem?]
          obtain ⟨k1, k2⟩ := i5 j oj t' hl hoj e1
          exact ⟨k1, fun p hp => hk.at_ hp _ _ _ (k2 p hp) hg⟩
    unfold wpOp
    simp only [ho]
    rcases hcase with ⟨hw, hc⟩ | ⟨hw, hc⟩
    · rw [if_pos hw]
      refine .inl ?_
      obtain ⟨t2, ht2, hop⟩ := hops.at_ i o (by rw [Array.getElem?_toList]; exact ho)
      rw [htd] at ht2
      obtain rfl := Option.some.inj ht2
      unfold Oper.wp
      rcases hop hc b W i1 henv henx with ⟨x, W', h, hg, hx⟩ | ⟨f, args, h, hcall⟩
      · rw [h, Oper.upon_value]
        exact key x W' hg hx
      · rw [h, Oper.upon_enter]
        refine hcall.mono ?_
        rintro e w'' ⟨x, rfl, hg, hx⟩
        exact key x w'' hg hx
    · rw [if_neg (by rw [hw]; decide)]
      refine key undef W (only_refl _ _) ⟨fun c hc' => ?_, fun p hp => ?_⟩
      · unfold inW at hc; rw [hc'] at hc; simp at hc
      · unfold inW at hc; rw [hxs t p hp] at hc; simp at hc
  · rintro listed b W hs ⟨i1, i2, i3, i4, i5⟩ hr
    have hl := all_listedX hok hs hr
    have hlo : ∀ {i o}, ops[i]? = some o → listed.getD i false = true := fun h => hl _ (Array.getElem?_eq_some_iff.1 h).1
    have hb : b = { a with tmps := (dstsOf ops).foldl (fun (ts : Array Value) t => ts.setIfInBounds t (b.tmps.getD t undef)) a.tmps } := by
      obtain ⟨bt, bd⟩ := b
      obtain ⟨at_, ad⟩ := a
      simp only [Act.mk.injEq]
      refine ⟨?_, i2⟩
      apply Array.ext_getElem?
      intro t
      dsimp only at i3 i4
      rw [foldSet]
      by_cases h1 : t ∈ dstsOf ops
      · by_cases h2 : t < at_.size
        · have : t < bt.size := by omega
          simp [h1, h2, this]
        · simp [h2, i3]
      · simp only [h1, false_and, if_false]
        exact i4 t h1
    rw [hb]
    refine hQ (fun t => b.tmps.getD t undef) W i1 (fun t v hv ht => ?_) (fun t p hp => ?_)
    · obtain ⟨i, o, ho, e⟩ := mem_dsts.1 ht
      exact (i5 i o t (hlo ho) ho e).1 v hv
    · obtain ⟨i, o, ho, e⟩ := mem_dsts.1 (hxd' t p hp)
      exact (i5 i o t (hlo ho) ho e).2 p hp
  · have hno : ∀ j, (Array.replicate ops.size false).getD j false = false := fun j => by
      simp only [Array.getD_eq_getD_getElem?, Array.getElem?_replicate]
      split <;> rfl
    refine ⟨only_drew (only_refl w none), rfl, rfl, fun _ _ => rfl, fun i o t hl => ?_⟩
    rw [hno] at hl; cases hl

/-! ### What single operations owe -/
section
variable {P : Program} {vals : List (Tmp × Value)} {ex : List (Tmp × VP)} {w : World} {o : Oper}
/-- A value that is known. -/
theorem obv {t : Tmp} {c : Value} (ho : o.dst = some t) (hv : vals.lookup t = some c) (hx : ex.lookup t = none) (h : OpVal P o vals w c) : OpB P o vals ex w := ⟨t, ho, fun _ b W hg h1 _ => by
  have key : ∀ W', SlotP vals ex t c W' := fun W' => ⟨fun c' h' => by rw [hv] at h'; exact Option.some.inj h', fun p hp => by rw [hx] at hp; cases hp⟩
  rcases h b W hg h1 with h | ⟨f, args, h, hc⟩
  · exact .inl ⟨c, W, h, only_refl _ _, key W⟩
  · refine .inr ⟨f, args, h, hc.mono ?_⟩
    rintro e w'' ⟨rfl, hg⟩
    exact ⟨c, rfl, hg, key w''⟩⟩
end
end Go.Proofs.Ytmhbmeckdbdhpaa.Rg

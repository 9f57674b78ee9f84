/- UnfoldKnown: the walk, from the contracts. -/
import Derived.Test.YtoklaajiajilhaaDoorUWrk
import Derived.Test.YtoklaajiajilhaaDoorUKnF
import Derived.Test.YtoklaajiajilhaaDoorUMake
import Derived.Deep.CutBlock
import Derived.Deep.CutRange
namespace Go.Proofs.YtoklaajiajilhaaDoor
open Go.RowKit

section
variable {dig : Int → List UInt8} {L : World → Prop} {xs : List Nd} {v : Value} {w W : World} {a0 a1 b0 b1 k : Int}
theorem eqC (hU : UC dig L) (hL : L w) (hg : w.grownBy W none) (hT : Tbl W v xs) (hz : xs.length ≤ 1000) (ha : InT (a0, a1)) (hb : InT (b0, b1)) {r : Bool} (hr : equalA xs (a0, a1) (b0, b1) k = r) : Calls Tryd.prog 8 #[v, .agg #[.int .i64 a0, .int .i64 a1], .agg #[.int .i64 b0, .int .i64 b1], .int .i64 k] W fun e w' => e = .returned (.bool r) ∧ W.grownBy w' none := by
  have := hU.equal xs v (a0, a1) (b0, b1) k W (hU.keep _ _ hL hg) hT hz ha hb
  rw [hr] at this
  exact this
theorem txC (hU : UC dig L) (hL : L w) (hg : w.grownBy W none) (hT : Tbl W v xs) (hz : xs.length ≤ 1000) (ha : InT (a0, a1)) {l : List UInt8} (hr : textA dig xs (a0, a1) k = l) : Calls Tryd.prog 11 #[v, .agg #[.int .i64 a0, .int .i64 a1], .int .i64 k] W fun e w' => e = .returned (.string ⟨l.toArray⟩) ∧ W.grownBy w' none := by
  have := hU.text xs v (a0, a1) k W (hU.keep _ _ hL hg) hT hz ha
  rw [hr] at this
  exact this
end
/-- What stands: a list, in a world that has grown. -/
structure KnS (w : World) (v : Value) (xs : List Nd) (W : World) : Prop where
  gr : w.grownBy W none
  t : Tbl W v xs
theorem KnS.kept {w W W' : World} {v : Value} {xs : List Nd} (h : KnS w v xs W) (hg : W.grownBy W' none) : KnS w v xs W' := ⟨only_trans h.gr hg, h.t.keep (.grown hg)⟩
/-- What stands: a row of nodes whose edges lie elsewhere. -/
structure KnM (w : World) (G : Nat) (ns : List (Nd × Value)) (W : World) : Prop where
  gr : w.grownBy W none
  bk : Blk W G 39 (ndAll ns).toArray
  ed : ∀ p ∈ ns, Edges W p.2 p.1.next
theorem KnM.kept {w W W' : World} {G : Nat} {ns : List (Nd × Value)} (h : KnM w G ns W) (hg : W.grownBy W' none) : KnM w G ns W' := ⟨only_trans h.gr hg, h.bk.kept hg, fun p hp => (h.ed p hp).keep (.grown hg)⟩
theorem KnM.t {w W : World} {G : Nat} {ns : List (Nd × Value)} (h : KnM w G ns W) : Tbl W (.slice (some ⟨G, 0, none⟩) ns.length ns.length) (ns.map (·.1)) := rows_tbl h.bk h.ed
abbrev sl (g n : Nat) : Value := .slice (some ⟨g, 0, none⟩) n n

def nsM (G2 : Nat) : List (Nd × Value) := [(⟨3, 7, false, (0, 0), [(1, 1), (2, 0)]⟩, sl G2 2), (⟨5, 0, false, (0, 0), [(3, 5)]⟩, sl (G2 + 1) 1), (kEnd, .slice none 0 0), (⟨1, 9, true, (0, 20), [(2, 3)]⟩, sl (G2 + 1 + 1) 1)]
theorem knm_t {w W : World} {G G2 : Nat} (h : KnM w G (nsM G2) W) : Tbl W (.slice (some ⟨G, 0, none⟩) 4 4) kM := h.t

theorem nine_tbl (W : World) : Tbl (W.alloc (.cells #[.int .i64 9, .int .i64 0, .bool false, .int .i64 0, .int .i64 0, .slice none 0 0, .int .i64 0, .int .i64 0, .bool false, .int .i64 0, .int .i64 0, .slice none 0 0] 39)) (.slice (some ⟨W.heap.size, 0, none⟩) 2 2) kNine :=
  rows_tbl (ns := [(⟨9, 0, false, (0, 0), []⟩, .slice none 0 0), (kEnd, .slice none 0 0)]) (Blk.new _ _ _) (fun p hp => by
    simp only [List.mem_cons, List.not_mem_nil, or_false] at hp
    rcases hp with rfl | rfl <;> exact Edges.nil_ _)
theorem far_cells {base q cap G2 : Nat} {W : World} (h : OT base W (.slice (some ⟨q, 0, none⟩) 4 cap) (nsM G2)) : W.cell? ⟨q, 21, none⟩ = some (.int .i64 0) ∧ W.cell? ⟨q, 22, none⟩ = some (.int .i64 20) := by
  have hc := h.row.cells (g := q) rfl
  have e : ∀ j, ((⟨q, 0, none⟩ : Addr).add j) = ⟨q, j, none⟩ := fun j => by rw [addr_plain, Nat.zero_add]
  have h1 := hc 21 _ rfl
  have h2 := hc 22 _ rfl
  rw [e] at h1 h2
  exact ⟨h1, h2⟩
theorem far_of {base q cap G2 : Nat} {W : World} (h : OT base W (.slice (some ⟨q, 0, none⟩) 4 cap) (nsM G2)) :
    Tbl ((W.setCell ⟨q, 21, none⟩ (.int .i64 1)).setCell ⟨q, 22, none⟩ (.int .i64 2)) (.slice (some ⟨q, 0, none⟩) 4 cap) kFar ∧ W.grownBy ((W.setCell ⟨q, 21, none⟩ (.int .i64 1)).setCell ⟨q, 22, none⟩ (.int .i64 2)) (some q) := by
  have he := h.eds (⟨1, 9, true, (0, 20), [(2, 3)]⟩, sl (G2 + 1 + 1) 1) (by simp [nsM])
  obtain ⟨h1, g1⟩ := h.putc (k := 3) rfl rfl 3 (by omega) (.int .i64 1) ⟨1, 9, true, (1, 20), [(2, 3)]⟩ (sl (G2 + 1 + 1) 1) rfl he
  have he1 := h1.eds (⟨1, 9, true, (1, 20), [(2, 3)]⟩, sl (G2 + 1 + 1) 1) (by simp [nsM])
  obtain ⟨h2, g2⟩ := h1.putc (k := 3) rfl rfl 4 (by omega) (.int .i64 2) ⟨1, 9, true, (1, 2), [(2, 3)]⟩ (sl (G2 + 1 + 1) 1) rfl he1
  exact ⟨h2.tbl, g1.trans g2⟩

set_option maxRecDepth 100000 in
set_option maxHeartbeats 4000000 in
theorem uknown_of {dig : Int → List UInt8} {L : World → Prop} (hU : UC dig L) (hK : KT dig) (h12 : dig 12 = [49, 50]) (h13 : dig 13 = [49, 51]) (w : World) (hL : L w) :
    Calls Tryd.prog 6 #[] w fun e w' => e = .returned (.bool true) ∧ w.grownBy w' none := by
  have HU := Lib.hid hU
  have HK := Lib.hid hK
  have HL := Lib.hid hL
  have HD : Hid (dig 12 = [49, 50] ∧ dig 13 = [49, 51]) := Lib.hid ⟨h12, h13⟩
  clear hU hK hL h12 h13
  go_enter Tryd.func6, Tryd.ntmps6
  go_upto_region 2 with fail
  generalize hW1 : World.alloc _ _ = W1
  have HS : Hid (KnS w (sl (w.heap.size + 1 + 1) 2) kA W1) := Lib.hid (by
    have b1 : Blk W1 w.heap.size 36 (edCells (0, 4)) := by rw [← hW1]; exact ((Blk.new w _ _).alloc _).alloc _
    have b2 : Blk W1 (w.heap.size + 1) 36 (edCells (0, 4)) := by rw [← hW1]; exact (blk_at (by simp) _ _).alloc _
    have b3 : Blk W1 (w.heap.size + 1 + 1) 39 (ndAll [(⟨1, 1, false, (0, 0), [(0, 4)]⟩, sl w.heap.size 1), (⟨1, 1, false, (0, 0), [(0, 4)]⟩, sl (w.heap.size + 1) 1)]).toArray := by rw [← hW1]; exact blk_at (by simp) _ _
    refine ⟨by rw [← hW1]; exact only_alloc (only_alloc (only_alloc (only_refl _ _) _) _) _, rows_tbl b3 (fun p hp => ?_)⟩
    simp only [List.mem_cons, List.not_mem_nil, or_false] at hp
    rcases hp with rfl | rfl
    · exact one_edge b1
    · exact one_edge b2)
  revert HS
  generalize w.heap.size + 1 + 1 = G1
  intro HS
  clear hW1
  go_upto_region 4 with (first
    | (go_at_call 8; ((with_reducible refine Calls.mono (eqC HU.out HL.out HS.out.gr HS.out.t (by decide) (inT_of (by decide) (by decide) (by decide) (by decide)) (inT_of (by decide) (by decide) (by decide) (by decide)) ke_1) ?_); rintro e V ⟨rfl, hg⟩; replace HS := Lib.hid (HS.out.kept hg); clear hg))
    | (go_at_call 8; ((with_reducible refine Calls.mono (eqC HU.out HL.out HS.out.gr HS.out.t (by decide) (inT_of (by decide) (by decide) (by decide) (by decide)) (inT_of (by decide) (by decide) (by decide) (by decide)) ke_2) ?_); rintro e V ⟨rfl, hg⟩; replace HS := Lib.hid (HS.out.kept hg); clear hg))
    | (go_at_call 8; ((with_reducible refine Calls.mono (eqC HU.out HL.out HS.out.gr HS.out.t (by decide) (inT_of (by decide) (by decide) (by decide) (by decide)) (inT_of (by decide) (by decide) (by decide) (by decide)) ke_3) ?_); rintro e V ⟨rfl, hg⟩; replace HS := Lib.hid (HS.out.kept hg); clear hg))
    | (go_at_call 8; ((with_reducible refine Calls.mono (eqC HU.out HL.out HS.out.gr HS.out.t (by decide) (inT_of (by decide) (by decide) (by decide) (by decide)) (inT_of (by decide) (by decide) (by decide) (by decide)) ke_4) ?_); rintro e V ⟨rfl, hg⟩; replace HS := Lib.hid (HS.out.kept hg); clear hg))
    | fail)
  have HG := Lib.hid HS.out.gr
  clear HS
  go_upto_region 5 with fail
  generalize hg2 : V.heap.size = G2
  generalize hW2 : World.alloc _ _ = W2
  have hm : KnM w (G2 + 1 + 1 + 1) (nsM G2) W2 := by
    have b1 : Blk W2 G2 36 (edCells (1, 1) ++ edCells (2, 0)) := by rw [← hW2]; exact (((blk_at hg2 _ _).alloc _).alloc _).alloc _
    have b2 : Blk W2 (G2 + 1) 36 (edCells (3, 5)) := by rw [← hW2]; exact ((blk_at (by simp [hg2]) _ _).alloc _).alloc _
    have b3 : Blk W2 (G2 + 1 + 1) 36 (edCells (2, 3)) := by rw [← hW2]; exact (blk_at (by simp [hg2]) _ _).alloc _
    refine ⟨by rw [← hW2]; exact only_alloc (only_alloc (only_alloc (only_alloc HG.out _) _) _) _, by rw [← hW2]; exact blk_at (by simp [hg2]) _ _, fun p hp => ?_⟩
    unfold nsM at hp
    simp only [List.mem_cons, List.not_mem_nil, or_false] at hp
    rcases hp with rfl | rfl | rfl | rfl
    · exact two_edges b1
    · exact one_edge b2
    · exact Edges.nil_ _
    · exact one_edge b3
  have HM := Lib.hid hm
  clear hW2 hg2 hm
  go_upto_region 7 with (first
    | (go_at_call 11; ((with_reducible refine Calls.mono (txC HU.out HL.out HM.out.gr (knm_t HM.out) (by decide) (inT_of (by decide) (by decide) (by decide) (by decide)) HK.out.t1) ?_); rintro e V ⟨rfl, hg⟩; replace HM := Lib.hid (HM.out.kept hg); clear hg))
    | (go_at_call 11; ((with_reducible refine Calls.mono (txC HU.out HL.out HM.out.gr (knm_t HM.out) (by decide) (inT_of (by decide) (by decide) (by decide) (by decide)) HK.out.t2) ?_); rintro e V ⟨rfl, hg⟩; replace HM := Lib.hid (HM.out.kept hg); clear hg))
    | (go_at_call 11; ((with_reducible refine Calls.mono (txC HU.out HL.out HM.out.gr (knm_t HM.out) (by decide) (inT_of (by decide) (by decide) (by decide) (by decide)) HK.out.t3) ?_); rintro e V ⟨rfl, hg⟩; replace HM := Lib.hid (HM.out.kept hg); clear hg))
    | (go_at_call 11; ((with_reducible refine Calls.mono (txC HU.out HL.out HM.out.gr (knm_t HM.out) (by decide) (inT_of (by decide) (by decide) (by decide) (by decide)) HK.out.t4) ?_); rintro e V ⟨rfl, hg⟩; replace HM := Lib.hid (HM.out.kept hg); clear hg))
    | (go_at_call 11; ((with_reducible refine Calls.mono (txC HU.out HL.out HM.out.gr (knm_t HM.out) (by decide) (inT_of (by decide) (by decide) (by decide) (by decide)) HK.out.t5) ?_); rintro e V ⟨rfl, hg⟩; replace HM := Lib.hid (HM.out.kept hg); clear hg))
    | (go_at_call 11; ((with_reducible refine Calls.mono (txC HU.out HL.out HM.out.gr (knm_t HM.out) (by decide) (inT_of (by decide) (by decide) (by decide) (by decide)) HK.out.t6) ?_); rintro e V ⟨rfl, hg⟩; replace HM := Lib.hid (HM.out.kept hg); clear hg))
    | (go_at_call 11; ((with_reducible refine Calls.mono (txC HU.out HL.out HM.out.gr (knm_t HM.out) (by decide) (inT_of (by decide) (by decide) (by decide) (by decide)) HK.out.t7) ?_); rintro e V ⟨rfl, hg⟩; replace HM := Lib.hid (HM.out.kept hg); clear hg))
    | (go_at_call 11; ((with_reducible refine Calls.mono (txC HU.out HL.out HM.out.gr (knm_t HM.out) (by decide) (inT_of (by decide) (by decide) (by decide) (by decide)) HK.out.t8) ?_); rintro e V ⟨rfl, hg⟩; replace HM := Lib.hid (HM.out.kept hg); clear hg))
    | fail)
  generalize hg5 : G2 + 1 + 1 + 1 = G5 at *
  clear hg5
  have hO : OT V.heap.size (V.alloc (.cells #[] 39)) (.slice (some ⟨V.heap.size, 0, none⟩) 0 0) [] := OT.empty (Blk.new _ _ _)
  have HO := Lib.hid hO
  have HE : Hid (∀ p ∈ nsM G2, EdgesO V.heap.size (V.alloc (.cells #[] 39)) p.2 p.1.next) := Lib.hid fun p hp => ((HM.out.ed p hp).old (Nat.le_refl _)).kept (only_alloc (only_refl _ _) _)
  clear hO
  go_upto_region 8 with (at_builtin; refine wpList_append_nodes (ms := nsM G2) rfl (.tmp 97) (.tmp 98) rfl rfl rfl rfl HO.out (HM.out.bk.alloc _) HE.out (by simp [nsM]) (by simp) ?_; intro v3 W3 hot hgr; have HGR : Hid ((V.alloc (.cells #[] 39)).grownBy W3 (some V.heap.size)) := Lib.hid hgr; clear hgr; obtain ⟨q, cap, cur, hv3, hq, hcur⟩ := hot.shape (by simp [nsM]); have hv4 : v3 = .slice (some ⟨q, 0, none⟩) 4 cap := hv3; clear hv3; subst hv4; have hot2 : OT V.heap.size W3 (.slice (some ⟨q, 0, none⟩) 4 cap) (nsM G2) := hot; have HOT := Lib.hid hot2; have HQ := Lib.hid hq; have HC := Lib.hid hcur; clear hot hot2 hq hcur)
  obtain ⟨c21, c22⟩ := far_cells HOT.out
  have f21 := HC.out.frozen 21
  have f22 := HC.out.frozen 22
  have hql := HC.out.lt
  go_upto_region 9 with fail
  generalize hW4 : World.setCell _ _ _ = W4
  have hf := far_of HOT.out
  rw [hW4] at hf
  have hv3 : V.grownBy W3 none := only_new (only_alloc (only_refl _ _) _) HGR.out (Nat.le_refl _)
  have hv4 : V.grownBy W4 none := only_new hv3 hf.2 HQ.out
  have HF := Lib.hid hf.1
  replace HM := Lib.hid (HM.out.kept hv4)
  clear hW4 hf hv3 hv4 c21 c22 f21 f22 hql HOT HGR HQ HC HE HO
  have hO : OT W4.heap.size (W4.alloc (.cells #[] 39)) (.slice (some ⟨W4.heap.size, 0, none⟩) 0 0) [] := OT.empty (Blk.new _ _ _)
  have HO := Lib.hid hO
  have HE : Hid (∀ p ∈ nsM G2, EdgesO W4.heap.size (W4.alloc (.cells #[] 39)) p.2 p.1.next) := Lib.hid fun p hp => ((HM.out.ed p hp).old (Nat.le_refl _)).kept (only_alloc (only_refl _ _) _)
  clear hO
  go_upto_region 10 with (first
    | (at_builtin; refine wpList_append_nodes (ms := nsM G2) rfl (.tmp 104) (.tmp 105) rfl rfl rfl rfl HO.out (HM.out.bk.alloc _) HE.out (by simp [nsM]) (by simp) ?_; intro v3 W5 hot hgr; have HGR : Hid ((W4.alloc (.cells #[] 39)).grownBy W5 (some W4.heap.size)) := Lib.hid hgr; clear hgr; obtain ⟨q2, cap2, cur2, hv3, hq, hcur⟩ := hot.shape (by simp [nsM]); have hv4 : v3 = .slice (some ⟨q2, 0, none⟩) 4 cap2 := hv3; clear hv3; subst hv4; have hot2 : OT W4.heap.size W5 (.slice (some ⟨q2, 0, none⟩) 4 cap2) (nsM G2) := hot; have HOT := Lib.hid hot2; have HQ := Lib.hid hq; clear hot hot2 hq hcur HO HE)
    | (at_builtin; refine wpList_append_nodes (ms := [(⟨1, 2, true, (0, 13), [(2, 0)]⟩, sl W5.heap.size 1)]) rfl (.tmp 106) (.tmp 111) rfl rfl rfl rfl ((HOT.out.kept (only_alloc (only_refl _ _) _)).kept (only_alloc (only_refl _ _) _)) (blk_at (by simp) _ _) (fun p hp => by obtain rfl := List.mem_singleton.1 hp; exact EdgesO.one ((Blk.new _ _ _).alloc _)) (by simp [nsM]) (by have := HGR.out.size; simp at this ⊢; omega) ?_; intro v3 W6 hot hgr; have HGR2 : Hid (((W5.alloc (.cells (edCells (2, 0)) 36)).alloc (.cells (ndCells ⟨1, 2, true, (0, 13), [(2, 0)]⟩ (sl W5.heap.size 1)) 39)).grownBy W6 (some q2)) := Lib.hid hgr; clear hgr; obtain ⟨q3, cap3, cur3, hv3, hq, hcur⟩ := hot.shape (by simp [nsM]); have hv4 : v3 = .slice (some ⟨q3, 0, none⟩) 5 cap3 := hv3; clear hv3; subst hv4; have ht2 : Tbl W6 (.slice (some ⟨q3, 0, none⟩) 5 cap3) kTwo := hot.tbl; have HT2 := Lib.hid ht2; clear hot ht2 hq hcur)
    | fail)
  have hg5 : W4.grownBy W5 none := only_new (only_alloc (only_refl _ _) _) HGR.out (Nat.le_refl _)
  have hg6 : W4.grownBy W6 none := only_new (only_alloc (only_alloc hg5 _) _) HGR2.out HQ.out
  have HF6 := Lib.hid (HF.out.keep (.grown hg6))
  have HG6 := Lib.hid (only_trans HM.out.gr hg6)
  clear hg5 hg6 HF HM HOT HGR HGR2 HQ
  have s : W6.grownBy W6 none := only_refl _ _
  go_upto_region 12 with (first
    | (go_at_call 8; ((with_reducible refine Calls.mono (eqC HU.out HL.out (only_trans HG6.out s) (HT2.out.keep (.grown s)) (by decide) (inT_of (by decide) (by decide) (by decide) (by decide)) (inT_of (by decide) (by decide) (by decide) (by decide)) ke_5) ?_); rintro e V ⟨rfl, hg⟩; replace s := only_trans s hg; clear hg))
    | (go_at_call 8; ((with_reducible refine Calls.mono (eqC HU.out HL.out (only_trans HG6.out s) (HT2.out.keep (.grown s)) (by decide) (inT_of (by decide) (by decide) (by decide) (by decide)) (inT_of (by decide) (by decide) (by decide) (by decide)) ke_6) ?_); rintro e V ⟨rfl, hg⟩; replace s := only_trans s hg; clear hg))
    | (go_at_call 11; ((with_reducible refine Calls.mono (txC HU.out HL.out (only_trans HG6.out s) (HF6.out.keep (.grown s)) (by decide) (inT_of (by decide) (by decide) (by decide) (by decide)) HK.out.t9) ?_); rintro e V ⟨rfl, hg⟩; replace s := only_trans s hg; clear hg))
    | fail)
  replace HG := Lib.hid (only_trans HG6.out s)
  clear s HG6 HF6 HT2
  go_cut [5, 6] from 130 to 133 (fun u v wx => Tbl wx u (kBig 129) ∧ Tbl wx v kWide ∧ V.grownBy wx none)
  case first =>
    refine region_grows (by kernel_rfl) (by kernel_rfl) [130, 131, 132, 133, 5, 6] (by kernel_rfl) (by kernel_rfl) (by decide) RU ru_keep ?h0 ?hops ?hQ
    case h0 =>
      intro t ht
      simp only [List.mem_cons, List.not_mem_nil, or_false, not_or] at ht
      obtain ⟨h1, h2, h3, h4, h5, h6⟩ := ht
      unfold RU
      rw [if_neg (by simp only [h1, h5, or_self, not_false_eq_true]), if_neg h2, if_neg h3, if_neg (by simp only [h4, h6, or_self, not_false_eq_true])]
      trivial
    case hops =>
      refine ⟨⟨130, rfl, fun b W hg he => ?_⟩, ⟨131, rfl, fun b W hg he => ?_⟩, ⟨132, rfl, fun b W hg he => ?_⟩, ⟨133, rfl, fun b W hg he => ?_⟩, ⟨5, rfl, fun b W hg he => ?_⟩, ⟨6, rfl, fun b W hg he => ?_⟩, trivial⟩
      · exact wpU_nodes (n := 129) (by decide) rfl fun v W' ht hg' => ⟨v, rfl, hg', ht⟩
      · exact wpU_edges rfl fun g W' ht hg' => ⟨_, rfl, hg', g, rfl, ht⟩
      · obtain ⟨g, h1, h2⟩ : ∃ g, b.eval (.tmp 131) = .slice (some ⟨g, 0, none⟩) 9 9 ∧ Edges W (.slice (some ⟨g, 0, none⟩) 9 9) (List.replicate 9 (0, 0)) := he 131 (by simp [Op.operands])
        exact wpU_node4 rfl h1 ⟨_, rfl, only_refl _ _, g, rfl, h2⟩
      · obtain ⟨g, h1, h2⟩ : ∃ g, b.eval (.tmp 132) = ndV kW0 (.slice (some ⟨g, 0, none⟩) 9 9) ∧ Edges W (.slice (some ⟨g, 0, none⟩) 9 9) (List.replicate 9 (0, 0)) := he 132 (by simp [Op.operands])
        exact wpU_nodes1 rfl h1 ⟨_, rfl, only_alloc (only_refl _ _) _, wide_tbl (Blk.new _ _ _) (h2.keep (.alloc _ _))⟩
      · have h : Tbl W (b.eval (.tmp 130)) (kBig 129) := he 130 (by simp [Op.operands])
        exact wpU_assign rfl ⟨_, rfl, only_refl _ _, h⟩
      · have h : Tbl W (b.eval (.tmp 133)) kWide := he 133 (by simp [Op.operands])
        exact wpU_assign rfl ⟨_, rfl, only_refl _ _, h⟩
    case hQ =>
      intro vs W hg hv
      have HZ : Hid (Tbl W (vs 5) (kBig 129) ∧ Tbl W (vs 6) kWide ∧ V.grownBy W none) := Lib.hid ⟨hv 5 (by decide), hv 6 (by decide), hg⟩
      clear hg hv
      simp only [List.foldl_cons, List.foldl_nil, List.setIfInBounds_toArray, List.set_cons_zero, List.set_cons_succ]
      go_wp2_with fail
      go_meet
      exact HZ.out
  case rest =>
    obtain ⟨hbig, hwide, hg7⟩ := hcut
    generalize wc = W7 at *
    have HBG := Lib.hid hbig
    have HWD := Lib.hid hwide
    replace HG := Lib.hid (only_trans HG.out hg7)
    clear hbig hwide hg7
    go_upto_region 13 with fail
    obtain ⟨mc, hmk, hmt⟩ := make_128
    have HMT := Lib.hid hmt
    clear hmt
    have s : W7.grownBy W7 none := only_refl _ _
    go_wp2_with (first
      | (go_at_call 11; ((with_reducible refine Calls.mono (txC HU.out HL.out (only_trans HG.out s) (HBG.out.keep (.grown s)) (by decide) (inT_of (by decide) (by decide) (by decide) (by decide)) HK.out.b1) ?_); rintro e V ⟨rfl, hg⟩; replace s := only_trans s hg; clear hg))
      | (go_at_call 8; ((with_reducible refine Calls.mono (eqC HU.out HL.out (only_trans HG.out s) (HBG.out.keep (.grown s)) (by decide) (inT_of (by decide) (by decide) (by decide) (by decide)) (inT_of (by decide) (by decide) (by decide) (by decide)) ke_7) ?_); rintro e V ⟨rfl, hg⟩; replace s := only_trans s hg; clear hg))
      | (go_at_call 8; ((with_reducible refine Calls.mono (eqC HU.out HL.out (only_trans HG.out s) (HBG.out.keep (.grown s)) (by decide) (inT_of (by decide) (by decide) (by decide) (by decide)) (inT_of (by decide) (by decide) (by decide) (by decide)) ke_8) ?_); rintro e V ⟨rfl, hg⟩; replace s := only_trans s hg; clear hg))
      | (go_at_call 11; ((with_reducible refine Calls.mono (txC HU.out HL.out (only_trans HG.out s) (HWD.out.keep (.grown s)) (by decide) (inT_of (by decide) (by decide) (by decide) (by decide)) HK.out.b2) ?_); rintro e V ⟨rfl, hg⟩; replace s := only_trans s hg; clear hg))
      | (go_at_call 11; ((with_reducible refine Calls.mono (txC HU.out HL.out (only_trans HG.out (only_alloc s _)) (HMT.out _) (by decide) (inT_of (by decide) (by decide) (by decide) (by decide)) HK.out.b3) ?_); rintro e V ⟨rfl, hg⟩; replace s := only_trans (only_alloc s _) hg; clear hg))
      | (go_at_call 8; ((with_reducible refine Calls.mono (eqC HU.out HL.out (only_trans HG.out (only_alloc s _)) (nine_tbl _) (by decide) (inT_of (by decide) (by decide) (by decide) (by decide)) (inT_of (by decide) (by decide) (by decide) (by decide)) ke_9) ?_); rintro e V ⟨rfl, hg⟩; replace s := only_trans (only_alloc s _) hg; clear hg))
      | (go_at_call 8; ((with_reducible refine Calls.mono (eqC HU.out HL.out (only_trans HG.out (only_alloc s _)) (nine_tbl _) (by decide) (inT_of (by decide) (by decide) (by decide) (by decide)) (inT_of (by decide) (by decide) (by decide) (by decide)) ke_10) ?_); rintro e V ⟨rfl, hg⟩; replace s := only_trans (only_alloc s _) hg; clear hg))
      | (go_at_call 11; ((with_reducible refine Calls.mono (txC HU.out HL.out (only_trans HG.out s) (Tbl.nil_ _) (by decide) (inT_of (by decide) (by decide) (by decide) (by decide)) HK.out.b4) ?_); rintro e V ⟨rfl, hg⟩; replace s := only_trans s hg; clear hg))
      | (go_at_call 10; ((refine (uworks_of HU.out HD.out.1 HD.out.2 _ (HU.out.keep _ _ HL.out (only_trans HG.out s))).mono ?_); rintro e V ⟨rfl, hg⟩; replace s := only_trans s hg; clear hg))
      | fail)
    go_ret
    exact ⟨rfl, only_trans HG.out s⟩
end Go.Proofs.YtoklaajiajilhaaDoor

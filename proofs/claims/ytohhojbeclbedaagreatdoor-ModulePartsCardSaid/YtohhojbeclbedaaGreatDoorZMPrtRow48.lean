/- Texts joined for the claim's sake: MScC, MReA. -/
import Derived.Test.YtohhojbeclbedaaGreatDoorZMPrtRow47
import Derived.Test.YtohhojbeclbedaaGreatDoorZMPrtRow23
import Derived.Test.YtohhojbeclbedaaGreatDoorZMPrtRow4
namespace Go.Proofs.YtohhojbeclbedaaGreatDoor
open Go.RowKit

/-- What reading section 3 leaves. -/
def SecB (g bm : Nat) (bs : List UInt8) (bg : Nat) (cs : Array Value) (r : Rs (List (Edg × Nat) × List (Sta × Nat))) (w : World) (e : Ending) (w' : World) : Prop := match r with
  | .ok x c => e = .returned (.tuple #[]) ∧ Rdr w' g bs c bg ∧ (∃ v vA u uA, Blk w' bm 28 ((((cs.setIfInBounds 6 vA).setIfInBounds 2 v).setIfInBounds 7 uA).setIfInBounds 3 u) ∧ ListA EdgE 2 (fun k => w.heap.size ≤ k) w' v (x.1.map Prod.fst) ∧ ListA IntE 1 (fun k => w.heap.size ≤ k) w' vA (ats bg x.1) ∧ ListA StaE 2 (fun k => w.heap.size ≤ k) w' u (x.2.map Prod.fst) ∧ ListA IntE 1 (fun k => w.heap.size ≤ k) w' uA (ats bg x.2)) ∧ Turn (fun k => k = g ∨ k = bm) w w'
  | .flt c y _ => ∃ fb, e = gaveF fb ∧ Flt w' fb c ((bg : Int) + (y : Int)) ∧ w.heap.size ≤ fb ∧ Turn (fun k => k = g ∨ k = bm) w w' ∧ (∃ cs', Blk w' bm 28 cs' ∧ cs'.size = cs.size)
/-- The things of section 3. -/
def bootL (bs : List UInt8) (a : Nat) : Rs (List (Edg × Nat) × List (Sta × Nat)) := (lstR edgR 0 16 bs a).bind fun cs b => (lstR staR 0 8 bs b).bind fun ss c => .ok (cs, ss) c
set_option maxRecDepth 100000 in
set_option maxHeartbeats 2000000 in
theorem rsec_3 {g a bg bm : Nat} {bs : List UInt8} {w : World} {cs : Array Value} (h : Rdr w g bs a bg) (hm : Blk w bm 28 cs) (hc : (cs[6]? = some (.slice none 0 0) ∧ cs[2]? = some (.slice none 0 0) ∧ 6 < cs.size) ∧ (cs[7]? = some (.slice none 0 0) ∧ cs[3]? = some (.slice none 0 0) ∧ 7 < cs.size)) :
    Calls Tryz.prog 45 #[.pointer (some ⟨g, 0, none⟩), .pointer (some ⟨bm, 0, none⟩)] w (SecB g bm bs bg cs (bootL bs a) w) := by
  obtain ⟨tot, htot⟩ : ∃ r, bootL bs a = r := ⟨_, rfl⟩
  rw [htot]
  unfold bootL at htot
  obtain ⟨res, hres⟩ : ∃ r, lstR edgR 0 16 bs a = r := ⟨_, rfl⟩
  rw [hres] at htot
  have HRES := Lib.hid hres
  have HTOT := Lib.hid htot
  clear hres htot
  obtain ⟨cg, hbg⟩ := h.blk
  have hg0 : w.grownBy ((w.alloc (.cells #[.pointer (some ⟨g, 0, none⟩)] 54)).alloc (.cells #[.pointer (some ⟨bm, 0, none⟩)] 99)) none := only_alloc (only_alloc (only_refl _ _) _) _
  have HX : Hid (SecX g bm (w.heap.size + 1) w.heap.size bs bg a cs ((w.alloc (.cells #[.pointer (some ⟨g, 0, none⟩)] 54)).alloc (.cells #[.pointer (some ⟨bm, 0, none⟩)] 99))) := Lib.hid ⟨h.kept hg0, (Blk.new _ _ _).alloc _, blk_new_at (by simp) _ _, hm.kept hg0, by have := h.lt; omega, by have := h.lt; omega, Blk.ne_ hm hbg (by decide), by have := hm.lt; omega, by have := hm.lt; omega⟩
  have HG0 := Lib.hid hg0
  have HC := Lib.hid hc.1
  have HCB := Lib.hid hc.2
  have HPAN : Hid (∀ c y d fb W5, res = .flt c y d → Flt W5 fb c ((bg : Int) + (y : Int)) → (((w.alloc (.cells #[.pointer (some ⟨g, 0, none⟩)] 54)).alloc (.cells #[.pointer (some ⟨bm, 0, none⟩)] 99))).heap.size ≤ fb → Turn (fun k => k = g ∨ k = bm) ((w.alloc (.cells #[.pointer (some ⟨g, 0, none⟩)] 54)).alloc (.cells #[.pointer (some ⟨bm, 0, none⟩)] 99)) W5 → (∃ cs', Blk W5 bm 28 cs' ∧ cs'.size = cs.size) → SecB g bm bs bg cs tot w (gaveF fb) W5) := Lib.hid fun c y d fb W5 h1 h2 h3 h4 h5 => by
    have hz : tot = .flt c y d := by rw [← HTOT.out, h1]; rfl
    rw [hz]
    exact ⟨fb, rfl, h2, Nat.le_trans hg0.size h3, (Turn.none_ hg0).plus h4, h5⟩
  clear h hm hc hg0 hbg
  go_enter Tryz.func45, Tryz.ntmps45
  go_upto_region 1 with fail
  generalize ((w.alloc (.cells #[.pointer (some ⟨g, 0, none⟩)] 54)).alloc (.cells #[.pointer (some ⟨bm, 0, none⟩)] 99)) = X at *
  generalize hbp : w.heap.size + 1 = bp at *
  generalize hbx : w.heap.size = bx at *
  clear hbp hbx
  refine region_chainD (by kernel_rfl) (by kernel_rfl) (by kernel_rfl) [4, 5, 6, 7, 8, 9] (by kernel_rfl) (by kernel_rfl) (by decide)
    [(2, .pointer (some ⟨bx, 0, none⟩)), (3, .pointer (some ⟨bp, 0, none⟩)), (4, .pointer (some ⟨bm, 0, none⟩)), (5, .pointer (some ⟨g, 0, none⟩)), (6, .func (.func 116) #[] #[.pointer (some ⟨bp, 0, none⟩), .pointer (some ⟨bx, 0, none⟩)])]
    ?h0 [3, 4, 5, 6] (by kernel_rfl) (by kernel_rfl) (by decide) (by kernel_rfl) (TS_ EdgE 2 2 6 g bm bp bx bs bg cs res X 4) ?hT ?reads ?steps (only_drew (only_refl _ _)) ?hQ
  case h0 =>
    intro p hp hn
    simp only [List.mem_cons, List.not_mem_nil, or_false] at hp
    rcases hp with rfl | rfl | rfl | rfl | rfl
    all_goals first | rfl | exact absurd (by dsimp only; decide) hn
  case hT =>
    intro j f g' W' hj he
    match j, hj with
    | 0, hj => exact hj
    | 1, ⟨l, c, v, h0, h1, h2⟩ => exact ⟨l, c, v, h0, (he 0 3 _ 7 (by decide) rfl rfl rfl).symm.trans h1, h2⟩
    | 2, ⟨h9, l, c, v, h0, h1, h2⟩ => exact ⟨(he 1 4 _ 8 (by decide) rfl rfl rfl).symm.trans h9, l, c, v, h0, (he 0 3 _ 7 (by decide) rfl rfl rfl).symm.trans h1, h2⟩
    | 3, ⟨h9, l, c, v, h0, h1, h2⟩ => exact ⟨(he 2 5 _ 9 (by decide) rfl rfl rfl).symm.trans h9, l, c, v, h0, (he 0 3 _ 7 (by decide) rfl rfl rfl).symm.trans h1, h2⟩
    | 4, hj => exact hj
  case reads =>
    intro i o ho hn
    have hrd : ∀ j f W', j < 4 → TS_ EdgE 2 2 6 g bm bp bx bs bg cs res X 4 j f W' → Blk W' bx 54 #[.pointer (some ⟨g, 0, none⟩)] ∧ Blk W' bp 99 #[.pointer (some ⟨bm, 0, none⟩)] := by
      intro j f W' hj hT'
      match j, hj, hT' with
      | 0, _, hT' => exact ⟨HX.out.x.kept hT', HX.out.p.kept hT'⟩
      | 1, _, ⟨_, _, _, _, _, h⟩ => exact ⟨h.x, h.p⟩
      | 2, _, ⟨_, _, _, _, _, _, h⟩ => exact ⟨h.x, h.p⟩
      | 3, _, ⟨_, _, _, _, _, _, h⟩ => exact ⟨h.x, h.p⟩
    have h9 : i = 0 ∨ i = 1 ∨ i = 2 := by
      have h1 := (Array.getElem?_eq_some_iff.1 ho).1
      simp only [List.size_toArray, List.length_cons, List.length_nil] at h1
      simp only [List.mem_cons, List.not_mem_nil, or_false] at hn
      omega
    rcases h9 with rfl | rfl | rfl
    · cases ho
      exact ⟨4, _, rfl, rfl, fun j f b W' hj hT' henv => rv_loadPM rfl (henv 3 _ (by simp [Op.operands]) rfl) ((hrd j f W' hj hT').2.cell 0)⟩
    · cases ho
      exact ⟨5, _, rfl, rfl, fun j f b W' hj hT' henv => rv_loadR rfl (henv 2 _ (by simp [Op.operands]) rfl) ((hrd j f W' hj hT').1.cell 0)⟩
    · cases ho
      exact ⟨6, _, rfl, rfl, fun j f b W' hj hT' henv => rv_mk_Typ rfl (henv 3 _ (by simp [Op.operands]) rfl) (henv 2 _ (by simp [Op.operands]) rfl)⟩
  case steps =>
    intro j i o hj ho
    have h4 : j = 0 ∨ j = 1 ∨ j = 2 ∨ j = 3 := by
      have := (List.getElem?_eq_some_iff.1 hj).1
      simp only [List.length_cons, List.length_nil] at this
      omega
    rcases h4 with rfl | rfl | rfl | rfl
    · cases hj
      cases ho
      refine ⟨fun t e => by cases e; rfl, fun b W' hb hdf hT1 henv => ?_⟩
      have hg : X.grownBy W' none := hT1
      have hx := HX.out
      have hl := (hx.x.kept hg).lt
      have hl2 := (hx.p.kept hg).lt
      have hl3 := (hx.m.kept hg).lt
      refine wp_rall_Typ rfl (henv 5 _ (by simp [Op.operands, Call.operands]) rfl) (henv 6 _ (by simp [Op.operands, Call.operands]) rfl) (rall_Typ (hx.rd.kept hg) _ (MmI Edg 6 bm bp bx g W'.heap.size bg cs) (fun k => k = g ∨ k = bm ∨ (Value.slice none 0 0).ownBlock = some k)
        ⟨.slice none 0 0, fun _ => Iff.rfl, hx.x.kept hg, hx.p.kept hg, by rw [set_same HC.out.1]; exact hx.m.kept hg, AO.nil_ _ _, ⟨hl, hl2, hl3, hx.n1, hx.n2, hx.n3, hx.n4, hx.n5, (hx.rd.kept hg).lt, HC.out.2.2⟩, Nat.le_refl _⟩ mmi_ok 0 16 ⟨by omega, by omega⟩ (by omega) (fun pre T b W hi hr _ hn => rclo_Typ hi hr hn)) ?_
      intro e W5 hL
      rw [HRES.out] at hL
      rcases sec_of edg_ok (by decide) hg hL with ⟨l, c, v, h1, rfl, h3⟩ | ⟨c, y, d, fb, h1, rfl, h3, h4, h5, h6⟩
      · exact .inl ⟨_, rfl, _, rfl, l, c, v, h1, act_putM _ (by rw [hb]; show _ < 16; decide), h3⟩
      · exact .inr ⟨_, rfl, hdf, HPAN.out c y d fb W5 h1 h3 h4 h5 h6⟩
    · cases hj
      cases ho
      refine ⟨fun t e => by cases e; rfl, fun b W' hb hdf hT1 henv => ?_⟩
      obtain ⟨l, c, v, h0, h1, h2⟩ := hT1
      exact wp_valM (rv_nilM rfl (henv 4 _ (by simp [Op.operands]) rfl)) ⟨_, rfl, act_putM _ (by rw [hb]; show _ < 16; decide), l, c, v, h0, (act_otherM _ (by decide)).trans h1, h2⟩
    · cases hj
      cases ho
      refine ⟨fun t e => by cases e; rfl, fun b W' hb hdf hT1 henv => ?_⟩
      obtain ⟨h9, l, c, v, h0, h1, h2⟩ := hT1
      exact wp_valM (rv_fld0_Typ rfl h9) ⟨_, rfl, act_putM _ (by rw [hb]; show _ < 16; decide), l, c, v, h0, (act_otherM _ (by decide)).trans h1, h2⟩
    · cases hj
      cases ho
      refine ⟨fun t e => (by cases e), fun b W' hb hdf hT1 henv => ?_⟩
      obtain ⟨h9, l, c, v, h0, h1, h2⟩ := hT1
      obtain ⟨A5, c5, rfl, _⟩ := id h2.ls
      obtain ⟨vA, hm, _⟩ := h2.m
      exact wp_store_Typ rfl h9 h1 hm (by rw [Array.getElem?_setIfInBounds_ne (by decide)]; exact HC.out.2.1) ⟨undef, rfl, l, c, _, W', h0, rfl, h2⟩
  case hQ =>
    intro vs W' hv hT4
    obtain ⟨l, c, v, W1, h0, rfl, h2⟩ := hT4
    obtain ⟨e1, e2, e3, ⟨vA, e4, e5⟩, e6, e7⟩ := sec_end (fi0 := 2) edg_ok HX.out h2
    obtain ⟨cs2, hcs2⟩ : ∃ x, (cs.setIfInBounds 6 vA).setIfInBounds 2 v = x := ⟨_, rfl⟩
    have HC2 : Hid (cs2[7]? = some (.slice none 0 0) ∧ cs2[3]? = some (.slice none 0 0) ∧ 7 < cs2.size) := Lib.hid (by
      rw [← hcs2]
      refine ⟨?_, ?_, by simpa using HCB.out.2.2⟩
      · rw [Array.getElem?_setIfInBounds_ne (by decide), Array.getElem?_setIfInBounds_ne (by decide)]; exact HCB.out.1
      · rw [Array.getElem?_setIfInBounds_ne (by decide), Array.getElem?_setIfInBounds_ne (by decide)]; exact HCB.out.2.1)
    rw [hcs2] at e4
    have HCS2 := Lib.hid hcs2
    have HX2 : Hid (SecX g bm bp bx bs bg c cs2 (W1.setCell ⟨bm, 2, none⟩ v)) := Lib.hid ⟨e1, e2, e3, e4, HX.out.n1, HX.out.n2, HX.out.n3, HX.out.n4, HX.out.n5⟩
    have HL1 := Lib.hid e6
    have HL2 := Lib.hid e5
    have HTU := Lib.hid e7
    obtain ⟨res2, hres2⟩ : ∃ r, lstR staR 0 8 bs c = r := ⟨_, rfl⟩
    have HRES2 := Lib.hid hres2
    have HTOT2 : Hid ((res2.bind fun ss d => (.ok (l, ss) d : Rs (List (Edg × Nat) × List (Sta × Nat)))) = tot) := Lib.hid (by rw [← HTOT.out, h0, Rs.bind_ok, ← hres2])
    have HPAN2 : Hid (∀ c y d fb W5, res2 = .flt c y d → Flt W5 fb c ((bg : Int) + (y : Int)) → (W1.setCell ⟨bm, 2, none⟩ v).heap.size ≤ fb → Turn (fun k => k = g ∨ k = bm) (W1.setCell ⟨bm, 2, none⟩ v) W5 → (∃ cs', Blk W5 bm 28 cs' ∧ cs'.size = cs2.size) → SecB g bm bs bg cs tot w (gaveF fb) W5) := Lib.hid fun c y d fb W5 h1 h2 h3 h4 ⟨cs9, h5, h6⟩ => by
      have hz : tot = .flt c y d := by rw [← HTOT2.out, h1]; rfl
      rw [hz]
      exact ⟨fb, rfl, h2, Nat.le_trans HG0.out.size (Nat.le_trans HTU.out.size h3), ((Turn.none_ HG0.out).plus HTU.out).plus h4, cs9, h5, h6.trans (by rw [← HCS2.out]; simp)⟩
    simp only [List.foldl_cons, List.foldl_nil, List.setIfInBounds_toArray, List.set_cons_zero, List.set_cons_succ]
    clear hv h0 h2 e1 e2 e3 e4 e5 e6 e7 hcs2 hres2
    generalize (W1.setCell ⟨bm, 2, none⟩ v) = W9 at *
    go_upto_region 2 with fail
    refine region_chainD (by kernel_rfl) (by kernel_rfl) (by kernel_rfl) [10, 11, 12, 13, 14, 15] (by kernel_rfl) (by kernel_rfl) (by decide)
      [(2, .pointer (some ⟨bx, 0, none⟩)), (3, .pointer (some ⟨bp, 0, none⟩)), (10, .pointer (some ⟨bm, 0, none⟩)), (11, .pointer (some ⟨g, 0, none⟩)), (12, .func (.func 119) #[] #[.pointer (some ⟨bp, 0, none⟩), .pointer (some ⟨bx, 0, none⟩)])]
      ?h0 [3, 4, 5, 6] (by kernel_rfl) (by kernel_rfl) (by decide) (by kernel_rfl) (TS_ StaE 2 3 7 g bm bp bx bs bg cs2 res2 W9 10) ?hT ?reads ?steps (only_drew (only_refl _ _)) ?hQ
    case h0 =>
      intro p hp hn
      simp only [List.mem_cons, List.not_mem_nil, or_false] at hp
      rcases hp with rfl | rfl | rfl | rfl | rfl
      all_goals first | rfl | exact absurd (by dsimp only; decide) hn
    case hT =>
      intro j f g' W' hj he
      match j, hj with
      | 0, hj => exact hj
      | 1, ⟨l, c, v, h0, h1, h2⟩ => exact ⟨l, c, v, h0, (he 0 3 _ 13 (by decide) rfl rfl rfl).symm.trans h1, h2⟩
      | 2, ⟨h9, l, c, v, h0, h1, h2⟩ => exact ⟨(he 1 4 _ 14 (by decide) rfl rfl rfl).symm.trans h9, l, c, v, h0, (he 0 3 _ 13 (by decide) rfl rfl rfl).symm.trans h1, h2⟩
      | 3, ⟨h9, l, c, v, h0, h1, h2⟩ => exact ⟨(he 2 5 _ 15 (by decide) rfl rfl rfl).symm.trans h9, l, c, v, h0, (he 0 3 _ 13 (by decide) rfl rfl rfl).symm.trans h1, h2⟩
      | 4, hj => exact hj
    case reads =>
      intro i o ho hn
      have hrd : ∀ j f W', j < 4 → TS_ StaE 2 3 7 g bm bp bx bs bg cs2 res2 W9 10 j f W' → Blk W' bx 54 #[.pointer (some ⟨g, 0, none⟩)] ∧ Blk W' bp 99 #[.pointer (some ⟨bm, 0, none⟩)] := by
        intro j f W' hj hT'
        match j, hj, hT' with
        | 0, _, hT' => exact ⟨HX2.out.x.kept hT', HX2.out.p.kept hT'⟩
        | 1, _, ⟨_, _, _, _, _, h⟩ => exact ⟨h.x, h.p⟩
        | 2, _, ⟨_, _, _, _, _, _, h⟩ => exact ⟨h.x, h.p⟩
        | 3, _, ⟨_, _, _, _, _, _, h⟩ => exact ⟨h.x, h.p⟩
      have h9 : i = 0 ∨ i = 1 ∨ i = 2 := by
        have h1 := (Array.getElem?_eq_some_iff.1 ho).1
        simp only [List.size_toArray, List.length_cons, List.length_nil] at h1
        simp only [List.mem_cons, List.not_mem_nil, or_false] at hn
        omega
      rcases h9 with rfl | rfl | rfl
      · cases ho
        exact ⟨10, _, rfl, rfl, fun j f b W' hj hT' henv => rv_loadPM rfl (henv 3 _ (by simp [Op.operands]) rfl) ((hrd j f W' hj hT').2.cell 0)⟩
      · cases ho
        exact ⟨11, _, rfl, rfl, fun j f b W' hj hT' henv => rv_loadR rfl (henv 2 _ (by simp [Op.operands]) rfl) ((hrd j f W' hj hT').1.cell 0)⟩
      · cases ho
        exact ⟨12, _, rfl, rfl, fun j f b W' hj hT' henv => rv_mk_Sta rfl (henv 3 _ (by simp [Op.operands]) rfl) (henv 2 _ (by simp [Op.operands]) rfl)⟩
    case steps =>
      intro j i o hj ho
      have h4 : j = 0 ∨ j = 1 ∨ j = 2 ∨ j = 3 := by
        have := (List.getElem?_eq_some_iff.1 hj).1
        simp only [List.length_cons, List.length_nil] at this
        omega
      rcases h4 with rfl | rfl | rfl | rfl
      · cases hj
        cases ho
        refine ⟨fun t e => by cases e; rfl, fun b W' hb hdf hT1 henv => ?_⟩
        have hg : W9.grownBy W' none := hT1
        have hx := HX2.out
        have hl := (hx.x.kept hg).lt
        have hl2 := (hx.p.kept hg).lt
        have hl3 := (hx.m.kept hg).lt
        refine wp_rall_Sta rfl (henv 11 _ (by simp [Op.operands, Call.operands]) rfl) (henv 12 _ (by simp [Op.operands, Call.operands]) rfl) (rall_Sta (hx.rd.kept hg) _ (MmI Sta 7 bm bp bx g W'.heap.size bg cs2) (fun k => k = g ∨ k = bm ∨ (Value.slice none 0 0).ownBlock = some k)
          ⟨.slice none 0 0, fun _ => Iff.rfl, hx.x.kept hg, hx.p.kept hg, by rw [set_same HC2.out.1]; exact hx.m.kept hg, AO.nil_ _ _, ⟨hl, hl2, hl3, hx.n1, hx.n2, hx.n3, hx.n4, hx.n5, (hx.rd.kept hg).lt, HC2.out.2.2⟩, Nat.le_refl _⟩ mmi_ok 0 8 ⟨by omega, by omega⟩ (by omega) (fun pre T b W hi hr _ hn => rclo_Sta hi hr hn)) ?_
        intro e W5 hL
        rw [HRES2.out] at hL
        rcases sec_of sta_ok (by decide) hg hL with ⟨l, c, v, h1, rfl, h3⟩ | ⟨c, y, d, fb, h1, rfl, h3, h4, h5, h6⟩
        · exact .inl ⟨_, rfl, _, rfl, l, c, v, h1, act_putM _ (by rw [hb]; show _ < 16; decide), h3⟩
        · exact .inr ⟨_, rfl, hdf, HPAN2.out c y d fb W5 h1 h3 h4 h5 h6⟩
      · cases hj
        cases ho
        refine ⟨fun t e => by cases e; rfl, fun b W' hb hdf hT1 henv => ?_⟩
        obtain ⟨l, c, v, h0, h1, h2⟩ := hT1
        exact wp_valM (rv_nilM rfl (henv 10 _ (by simp [Op.operands]) rfl)) ⟨_, rfl, act_putM _ (by rw [hb]; show _ < 16; decide), l, c, v, h0, (act_otherM _ (by decide)).trans h1, h2⟩
      · cases hj
        cases ho
        refine ⟨fun t e => by cases e; rfl, fun b W' hb hdf hT1 henv => ?_⟩
        obtain ⟨h9, l, c, v, h0, h1, h2⟩ := hT1
        exact wp_valM (rv_fld0_Sta rfl h9) ⟨_, rfl, act_putM _ (by rw [hb]; show _ < 16; decide), l, c, v, h0, (act_otherM _ (by decide)).trans h1, h2⟩
      · cases hj
        cases ho
        refine ⟨fun t e => (by cases e), fun b W' hb hdf hT1 henv => ?_⟩
        obtain ⟨h9, l, c, v, h0, h1, h2⟩ := hT1
        obtain ⟨A5, c5, rfl, _⟩ := id h2.ls
        obtain ⟨vA, hm, _⟩ := h2.m
        exact wp_store_Sta rfl h9 h1 hm (by rw [Array.getElem?_setIfInBounds_ne (by decide)]; exact HC2.out.2.1) ⟨undef, rfl, l, c, _, W', h0, rfl, h2⟩
    case hQ =>
      intro vs W' hv hT4
      obtain ⟨l, c, v, W1, h0, rfl, h2⟩ := hT4
      obtain ⟨e1, e2, e3, ⟨vA, e4, e5⟩, e6, e7⟩ := sec_end (fi0 := 3) sta_ok HX2.out h2
      have HRF : Hid (SecB g bm bs bg cs tot w (.returned (.tuple #[])) (W1.setCell ⟨bm, 3, none⟩ v)) := Lib.hid (by
        rw [← HTOT2.out, h0]
        rw [← HCS2.out] at e4
        have hlt1 := HX.out.m.lt
        have hlt2 := HX.out.rd.lt
        have hk : KeptS (fun k => X.heap.size ≤ k) W9 (W1.setCell ⟨bm, 3, none⟩ v) := KeptS.of_turn e7 (fun b hb hk => by rcases hk with e | e <;> omega)
        exact ⟨rfl, e1, ⟨_, _, _, _, e4, (HL1.out.kept edg_ok hk).more edg_ok (by decide) (fun b hb _ => Nat.le_trans HG0.out.size hb), (HL2.out.kept int_ok hk).more int_ok (by decide) (fun b hb _ => Nat.le_trans HG0.out.size hb),
          e6.more sta_ok (by decide) (fun b hb _ => Nat.le_trans HG0.out.size (Nat.le_trans HTU.out.size hb)), e5.more int_ok (by decide) (fun b hb _ => Nat.le_trans HG0.out.size (Nat.le_trans HTU.out.size hb))⟩, ((Turn.none_ HG0.out).plus HTU.out).plus e7⟩)
      simp only [List.foldl_cons, List.foldl_nil, List.setIfInBounds_toArray, List.set_cons_zero, List.set_cons_succ]
      clear hv h2 e1 e2 e3 e4 e5 e6 e7
      generalize World.setCell _ _ _ = W8 at *
      go_wp2_with fail
      go_end0
      exact HRF.out
end Go.Proofs.YtohhojbeclbedaaGreatDoor

namespace Go.Proofs.YtohhojbeclbedaaGreatDoor
open Go.RowKit

set_option maxRecDepth 100000 in
set_option maxHeartbeats 1000000 in
theorem mrd_catch (bm be fb : Nat) (v0 v1 v2 v3 v4 v5 v6 v7 u : Value) (older : List PanicEntry) (w : World) (hm : Blk w bm 28 #[v0, v1, v2, v3, v4, v5, v6, v7]) (he : Blk w be 43 #[u]) (hne : be ≠ bm) :
    CallsD Tryz.prog 41 #[.pointer (some ⟨bm, 0, none⟩), .pointer (some ⟨be, 0, none⟩)] (.panicking ({ v := .iface 94 (.pointer (some ⟨fb, 0, none⟩)), recovered := false } :: older)) w fun e u' w' =>
      e = .returned (.tuple #[]) ∧ u' = .panicking ({ v := .iface 94 (.pointer (some ⟨fb, 0, none⟩)), recovered := true } :: older) ∧ Blk w' bm 28 #[.slice none 0 0, .slice none 0 0, .slice none 0 0, .slice none 0 0, .slice none 0 0, .slice none 0 0, .slice none 0 0, .slice none 0 0] ∧ Blk w' be 43 #[.iface 94 (.pointer (some ⟨fb, 0, none⟩))] ∧ Turn (fun k => k = bm ∨ k = be) w w' := by
  have h1 := assert_fault (.pointer (some ⟨fb, 0, none⟩)) w
  refine callsD_of_wpS Tryz.func41 rfl fun c₀ cs hu => ?_
  refine wpS_seq (wpS_region ?_)
  simp [wpOpsS, go_sem, recoverD, hu, Tryz.ntmps41, h1]
  refine wpS_seq (wpS_region ?_)
  simp [wpOpsS, go_sem]
  refine wpS_cond (t := true) (by simp [go_sem]) ?_
  refine wpS_of_wp ?_
  simp only [if_true, Array.replicate_succ, Array.replicate_zero, List.push_toArray, List.append_toArray, List.nil_append, List.cons_append, List.setIfInBounds_toArray, List.set_cons_zero, List.set_cons_succ]
  have c0 := hm.cell 0
  have f0 := hm.frozen 0
  have c1 := hm.cell 1
  have f1 := hm.frozen 1
  have c2 := hm.cell 2
  have f2 := hm.frozen 2
  have c3 := hm.cell 3
  have f3 := hm.frozen 3
  have c4 := hm.cell 4
  have f4 := hm.frozen 4
  have c5 := hm.cell 5
  have f5 := hm.frozen 5
  have c6 := hm.cell 6
  have f6 := hm.frozen 6
  have c7 := hm.cell 7
  have f7 := hm.frozen 7
  have ec := he.cell 0
  have ef := he.frozen 0
  go_wp2_with fail
  have g8 := only_setCell (g := bm) (p := ⟨bm, 7, none⟩) (only_setCell (g := bm) (p := ⟨bm, 6, none⟩) (only_setCell (g := bm) (p := ⟨bm, 5, none⟩) (only_setCell (g := bm) (p := ⟨bm, 4, none⟩) (only_setCell (g := bm) (p := ⟨bm, 3, none⟩) (only_setCell (g := bm) (p := ⟨bm, 2, none⟩) (only_setCell (g := bm) (p := ⟨bm, 1, none⟩) (only_setCell (g := bm) (p := ⟨bm, 0, none⟩) (only_refl w _) rfl (.slice none 0 0)) rfl (.slice none 0 0)) rfl (.slice none 0 0)) rfl (.slice none 0 0)) rfl (.slice none 0 0)) rfl (.slice none 0 0)) rfl (.slice none 0 0)) rfl (.slice none 0 0)
  have bb0 : Blk (w.setCell ⟨bm, 0, none⟩ (.slice none 0 0)) bm 28 #[.slice none 0 0, v1, v2, v3, v4, v5, v6, v7] := hm.set_ 0 _
  have bb1 : Blk ((w.setCell ⟨bm, 0, none⟩ (.slice none 0 0)).setCell ⟨bm, 1, none⟩ (.slice none 0 0)) bm 28 #[.slice none 0 0, .slice none 0 0, v2, v3, v4, v5, v6, v7] := bb0.set_ 1 _
  have bb2 : Blk (((w.setCell ⟨bm, 0, none⟩ (.slice none 0 0)).setCell ⟨bm, 1, none⟩ (.slice none 0 0)).setCell ⟨bm, 2, none⟩ (.slice none 0 0)) bm 28 #[.slice none 0 0, .slice none 0 0, .slice none 0 0, v3, v4, v5, v6, v7] := bb1.set_ 2 _
  have bb3 : Blk ((((w.setCell ⟨bm, 0, none⟩ (.slice none 0 0)).setCell ⟨bm, 1, none⟩ (.slice none 0 0)).setCell ⟨bm, 2, none⟩ (.slice none 0 0)).setCell ⟨bm, 3, none⟩ (.slice none 0 0)) bm 28 #[.slice none 0 0, .slice none 0 0, .slice none 0 0, .slice none 0 0, v4, v5, v6, v7] := bb2.set_ 3 _
  have bb4 : Blk (((((w.setCell ⟨bm, 0, none⟩ (.slice none 0 0)).setCell ⟨bm, 1, none⟩ (.slice none 0 0)).setCell ⟨bm, 2, none⟩ (.slice none 0 0)).setCell ⟨bm, 3, none⟩ (.slice none 0 0)).setCell ⟨bm, 4, none⟩ (.slice none 0 0)) bm 28 #[.slice none 0 0, .slice none 0 0, .slice none 0 0, .slice none 0 0, .slice none 0 0, v5, v6, v7] := bb3.set_ 4 _
  have bb5 : Blk ((((((w.setCell ⟨bm, 0, none⟩ (.slice none 0 0)).setCell ⟨bm, 1, none⟩ (.slice none 0 0)).setCell ⟨bm, 2, none⟩ (.slice none 0 0)).setCell ⟨bm, 3, none⟩ (.slice none 0 0)).setCell ⟨bm, 4, none⟩ (.slice none 0 0)).setCell ⟨bm, 5, none⟩ (.slice none 0 0)) bm 28 #[.slice none 0 0, .slice none 0 0, .slice none 0 0, .slice none 0 0, .slice none 0 0, .slice none 0 0, v6, v7] := bb4.set_ 5 _
  have bb6 : Blk (((((((w.setCell ⟨bm, 0, none⟩ (.slice none 0 0)).setCell ⟨bm, 1, none⟩ (.slice none 0 0)).setCell ⟨bm, 2, none⟩ (.slice none 0 0)).setCell ⟨bm, 3, none⟩ (.slice none 0 0)).setCell ⟨bm, 4, none⟩ (.slice none 0 0)).setCell ⟨bm, 5, none⟩ (.slice none 0 0)).setCell ⟨bm, 6, none⟩ (.slice none 0 0)) bm 28 #[.slice none 0 0, .slice none 0 0, .slice none 0 0, .slice none 0 0, .slice none 0 0, .slice none 0 0, .slice none 0 0, v7] := bb5.set_ 6 _
  have b8 : Blk ((((((((w.setCell ⟨bm, 0, none⟩ (.slice none 0 0)).setCell ⟨bm, 1, none⟩ (.slice none 0 0)).setCell ⟨bm, 2, none⟩ (.slice none 0 0)).setCell ⟨bm, 3, none⟩ (.slice none 0 0)).setCell ⟨bm, 4, none⟩ (.slice none 0 0)).setCell ⟨bm, 5, none⟩ (.slice none 0 0)).setCell ⟨bm, 6, none⟩ (.slice none 0 0)).setCell ⟨bm, 7, none⟩ (.slice none 0 0)) bm 28 #[.slice none 0 0, .slice none 0 0, .slice none 0 0, .slice none 0 0, .slice none 0 0, .slice none 0 0, .slice none 0 0, .slice none 0 0] := bb6.set_ 7 _
  clear c0 f0 c1 f1 c2 f2 c3 f3 c4 f4 c5 f5 c6 f6 c7 f7 ec ef bb0 bb1 bb2 bb3 bb4 bb5 bb6
  generalize ((((((((w.setCell ⟨bm, 0, none⟩ (.slice none 0 0)).setCell ⟨bm, 1, none⟩ (.slice none 0 0)).setCell ⟨bm, 2, none⟩ (.slice none 0 0)).setCell ⟨bm, 3, none⟩ (.slice none 0 0)).setCell ⟨bm, 4, none⟩ (.slice none 0 0)).setCell ⟨bm, 5, none⟩ (.slice none 0 0)).setCell ⟨bm, 6, none⟩ (.slice none 0 0)).setCell ⟨bm, 7, none⟩ (.slice none 0 0)) = W8 at *
  have e8 : Blk W8 be 43 #[u] := he.grown g8 (fun e => hne (Option.some.inj e))
  have g9 : W8.grownBy (W8.setCell ⟨be, 0, none⟩ (.iface 94 (.pointer (some ⟨fb, 0, none⟩)))) (some be) := only_setCell (g := be) (p := ⟨be, 0, none⟩) (only_refl _ _) rfl _
  have b9 := b8.grown g9 (fun e => hne (Option.some.inj e).symm)
  have e9 : Blk (W8.setCell ⟨be, 0, none⟩ (.iface 94 (.pointer (some ⟨fb, 0, none⟩)))) be 43 #[.iface 94 (.pointer (some ⟨fb, 0, none⟩))] := e8.set_ 0 _
  have ht : Turn (fun k => k = bm ∨ k = be) w (W8.setCell ⟨be, 0, none⟩ (.iface 94 (.pointer (some ⟨fb, 0, none⟩)))) := (Turn.of_only (S := fun k => k = bm ∨ k = be) g8 (fun k e => .inl (Option.some.inj e).symm)).plus (Turn.of_only g9 (fun k e => .inr (Option.some.inj e).symm))
  clear g8 b8 e8 g9
  generalize (W8.setCell ⟨be, 0, none⟩ (.iface 94 (.pointer (some ⟨fb, 0, none⟩)))) = Wf at *
  simp [bodyPostS, results, Tryz.results41, go_sem]
  exact ⟨b9, e9, ht⟩
set_option maxRecDepth 100000 in
set_option maxHeartbeats 400000 in
theorem mrd_idle (p q : Addr) (w : World) :
    CallsD Tryz.prog 41 #[.pointer (some p), .pointer (some q)] .returning w fun e u' w' => e = .returned (.tuple #[]) ∧ u' = .returning ∧ w' = w := by
  have h1 := assert_nil w
  refine callsD_of_wpS Tryz.func41 rfl fun c₀ cs hu => ?_
  refine wpS_seq (wpS_region ?_)
  simp [wpOpsS, go_sem, recoverD, hu, Tryz.ntmps41, h1]
  refine wpS_seq (wpS_region ?_)
  simp [wpOpsS, go_sem]
  refine wpS_cond (t := false) (by simp [go_sem]) ?_
  refine wpS_of_wp ?_
  simp only [Bool.false_eq_true, if_false]
  refine wp_skip ?_
  simp [bodyPostS, results, Tryz.results41, go_sem]
  cases c₀
  simp_all
set_option maxRecDepth 100000 in
set_option maxHeartbeats 1000000 in
theorem mmustR_no (p q r : Option Addr) (w : World) : Calls Tryz.prog 42 #[.agg #[.pointer p, .pointer q, .pointer r], .nilIface] w fun en w' => en = .returned (.agg #[.pointer p, .pointer q, .pointer r]) ∧ w.grownBy w' none := by
  have hg0 : w.grownBy ((w.alloc (.cells #[.pointer p, .pointer q, .pointer r] 55)).alloc (.cells #[.pointer none, .pointer none, .pointer none] 55)) none := only_alloc (only_alloc (only_refl _ _) _) _
  have HX := Lib.hid ((Blk.new w 55 #[.pointer p, .pointer q, .pointer r]).alloc (.cells #[.pointer none, .pointer none, .pointer none] 55))
  have HY : Hid (Blk ((w.alloc (.cells #[.pointer p, .pointer q, .pointer r] 55)).alloc (.cells #[.pointer none, .pointer none, .pointer none] 55)) (w.heap.size + 1) 55 #[.pointer none, .pointer none, .pointer none]) := Lib.hid (blk_new_at (by simp) _ _)
  have HG := Lib.hid hg0
  clear hg0
  go_enter Tryz.func42, Tryz.ntmps42
  go_upto_region 1 with fail
  generalize ((w.alloc (.cells #[.pointer p, .pointer q, .pointer r] 55)).alloc (.cells #[.pointer none, .pointer none, .pointer none] 55)) = W0 at *
  generalize hbr : w.heap.size + 1 = br at *
  generalize hbx : w.heap.size = bx at *
  have HBR : Hid (w.heap.size ≤ br) := Lib.hid (by omega)
  clear hbr hbx
  go_wp2_with fail
  refine (mgive_no _).mono ?_
  rintro en w1 ⟨rfl, rfl⟩
  have n0 := HX.out.cell 0
  have n1 := HX.out.cell 1
  have n2 := HX.out.cell 2
  have c0 := HY.out.cell 0
  have c1 := HY.out.cell 1
  have c2 := HY.out.cell 2
  have f0 := HY.out.frozen 0
  have f1 := HY.out.frozen 1
  have f2 := HY.out.frozen 2
  go_wp2_with fail
  have hst := only_setCell (g := br) (p := ⟨br, 2, none⟩) (only_setCell (g := br) (p := ⟨br, 1, none⟩) (only_setCell (g := br) (p := ⟨br, 0, none⟩) (only_refl W0 _) rfl (.pointer p)) rfl (.pointer q)) rfl (.pointer r)
  have hbf : Blk (((W0.setCell ⟨br, 0, none⟩ (.pointer p)).setCell ⟨br, 1, none⟩ (.pointer q)).setCell ⟨br, 2, none⟩ (.pointer r)) br 55 #[.pointer p, .pointer q, .pointer r] := (((HY.out.set_ 0 (.pointer p)).set_ 1 (.pointer q)).set_ 2 (.pointer r))
  have HGF := Lib.hid (only_new' (only_weak HG.out none) hst HBR.out)
  clear hst n0 n1 n2 c0 c1 c2 f0 f1 f2
  generalize (((W0.setCell ⟨br, 0, none⟩ (.pointer p)).setCell ⟨br, 1, none⟩ (.pointer q)).setCell ⟨br, 2, none⟩ (.pointer r)) = Wf at *
  refine bodyPost_ret (results_cell_row rfl _ _ br 55 #[.pointer p, .pointer q, .pointer r] _ _ rfl hbf Tryz.underlying55 rfl (by kernel_rfl)) rfl ?_
  exact ⟨rfl, HGF.out⟩
set_option maxRecDepth 100000 in
set_option maxHeartbeats 1000000 in
theorem mmustR_yes (fb : Nat) (w : World) : Calls Tryz.prog 42 #[.agg #[.pointer none, .pointer none, .pointer none], .iface 94 (.pointer (some ⟨fb, 0, none⟩))] w fun en w' => en = gaveF fb ∧ w.grownBy w' none := by
  go_enter Tryz.func42, Tryz.ntmps42
  go_wp2_with fail
  refine (mgive_yes _ _).mono ?_
  rintro en w1 ⟨rfl, rfl⟩
  go_wp2_with fail
  exact ⟨rfl, rfl, only_alloc (only_alloc (only_refl _ _) _) _⟩
/-- A reader stays as blocks are turned that are none of its own. -/
theorem Rdr.turn {T : Nat → Prop} {W W' : World} {g a bg : Nat} {bs : List UInt8} (h : Rdr W g bs a bg) (t : Turn T W W') (hg : ¬ T g) (hT : ∀ k, T k → ¬ IsU8 W k) : Rdr W' g bs a bg := by
  obtain ⟨bb, off, cap, h1, ⟨cs, fr, h4, h5⟩, h3⟩ := h
  have hbl : bb < W.heap.size := (Array.getElem?_eq_some_iff.1 h4).1
  exact ⟨bb, off, cap, h1.turn t hg, ⟨cs, fr, (t.block bb hbl (fun hk => hT bb hk ⟨cs, fr, h4⟩)).trans h4, h5⟩, h3⟩
end Go.Proofs.YtohhojbeclbedaaGreatDoor

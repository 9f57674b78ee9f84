/- Texts joined for the claim's sake: SecS. -/
import Derived.Test.YtohhojbeclbedaaGreatDoorZMKnwRow18
namespace Go.Proofs.YtohhojbeclbedaaGreatDoor
open Go.RowKit Go.Shelf
attribute [local go_sem] Oper.semAt_some

/-- What lies in the array when the sections pre have come. -/
def txt (pre : List Sx) (i : Nat) : Value := match pre[i]? with | some (.ok q _ _) => .pointer (some ⟨q, 0, none⟩) | _ => .pointer none
/-- takeSections' own cells. -/
structure SI (n0 X : Nat) (pre : List Sx) (W : World) : Prop where
  b0 : Blk W n0 107 #[.pointer (some ⟨X, 0, none⟩)]
  b1 : Blk W (n0 + 1) 43 #[.nilIface]
  b2 : Blk W (n0 + 2) 3 #[.int .i64 (pre.length : Int)]
  bx : Blk W X 55 #[txt pre 0, txt pre 1, txt pre 2]
  lt : X < n0
/-- Behind a fault. -/
def SIx (w0 w : World) (g X : Nat) (b : List UInt8) (n0 : Nat) (c : Code) (_ : List Sx) (W : World) : Prop :=
  c = .ret ∧ ∃ fb c y, Blk W (n0 + 1) 43 #[.iface 94 (.pointer (some ⟨fb, 0, none⟩))] ∧ SplitFault b c y ∧ St w0 W [] [⟨fb, c, y⟩] ∧ Keep w g X W

/-- All three sections stand there, and end at a. -/
structure Three (b : List UInt8) (x : Parts) (a : Nat) : Prop where
  head : HeadOk b
  s1 : SecOk b 1 5 x.j1 x.p1 x.n1
  s2 : SecOk b 2 (x.p1 + x.n1) x.j2 x.p2 x.n2
  s3 : SecOk b 3 (x.p2 + x.n2) x.j3 x.p3 x.n3
  at_ : a = x.p3 + x.n3

section
variable {w0 w : World} {b : List UInt8} {n0 X g Bn B : Nat}
theorem si_own : OwnFrom B (SI n0 X) := fun _ _ _ _ h hg hr =>
  ⟨h.b0.own hg (fun r e => (hr r e).2), h.b1.own hg (fun r e => (hr r e).2), h.b2.own hg (fun r e => (hr r e).2), h.bx.own hg (fun r e => (hr r e).2), h.lt⟩
theorem six_own (hB : w0.heap.size ≤ B) (c : Code) : OwnFrom B (SIx w0 w g X b n0 c) := fun _ _ _ _ h hg hr => by
  obtain ⟨hc, fb, c, y, h1, h2, h3, h4⟩ := h
  exact ⟨hc, fb, c, y, h1.own hg (fun r e => (hr r e).2), h2, h3.own hg (fun r e => ⟨Nat.le_trans hB (hr r e).1, (hr r e).2⟩), h4.own hg (fun r e => (hr r e).2)⟩
theorem st_own (hB : w0.heap.size ≤ B) : OwnFrom B (ST w0 w g X Bn b) := fun _ _ _ _ h hg hr => by
  obtain ⟨a, h1, h2, h3, h4⟩ := h
  exact ⟨a, h1, h2.own hg (fun r e => ⟨Nat.le_trans hB (hr r e).1, (hr r e).2⟩), h3.own hg (fun r e => (hr r e).2), h4.own hg (fun r e => (hr r e).2)⟩
theorem stm_own (hB : w0.heap.size ≤ B) (x : Sx) : OwnFrom B (fun pre W => STm w0 w g X Bn b pre x W) := fun pre _ _ _ h hg hr => by
  obtain ⟨h0, h⟩ := h
  refine ⟨h0, ?_⟩
  cases x with
  | ok q p n => exact st_own hB _ _ _ _ h hg hr
  | bad fb =>
    obtain ⟨a, c, y, h1, h2, h3, h4⟩ := h
    exact ⟨a, c, y, h1, h2, h3.own hg (fun r e => ⟨Nat.le_trans hB (hr r e).1, (hr r e).2⟩), h4.own hg (fun r e => (hr r e).2)⟩
theorem si_step (s : List Sx) (W Y : World) (h : SI n0 X s W) (hs : SSp g W Y) : SI n0 X s Y := by
  obtain ⟨hg, cs, hb⟩ := hs
  have ne : ∀ k t cs', Blk W k t cs' → t ≠ 111 → some k ≠ some g := fun k t cs' h1 h2 e => Blk.ne_ h1 hb h2 (by injection e)
  exact ⟨h.b0.grown hg (ne _ _ _ h.b0 (by decide)), h.b1.grown hg (ne _ _ _ h.b1 (by decide)), h.b2.grown hg (ne _ _ _ h.b2 (by decide)), h.bx.grown hg (ne _ _ _ h.bx (by decide)), h.lt⟩
theorem ssp_keeps (W Y : World) (hs : SSp g W Y) : KeepsFrom B W Y := by
  obtain ⟨hg, cs, hb⟩ := hs
  refine (KeepsOthers.of_grownBy hg fun j o e ho => ?_).from _
  injection e with e
  subst e
  unfold Blk at hb
  rw [hb] at ho
  cases ho
  rfl
/-- A fault of a section is one of the whole. -/
theorem pos_fault {pre : List Sx} {a : Nat} {c y : Int} (h : Pos b pre a) (hl : pre.length < 3) (hf : SecFault b (pre.length + 1) a c y) : SplitFault b c y := by
  cases h with
  | start hh => exact .sec1 c y hh hf
  | snoc q h1 k1 =>
    cases h1 with
    | start hh => exact .sec2 _ _ _ c y hh k1 hf
    | snoc q2 h2 k2 =>
      cases h2 with
      | start hh => exact .sec3 _ _ _ _ _ _ c y hh k2 k1 hf
      | snoc q3 h3 k3 => simp at hl; omega
/-- All three. -/
theorem pos_three {pre : List Sx} {a : Nat} (h : Pos b pre a) (hl : pre.length = 3) : ∃ (x : Parts) (q1 q2 q3 : Nat), pre = [.ok q1 x.p1 x.n1, .ok q2 x.p2 x.n2, .ok q3 x.p3 x.n3] ∧ Three b x a := by
  cases h with
  | start hh => simp at hl
  | snoc q h1 k1 =>
    cases h1 with
    | start hh => simp at hl
    | snoc q2 h2 k2 =>
      cases h2 with
      | start hh => simp at hl
      | snoc q3 h3 k3 =>
        cases h3 with
        | start hh => exact ⟨⟨_, _, _, _, _, _, _, _, _⟩, q3, q2, q, rfl, hh, k3, k2, k1, rfl⟩
        | snoc q4 h4 k4 => simp at hl
end

/-- Behind a section that was handed over. -/
theorem si_next {w0 w W : World} {b : List UInt8} {n0 X g Bn q p n k : Nat} {pre : List Sx} (h : SI n0 X pre W) (hT : ST w0 w g X Bn b (pre ++ [.ok q p n]) W) (hk : pre.length = k) (h3 : k < 3) (hX : w0.heap.size ≤ X) (hn : w0.heap.size ≤ n0) (hw : w.heap.size ≤ n0) (hB : n0 + 2 < Bn) (z : Int) (hz : z = (k : Int) + 1) :
    KeepsOthers W ((W.setCell ⟨X, k, none⟩ (.pointer (some ⟨q, 0, none⟩))).setCell ⟨n0 + 2, 0, none⟩ (.int .i64 z)).drew ∧
    SI n0 X (pre ++ [.ok q p n]) ((W.setCell ⟨X, k, none⟩ (.pointer (some ⟨q, 0, none⟩))).setCell ⟨n0 + 2, 0, none⟩ (.int .i64 z)).drew ∧
    ST w0 w g X Bn b (pre ++ [.ok q p n]) ((W.setCell ⟨X, k, none⟩ (.pointer (some ⟨q, 0, none⟩))).setCell ⟨n0 + 2, 0, none⟩ (.int .i64 z)).drew := by
  subst hz
  have hlt := h.lt
  refine ⟨(KeepsOthers.setCell _ _ _).trans ((KeepsOthers.setCell _ _ _).trans (KeepsOthers.drew _)), ⟨?_, ?_, ?_, ?_, hlt⟩, ?_⟩
  · exact ((h.b0.far (p := ⟨X, k, none⟩) (by show n0 ≠ X; omega) _).far (p := ⟨n0 + 2, 0, none⟩) (by show n0 ≠ n0 + 2; omega) _).drew
  · exact ((h.b1.far (p := ⟨X, k, none⟩) (by show n0 + 1 ≠ X; omega) _).far (p := ⟨n0 + 2, 0, none⟩) (by show n0 + 1 ≠ n0 + 2; omega) _).drew
  · have := ((h.b2.far (p := ⟨X, k, none⟩) (by show n0 + 2 ≠ X; omega) (.pointer (some ⟨q, 0, none⟩))).set_ 0 (.int .i64 ((k : Int) + 1))).drew
    rw [List.length_append, hk]
    exact this
  · have := ((h.bx.set_ k (.pointer (some ⟨q, 0, none⟩))).far (p := ⟨n0 + 2, 0, none⟩) (by show X ≠ n0 + 2; omega) (.int .i64 ((k : Int) + 1))).drew
    match pre, k, hk, h3 with
    | [], _, rfl, _ => exact this
    | [_], _, rfl, _ => exact this
    | [_, _], _, rfl, _ => exact this
  · obtain ⟨a, h1, h2, h4, h5⟩ := hT
    have e1 : W.grownBy (W.setCell ⟨X, k, none⟩ (.pointer (some ⟨q, 0, none⟩))) (some X) := only_setCell (only_refl _ _) rfl _
    have s1 := h2.turn e1 hX h.bx (by decide) (by decide) (by decide)
    have b2 := h.b2.grown e1 (fun e => by injection e with e; omega)
    have e2 : (W.setCell ⟨X, k, none⟩ (.pointer (some ⟨q, 0, none⟩))).grownBy ((W.setCell ⟨X, k, none⟩ (.pointer (some ⟨q, 0, none⟩))).setCell ⟨n0 + 2, 0, none⟩ (.int .i64 ((k : Int) + 1))).drew (some (n0 + 2)) := only_drew (only_setCell (only_refl _ _) rfl _)
    have s2 := s1.turn e2 (by omega) b2 (by decide) (by decide) (by decide)
    exact ⟨a, h1, s2, (h4.grown e1 (fun e => by injection e with e; omega)).grown e2 (fun e => by injection e with e; omega), (h5.at_x e1).far e2 (by omega)⟩
/-- Behind a fault that was handed over. -/
theorem si_fault {w0 w W : World} {b : List UInt8} {n0 g X fb : Nat} {c y : Int} {pre xs : List Sx} (h : SI n0 X pre W) (hs : SplitFault b c y) (hT : St w0 W [] [⟨fb, c, y⟩]) (hK : Keep w g X W) (hn : w0.heap.size ≤ n0) (hw : w.heap.size ≤ n0) :
    KeepsOthers W (W.setCell ⟨n0 + 1, 0, none⟩ (.iface 94 (.pointer (some ⟨fb, 0, none⟩)))) ∧ SIx w0 w g X b n0 .ret xs (W.setCell ⟨n0 + 1, 0, none⟩ (.iface 94 (.pointer (some ⟨fb, 0, none⟩)))) := by
  have e1 : W.grownBy (W.setCell ⟨n0 + 1, 0, none⟩ (.iface 94 (.pointer (some ⟨fb, 0, none⟩)))) (some (n0 + 1)) := only_setCell (only_refl _ _) rfl _
  exact ⟨KeepsOthers.setCell _ _ _, rfl, fb, c, y, h.b1.set_ 0 _, hs, hT.turn e1 (by omega) h.b1 (by decide) (by decide) (by decide), hK.far e1 (by omega)⟩

theorem secs_results {tmps : Array Value} {W : World} {tb : Nat} {v : Value} (hp : tmps.getD 4 undef = .pointer (some ⟨tb, 0, none⟩)) (hb : Blk W tb 43 #[v]) :
    (results Tryz.f54 tmps).run Tryz.prog W = .ok v W := by
  have hc := hb.cell 0
  have hp' : tmps[4]?.getD undef = .pointer (some ⟨tb, 0, none⟩) := by simpa using hp
  simp [results, Tryz.results54, hp', go_sem, hc]
theorem put_own {W : World} {D B : Nat} (hD : B ≤ D) (hK : W.heap[D]? = some (.deferred (some []))) : W.grownBy (W.putObj D (.deferred none)) (some D) ∧ ∀ r, some D = some r → B ≤ r ∧ ∃ o : Obj, W.heap[r]? = some o ∧ o.isCells = false :=
  ⟨grownBy_putObj' W D _, fun r e => by injection e with e; subst e; exact ⟨hD, _, hK, rfl⟩⟩

set_option maxRecDepth 100000 in
set_option maxHeartbeats 2000000 in
theorem takeSections_any {w0 w : World} {g X : Nat} {b : List UInt8} (h : St w0 w [⟨g, b, 5, 0⟩] []) (hh : HeadOk b) (hX : Blk w X 55 #[.pointer none, .pointer none, .pointer none]) (hX0 : w0.heap.size ≤ X) :
    Calls Tryz.prog 54 #[.pointer (some ⟨g, 0, none⟩), .pointer (some ⟨X, 0, none⟩)] w fun e w' =>
      (e = .returned .nilIface ∧ ∃ (x : Parts) (a q1 q2 q3 : Nat), Three b x a ∧
        St w0 w' [⟨g, b, a, 0⟩, ⟨q3, cut b x.p3 x.n3, 0, x.p3⟩, ⟨q2, cut b x.p2 x.n2, 0, x.p2⟩, ⟨q1, cut b x.p1 x.n1, 0, x.p1⟩] [] ∧ Blk w' X 55 #[.pointer (some ⟨q1, 0, none⟩), .pointer (some ⟨q2, 0, none⟩), .pointer (some ⟨q3, 0, none⟩)] ∧ Keep w g X w') ∨
      (∃ fb c y, e = .returned (.iface 94 (.pointer (some ⟨fb, 0, none⟩))) ∧ SplitFault b c y ∧ St w0 w' [] [⟨fb, c, y⟩] ∧ Keep w g X w') := by
  refine (callsIn_wide (n := 3)).1 ?_
  refine callsIn_of_wp_marks Tryz.func54 rfl trivial ?_ rfl
  simp only [Tryz.ntmps54, List.size_toArray, List.length_cons, List.length_nil, Nat.reduceAdd, Nat.reduceSub, Array.replicate_succ, Array.replicate_zero, List.push_toArray, List.append_toArray, List.nil_append, List.cons_append]
  gi_wp2_with (refine ⟨trivial, ?_⟩; gi_at_call 124; refine (callsIn_wide.2 (sections_any _ _)).mono ?_; rintro e w' ⟨rfl, rfl⟩)
  have hgl : g < w.heap.size := h.head.lt
  have hXl := hX.lt
  have hw0 := h.step.size
  have hSI : SI w.heap.size X [] ((((w.alloc (.cells #[.pointer (some ⟨X, 0, none⟩)] 107)).alloc (.cells #[.nilIface] 43)).alloc (.cells #[.int .i64 0] 3)).alloc (.cells #[.pointer (some ⟨g, 0, none⟩)] 54)) :=
    ⟨(((Blk.new w _ _).alloc _).alloc _).alloc _, ((Blk.new' (by simp) _ _).alloc _).alloc _, (Blk.new' (by simp) _ _).alloc _, (((hX.alloc _).alloc _).alloc _).alloc _, hXl⟩
  have hST : ST w0 w g X (w.heap.size + 3) b [] ((((w.alloc (.cells #[.pointer (some ⟨X, 0, none⟩)] 107)).alloc (.cells #[.nilIface] 43)).alloc (.cells #[.int .i64 0] 3)).alloc (.cells #[.pointer (some ⟨g, 0, none⟩)] 54)) :=
    ⟨5, .start hh, h.none_ (only_alloc (only_alloc (only_alloc (only_alloc (only_refl w none) _) _) _) _), Blk.new' (by simp) _ _, (Keep.refl w g X).new (only_alloc (only_alloc (only_alloc (only_alloc (only_refl w none) _) _) _) _)⟩
  have hz : ((((w.alloc (.cells #[.pointer (some ⟨X, 0, none⟩)] 107)).alloc (.cells #[.nilIface] 43)).alloc (.cells #[.int .i64 0] 3)).alloc (.cells #[.pointer (some ⟨g, 0, none⟩)] 54)).heap.size = w.heap.size + 4 := by simp
  have hbo : w0.heap.size ≤ ((((w.alloc (.cells #[.pointer (some ⟨X, 0, none⟩)] 107)).alloc (.cells #[.nilIface] 43)).alloc (.cells #[.int .i64 0] 3)).alloc (.cells #[.pointer (some ⟨g, 0, none⟩)] 54)).heap.size := by rw [hz]; omega
  clear h hX
  refine wpIn_rangeFunc_hands rfl (by omega) (gf := 170) (lb := #[.pointer (some ⟨w.heap.size + 3, 0, none⟩)]) rfl trivial (enters_of Tryz.func170 (by kernel_rfl) rfl)
    (sections_in w0 w g X (w.heap.size + 3) b (by omega)) ssp_keeps (fun x => by cases x <;> rfl) (st_own hbo) (stm_own hbo)
    (SI w.heap.size X) (SIx w0 w g X b w.heap.size) si_own (six_own hbo) si_step hSI hST
    (fun x => { tmps := #[.pointer (some ⟨g, 0, none⟩), .pointer (some ⟨X, 0, none⟩), undef, .pointer (some ⟨w.heap.size, 0, none⟩), .pointer (some ⟨w.heap.size + 1, 0, none⟩), .pointer (some ⟨w.heap.size + 1 + 1, 0, none⟩), (sxArgs x).getD 0 undef, (sxArgs x).getD 1 undef, .pointer (some ⟨g, 0, none⟩), .func (.func 170) #[] #[.pointer (some ⟨w.heap.size + 1 + 1 + 1, 0, none⟩)], (sxArgs x).getD 0 undef, (sxArgs x).getD 1 undef, undef, undef, undef, undef, undef, undef, undef, undef, undef, undef], defers := [] }) ?assign ?body ?done ?stop
  case assign =>
    intro l x W K hK
    cases x <;> (gi_wp2; exact hK)
  case body =>
    rintro l pre x W hI ⟨hl3, hm⟩
    cases x with
    | bad fb =>
      obtain ⟨a, c, y, hp, hf, hs, hkp⟩ := hm
      have HF := Lib.hid (si_fault (xs := pre ++ [.bad fb]) hI (pos_fault hp hl3 hf) hs hkp hw0 (Nat.le_refl _))
      have c1 := hI.b1.cell 0
      have f1 := hI.b1.frozen 0
      clear hI hp hf hs hkp
      gi_wp2
      exact ⟨HF.out.1.from _, HF.out.2⟩
    | ok q p n =>
      have hk : pre.length = 0 ∨ pre.length = 1 ∨ pre.length = 2 := by omega
      have c0 := hI.b0.cell 0
      have c2 := hI.b2.cell 0
      have f2 := hI.b2.frozen 0
      have hmx : Tryz.prog.follows .mixedOrders = true := by kernel_rfl
      rcases hk with hk | hk | hk
      · have cx := hI.bx.cell 0
        have fx := hI.bx.frozen 0
        rw [hk] at c2
        have HN := Lib.hid (si_next hI hm hk (by omega) hX0 hw0 (Nat.le_refl _) (by omega) 1 (by decide))
        clear hI hm hl3 hk
        gi_wp2_with fail
        gi_region_with_o fail
        all_goals gi_wp2
        all_goals exact ⟨HN.out.1.from _, trivial, HN.out.2⟩
      · have cx := hI.bx.cell 1
        have fx := hI.bx.frozen 1
        rw [hk] at c2
        have HN := Lib.hid (si_next hI hm hk (by omega) hX0 hw0 (Nat.le_refl _) (by omega) 2 (by decide))
        clear hI hm hl3 hk
        gi_wp2_with fail
        gi_region_with_o fail
        all_goals gi_wp2
        all_goals exact ⟨HN.out.1.from _, trivial, HN.out.2⟩
      · have cx := hI.bx.cell 2
        have fx := hI.bx.frozen 2
        rw [hk] at c2
        have HN := Lib.hid (si_next hI hm hk (by omega) hX0 hw0 (Nat.le_refl _) (by omega) 3 (by decide))
        clear hI hm hl3 hk
        gi_wp2_with fail
        gi_region_with_o fail
        all_goals gi_wp2
        all_goals exact ⟨HN.out.1.from _, trivial, HN.out.2⟩
  case done =>
    rintro D xs W hD hS hI hT hK
    have c1 := hI.b1.cell 0
    have f1 := hI.b1.frozen 0
    have e1 : W.grownBy (W.setCell ⟨w.heap.size + 1, 0, none⟩ .nilIface) (some (w.heap.size + 1)) := only_setCell (only_refl _ _) rfl _
    have hK1 := (KeepsOthers.setCell W ⟨w.heap.size + 1, 0, none⟩ .nilIface).same D _ hK rfl
    have b1 := hI.b1.set_ 0 .nilIface
    have bx := hI.bx.grown e1 (fun e => by injection e with e; omega)
    obtain ⟨a, hp, hst, _, hkp⟩ := hT
    have hkp1 := hkp.far e1 (by omega)
    have hst1 := hst.turn e1 (by omega) hI.b1 (by decide) (by decide) (by decide)
    obtain ⟨g1, g2⟩ := put_own hD hK1
    have b1' := b1.own g1 (fun r e => (g2 r e).2)
    have bx' := bx.own g1 (fun r e => (g2 r e).2)
    have hst2 := hst1.own g1 (fun r e => ⟨Nat.le_trans hbo (g2 r e).1, (g2 r e).2⟩)
    have HP := Lib.hid (pos_three hp hS)
    have HK := Lib.hid (hkp1.own g1 (fun r e => (g2 r e).2))
    have HS := Lib.hid hst2
    have HX := Lib.hid bx'
    clear hkp hkp1 hI hp hst hst1 hst2 bx bx' e1 b1 g1 g2 hK hS
    gi_wp2
    refine ⟨by simp, .inl ⟨_, _, rfl, run_takeDeferred hK1, ?_⟩⟩
    obtain ⟨x, q1, q2, q3, rfl, h3⟩ := HP.out
    exact ⟨_, secs_results rfl b1', .inl ⟨rfl, x, a, q1, q2, q3, h3, HS.out, HX.out, HK.out⟩⟩
  case stop =>
    rintro D c xs W hD ⟨rfl, fb, c, y, b1, hs, hst, hkp⟩ hK
    obtain ⟨g1, g2⟩ := put_own hD hK
    have b1' := b1.own g1 (fun r e => (g2 r e).2)
    have hst2 := hst.own g1 (fun r e => ⟨Nat.le_trans hbo (g2 r e).1, (g2 r e).2⟩)
    have HS := Lib.hid hst2
    have HF := Lib.hid hs
    have HK := Lib.hid (hkp.own g1 (fun r e => (g2 r e).2))
    clear hkp hst hst2 b1 g1 g2 hs
    gi_wp2
    refine ⟨by simp, .inl ⟨_, _, rfl, run_takeDeferred hK, ?_⟩⟩
    exact ⟨_, secs_results rfl b1', .inr ⟨fb, c, y, rfl, HF.out, HS.out, HK.out⟩⟩
end Go.Proofs.YtohhojbeclbedaaGreatDoor

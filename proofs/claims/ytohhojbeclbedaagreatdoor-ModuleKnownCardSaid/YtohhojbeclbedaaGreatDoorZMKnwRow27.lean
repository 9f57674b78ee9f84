/- Texts joined for the claim's sake: JRed, MRdA, MRdB. -/
import Derived.Test.YtohhojbeclbedaaGreatDoorZMKnwRow24
import Derived.Test.YtohhojbeclbedaaGreatDoorZMKnwRow26
import Derived.Test.YtohhojbeclbedaaGreatDoorZMKnwRow21
namespace Go.Proofs.YtohhojbeclbedaaGreatDoor.J
open Go.RowKit Go.Shelf
attribute [local go_sem] Oper.semAt_some

def zI : Array Value := #[.int .i64 0, .int .i64 0, .int .i64 0, .int .i64 0, .int .i64 0, .slice none 0 0]
/-- What Read answers. -/
def SaysI (g : Nat) (bs : List UInt8) (bg : Nat) (w : World) (r : Rs Ins) (e : Ending) (w' : World) : Prop := match r with
  | .ok x b => ∃ s : Sg, s.ins x.op = x ∧ e = .returned (.tuple #[.agg (s.cells x.op), .nilIface]) ∧ IntsA (fun k => w.heap.size ≤ k ∧ k < w'.heap.size ∧ k ≠ g) w' s.lv s.l ∧ w.grownBy w' (some g) ∧ Rdr w' g bs b bg
  | .flt c y b => ∃ fb, e = .returned (.tuple #[.agg zI, .iface 94 (.pointer (some ⟨fb, 0, none⟩))]) ∧ Flt w' fb c ((bg : Int) + (y : Int)) ∧ w.heap.size ≤ fb ∧ w.grownBy w' (some g) ∧ Rdr w' g bs b bg
theorem read_res {tmps : Array Value} {W : World} {n1 n2 : Nat} {c0 c1 c2 c3 c4 c5 v : Value} (h2 : tmps.getD 2 undef = .pointer (some ⟨n1, 0, none⟩)) (h3 : tmps.getD 3 undef = .pointer (some ⟨n2, 0, none⟩)) (hb : Blk W n1 52 #[c0, c1, c2, c3, c4, c5]) (hc : Blk W n2 43 #[v]) :
    (results Tryz.f165 tmps).run Tryz.prog W = .ok (.tuple #[.agg #[c0, c1, c2, c3, c4, c5], v]) W := by
  have h2' : tmps[2]?.getD undef = .pointer (some ⟨n1, 0, none⟩) := by simpa using h2
  have h3' : tmps[3]?.getD undef = .pointer (some ⟨n2, 0, none⟩) := by simpa using h3
  have k0 := hb.cell 0
  have k1 := hb.cell 1
  have k2 := hb.cell 2
  have k3 := hb.cell 3
  have k4 := hb.cell 4
  have k5 := hb.cell 5
  have kv := hc.cell 0
  simp [results, Tryz.results165, h2', h3', go_sem, k0, k1, k2, k3, k4, k5, kv]

/-- Read's results are stored. -/
abbrev putR (W : World) (n1 n2 : Nat) (c0 c1 c2 c3 c4 c5 v : Value) : World :=
  ((((((W.setCell ⟨n1, 0, none⟩ c0).setCell ⟨n1, 1, none⟩ c1).setCell ⟨n1, 2, none⟩ c2).setCell ⟨n1, 3, none⟩ c3).setCell ⟨n1, 4, none⟩ c4).setCell ⟨n1, 5, none⟩ c5).setCell ⟨n2, 0, none⟩ v
/-- What stands as Read leaves. -/
structure RdE (w : World) (g n1 n2 : Nat) (bs : List UInt8) (bg : Nat) (a : Nat) (cs : Array Value) (v : Value) (W : World) : Prop where
  r1 : Blk W n1 52 cs
  r2 : Blk W n2 43 #[v]
  st : w.grownBy W (some g)
  rd : Rdr W g bs a bg
theorem RdE.own {w W W' : World} {g n1 n2 a : Nat} {bs : List UInt8} {bg : Nat} {cs : Array Value} {v : Value} {row : Option Nat} (h : RdE w g n1 n2 bs bg a cs v W) (hg : W.grownBy W' row) (hr : ∀ r, row = some r → w.heap.size ≤ r ∧ ∃ o : Obj, W.heap[r]? = some o ∧ o.isCells = false) : RdE w g n1 n2 bs bg a cs v W' := by
  have hr2 := fun r e => (hr r e).2
  refine ⟨h.r1.own hg hr2, h.r2.own hg hr2, ?_, h.rd.own hg hr2⟩
  cases row with
  | none => exact only_trans h.st (only_weak hg _)
  | some k => exact only_new' h.st hg (hr k rfl).1
theorem set_row {X W : World} {n : Nat} (h : X.grownBy W (some n)) (i : Nat) (v : Value) : X.grownBy (W.setCell ⟨n, i, none⟩ v) (some n) := only_setCell (p := ⟨n, i, none⟩) h rfl v
theorem putR_end {w W : World} {g nb n1 n2 a : Nat} {bs : List UInt8} {bg : Nat} (h : RdM w g nb n1 n2 bs bg a W) (g1 : w.heap.size ≤ n1) (g2 : w.heap.size ≤ n2) (c0 c1 c2 c3 c4 c5 v : Value) :
    RdE w g n1 n2 bs bg a #[c0, c1, c2, c3, c4, c5] v (putR W n1 n2 c0 c1 c2 c3 c4 c5 v) ∧
    (∀ p u, W.cell? p = some u → p.block ≠ n1 → p.block ≠ n2 → (putR W n1 n2 c0 c1 c2 c3 c4 c5 v).cell? p = some u) ∧
    (∀ k t cs, Blk W k t cs → k ≠ n1 → k ≠ n2 → Blk (putR W n1 n2 c0 c1 c2 c3 c4 c5 v) k t cs) ∧ W.heap.size ≤ (putR W n1 n2 c0 c1 c2 c3 c4 c5 v).heap.size := by
  have hne : n2 ≠ n1 := Blk.ne_ h.r2 h.r1 (by decide)
  have ha : W.grownBy (((((((W.setCell ⟨n1, 0, none⟩ c0).setCell ⟨n1, 1, none⟩ c1).setCell ⟨n1, 2, none⟩ c2).setCell ⟨n1, 3, none⟩ c3).setCell ⟨n1, 4, none⟩ c4).setCell ⟨n1, 5, none⟩ c5)) (some n1) :=
    set_row (set_row (set_row (set_row (set_row (set_row (only_refl W (some n1)) 0 c0) 1 c1) 2 c2) 3 c3) 4 c4) 5 c5
  have b1 := (((((h.r1.set_ 0 c0).set_ 1 c1).set_ 2 c2).set_ 3 c3).set_ 4 c4).set_ 5 c5
  unfold putR
  generalize ((((((W.setCell ⟨n1, 0, none⟩ c0).setCell ⟨n1, 1, none⟩ c1).setCell ⟨n1, 2, none⟩ c2).setCell ⟨n1, 3, none⟩ c3).setCell ⟨n1, 4, none⟩ c4).setCell ⟨n1, 5, none⟩ c5) = Wa at ha b1 ⊢
  have b1' : Blk Wa n1 52 #[c0, c1, c2, c3, c4, c5] := b1
  obtain ⟨cg, hbg⟩ := h.rd.blk
  have hgn1 : g ≠ n1 := Blk.ne_ hbg h.r1 (by decide)
  have hgn2 : g ≠ n2 := Blk.ne_ hbg h.r2 (by decide)
  have b2 := h.r2.grown ha (fun e => hne (by injection e))
  have hb : Wa.grownBy (Wa.setCell ⟨n2, 0, none⟩ v) (some n2) := only_setCell (only_refl _ _) rfl _
  refine ⟨⟨b1'.grown hb (fun e => hne (by injection e with e; exact e.symm)), b2.set_ 0 v, only_new' (only_new' h.st ha g1) hb g2, ?_⟩, fun p u hp k1 k2 => cell_row (cell_row hp ha (fun e => k1 (by injection e))) hb (fun e => k2 (by injection e)), fun k t cs hk k1 k2 => (hk.grown ha (fun e => k1 (by injection e))).grown hb (fun e => k2 (by injection e)), Nat.le_trans ha.size hb.size⟩
  refine (h.rd.grown ha (fun e => hgn1 (by injection e)) (fun k e => by injection e with e; subst e; exact ⟨_, _, h.r1, by decide⟩)).grown hb (fun e => hgn2 (by injection e)) (fun k e => by injection e with e; subst e; exact ⟨_, _, b2, by decide⟩)

def rdX (w : World) (g n1 n2 : Nat) (bs : List UInt8) (bg : Nat) (res : Rs Ins) (c : Code) (_ : List Ev) (W : World) : Prop := c = .ret ∧ ∃ (cd : Int) (y b fb : Nat), res = .flt cd y b ∧ Flt W fb cd ((bg : Int) + (y : Int)) ∧ w.heap.size ≤ fb ∧ RdE w g n1 n2 bs bg b zI (.iface 94 (.pointer (some ⟨fb, 0, none⟩))) W
theorem rdX_own {w : World} {g n1 n2 B : Nat} {bs : List UInt8} {bg : Nat} {res : Rs Ins} (hB : w.heap.size ≤ B) (c : Code) : OwnFrom B (rdX w g n1 n2 bs bg res c) := fun _ _ _ row h hg hr => by
  obtain ⟨h1, cd, y, b, fb, h2, h3, h4, h5⟩ := h
  exact ⟨h1, cd, y, b, fb, h2, Blk.own h3 hg (fun r e => (hr r e).2), h4, h5.own hg (fun r e => ⟨Nat.le_trans hB (hr r e).1, (hr r e).2⟩)⟩
theorem ints_below {S : Nat → Prop} {W : World} {v : Value} {zs : List Int} (h : IntsA S W v zs) : IntsA (fun b => b < W.heap.size) W v zs := by
  obtain ⟨A, c, h1, h2⟩ := h
  refine ⟨A, c, h1, fun hn => ?_⟩
  obtain ⟨b, off, h3, _, h5⟩ := h2 hn
  refine ⟨b, off, h3, ?_, h5⟩
  obtain ⟨z, hz⟩ : ∃ z, zs[0]? = some z := by
    cases zs with
    | nil => exact absurd rfl hn
    | cons z _ => exact ⟨z, rfl⟩
  have h6 := h5 0 z hz
  show b < W.heap.size
  rcases Nat.lt_or_ge b W.heap.size with hl | hl
  · exact hl
  · unfold World.cell? at h6
    rw [Array.getElem?_eq_none hl] at h6
    simp at h6
theorem keeps_put (W : World) (n1 n2 : Nat) (c0 c1 c2 c3 c4 c5 v : Value) : KeepsOthers W (putR W n1 n2 c0 c1 c2 c3 c4 c5 v) :=
  (((((((KeepsOthers.setCell _ _ _).trans (KeepsOthers.setCell _ _ _)).trans (KeepsOthers.setCell _ _ _)).trans (KeepsOthers.setCell _ _ _)).trans (KeepsOthers.setCell _ _ _)).trans (KeepsOthers.setCell _ _ _)).trans (KeepsOthers.setCell _ _ _))
theorem keeps_g {W W1 : World} {g a : Nat} {bs : List UInt8} {bg : Nat} (h : Rdr W g bs a bg) (hg : W.grownBy W1 (some g)) (p : Addr) (v : Value) : KeepsOthers W (W1.setCell p v) := by
  obtain ⟨cs, hb⟩ := h.blk
  refine (KeepsOthers.of_grownBy hg (fun j o e ho => ?_)).trans (KeepsOthers.setCell _ _ _)
  injection e with e
  subst e
  unfold Blk at hb
  rw [hb] at ho
  cases ho
  rfl

set_option maxRecDepth 100000 in
set_option maxHeartbeats 4000000 in
theorem read_any {w : World} {g a : Nat} {bs : List UInt8} {bg : Nat} (h : Rdr w g bs a bg) :
    Calls Tryz.prog 165 #[.pointer (some ⟨g, 0, none⟩)] w (SaysI g bs bg w (readI bs a)) := by
  refine (callsIn_wide (n := 3)).1 ?_
  refine callsIn_of_wp_marks Tryz.func165 rfl trivial ?_ rfl
  simp only [Tryz.ntmps165, List.size_toArray, List.length_cons, List.length_nil, Nat.reduceAdd, Nat.reduceSub, Array.replicate_succ, Array.replicate_zero, List.push_toArray, List.append_toArray, List.nil_append, List.cons_append]
  have h0 : w.grownBy (((w.alloc (.cells #[.pointer (some ⟨g, 0, none⟩)] 54)).alloc (.cells zI 52)).alloc (.cells #[.nilIface] 43)) none := only_alloc (only_alloc (only_alloc (only_refl _ _) _) _) _
  have hM0 : RdM w g w.heap.size (w.heap.size + 1) (w.heap.size + 1 + 1) bs bg a (((w.alloc (.cells #[.pointer (some ⟨g, 0, none⟩)] 54)).alloc (.cells zI 52)).alloc (.cells #[.nilIface] 43)) :=
    ⟨h.kept h0, ((Blk.new w _ _).alloc _).alloc _, (blk_new_at (by simp) _ _).alloc _, blk_new_at (by simp) _ _, only_weak h0 _⟩
  have hgl := h.lt
  have hpl := place_step hM0.rd
  have c0 := hM0.bx.cell 0
  have HM0 := Lib.hid hM0
  clear h h0 hM0
  unfold zI at *
  gi_upto_region 2 with (refine ⟨trivial, ?_⟩; gi_at_call 110; refine (callsIn_wide.2 hpl).mono ?_; rintro e w1 ⟨rfl, hg1⟩; have c1 := (HM0.out.none_ hg1).bx.cell 0)
  have HM1 := Lib.hid (HM0.out.none_ hg1)
  clear hg1 hpl c0
  have hle := HM1.out.rd.le
  cases hu : bs[a]? with
  | none =>
    have hal : a = bs.length := by
      have := List.getElem?_eq_none_iff.1 hu
      omega
    have hri : Hid (readI bs a = .flt 3 a a) := by
      show readI bs a = _
      unfold readI; rw [hu]
    have HB := byte_short HM1.out.rd hal
    gi_upto_region 4 with (refine ⟨trivial, ?_⟩; gi_at_call 169; refine (callsIn_wide.2 HB).mono ?_; rintro e w2 ⟨fb, rfl, hf, hge, hg2⟩)
    have hM2 := HM1.out.none_ hg2
    have hPE := Lib.hid (putR_end hM2 (by omega) (by omega) (.int .i64 0) (.int .i64 0) (.int .i64 0) (.int .i64 0) (.int .i64 0) (.slice none 0 0) (.iface 94 (.pointer (some ⟨fb, 0, none⟩))))
    have x0 := hM2.r1.cell 0
    have x1 := hM2.r1.cell 1
    have x2 := hM2.r1.cell 2
    have x3 := hM2.r1.cell 3
    have x4 := hM2.r1.cell 4
    have x5 := hM2.r1.cell 5
    have y0 := hM2.r1.frozen 0
    have y1 := hM2.r1.frozen 1
    have y2 := hM2.r1.frozen 2
    have y3 := hM2.r1.frozen 3
    have y4 := hM2.r1.frozen 4
    have y5 := hM2.r1.frozen 5
    have e0 := hM2.r2.cell 0
    have e1 := hM2.r2.frozen 0
    have HF := Lib.hid (hPE.out.2.2.1 _ _ _ hf (Blk.ne_ hf hM2.r1 (by decide)) (Blk.ne_ hf hM2.r2 (by decide)))
    have hge' : w.heap.size ≤ fb := Nat.le_trans HM1.out.st.size hge
    clear hf hge hg2 hM2 HB
    gi_wp2_with fail
    refine ret_unmarked (read_res rfl rfl hPE.out.1.r1 hPE.out.1.r2) ?_
    rw [hri.out]
    exact ⟨fb, rfl, HF.out, hge', hPE.out.1.st, hPE.out.1.rd⟩
  | some u =>
    have HB := byte_ok HM1.out.rd u hu
    obtain ⟨op, hop⟩ : ∃ op : Int, (u.toNat : Int) = op := ⟨_, rfl⟩
    have hri : Hid (readI bs a = fin a (opsR (clI op) op bs (a + 1))) := by
      show readI bs a = _
      unfold readI
      rw [hu, ← hop]
      have : clI (u.toNat : Int) = clN u.toNat := by
        unfold clI
        rw [if_neg (by omega)]
        rfl
      rw [this]
    have hu8 := u.toNat_lt
    have hop0 : 0 ≤ op := by omega
    have hop1 : op < 256 := by omega
    rw [hop] at HB
    clear hop hu8 hu
    gi_upto_region 6 with (refine ⟨trivial, ?_⟩; gi_at_call 169; refine (callsIn_wide.2 HB).mono ?_; rintro e w2 ⟨rfl, hg2, hr2⟩)
    have hM2 := HM1.out.move hg2 hr2
    clear HB hg2 hr2
    have hg3 : w2.grownBy (w2.alloc (.cells #[.int .i64 op, .int .i64 0, .int .i64 0, .int .i64 0, .int .i64 0, .slice none 0 0] 52)) none := only_alloc (only_refl _ _) _
    have hM3 := hM2.none_ hg3
    have hx3 := Blk.new w2 52 #[.int .i64 op, .int .i64 0, .int .i64 0, .int .i64 0, .int .i64 0, .slice none 0 0]
    have hxge : w.heap.size ≤ w2.heap.size := hM2.st.size
    have hxn : w2.heap.size ≠ w.heap.size + 1 := by have := hM2.r1.lt; omega
    clear hM2 hg3
    generalize w2.alloc (.cells #[.int .i64 op, .int .i64 0, .int .i64 0, .int .i64 0, .int .i64 0, .slice none 0 0] 52) = W3 at *
    generalize w2.heap.size = xb at *
    gi_wp2_with (refine ⟨trivial, ?_⟩; gi_at_call 133; refine (callsIn_wide.2 (operands_any _ _)).mono ?_; rintro e w' ⟨rfl, rfl⟩)
    have hg4 : W3.grownBy (W3.alloc (.cells #[.pointer (some ⟨xb, 0, none⟩)] 195)) none := only_alloc (only_refl _ _) _
    have hM4 := hM3.none_ hg4
    have hM : Mem (fun b => w.heap.size ≤ b ∧ b ≠ xb) W3.heap.size xb op ⟨0, 0, 0, 0, .slice none 0 0, []⟩ (W3.alloc (.cells #[.pointer (some ⟨xb, 0, none⟩)] 195)) :=
      ⟨Blk.new _ _ _, hx3.alloc _, ⟨none, 0, rfl, fun h => absurd rfl h⟩, by simp⟩
    have hsz : w.heap.size ≤ (W3.alloc (.cells #[.pointer (some ⟨xb, 0, none⟩)] 195)).heap.size := hM4.st.size
    have hb0g : w.heap.size ≤ W3.heap.size := hM3.st.size
    have hxl := hx3.lt
    clear hM3 hx3 hg4
    generalize W3.alloc (.cells #[.pointer (some ⟨xb, 0, none⟩)] 195) = W0 at *
    generalize W3.heap.size = b0 at *
    obtain ⟨res, hres⟩ : ∃ res, opsR (clI op) op bs (a + 1) = res := ⟨_, rfl⟩
    have ok := rd_ok (w0 := w) (g := g) (bg := bg) (nb := w.heap.size) (n1 := w.heap.size + 1) (n2 := w.heap.size + 1 + 1) (bs := bs) (b0 := b0) (xb := xb) (op := op) (lv0 := .slice none 0 0) (res := res) (B := W0.heap.size) hxge hxn hsz
    have hT0 : (rdI w g w.heap.size (w.heap.size + 1) (w.heap.size + 1 + 1) bs bg b0 xb op (.slice none 0 0) res).T [] W0 := ⟨_, hM, rfl, rfl, a + 1, hres.symm, hM4⟩
    have HRI : Hid (readI bs a = fin a res) := by
      have := hri.out
      rw [hres] at this
      exact this
    clear hM hM4 hres hri
    refine wpIn_rangeFunc_handsB rfl (by omega) (gf := 176) (lb := #[.pointer (some ⟨b0, 0, none⟩)]) rfl trivial (enters_of Tryz.func176 (by kernel_rfl) rfl)
      (operands_in (rdI w g w.heap.size (w.heap.size + 1) (w.heap.size + 1 + 1) bs bg b0 xb op (.slice none 0 0) res) W0.heap.size ok) sp_keeps (fun _ => rfl) ok.ownT ok.ownEE ok.ownTm
      (fun _ _ => True) (rdX w g (w.heap.size + 1) (w.heap.size + 1 + 1) bs bg res) (fun _ _ _ _ _ _ _ => trivial) (rdX_own hsz) (fun _ _ _ _ _ => trivial) trivial hT0 201 (fun x => #[.pointer x.w, .pointer x.p, .int .i64 x.kd.most, .bool x.kd.reg])
      (fun x b => { tmps := #[.pointer (some ⟨g, 0, none⟩), .pointer (some ⟨w.heap.size, 0, none⟩), .pointer (some ⟨w.heap.size + 1, 0, none⟩), .pointer (some ⟨w.heap.size + 1 + 1, 0, none⟩), .int .i64 ((bg : Int) + (a : Int)), .int .u8 op, .nilIface, .pointer (some ⟨xb, 0, none⟩), .pointer (some ⟨b, 0, none⟩), undef, undef, .pointer (some ⟨g, 0, none⟩), .int .i64 ((bg : Int) + (a : Int)), .tuple #[.int .u8 op, .nilIface], .pointer (some ⟨g, 0, none⟩), .tuple #[.int .u8 op, .nilIface], .int .u8 op, .nilIface, .nilIface, .bool false, undef, undef, .int .u8 op, .int .i64 op, .agg #[.int .i64 op, .int .i64 0, .int .i64 0, .int .i64 0, .int .i64 0, .slice none 0 0], .func (.func 176) #[] #[.pointer (some ⟨b0, 0, none⟩)], .agg #[.pointer x.w, .pointer x.p, .int .i64 x.kd.most, .bool x.kd.reg], undef, undef, undef, undef, undef, undef, undef, undef, undef, undef, undef, undef, undef, undef, undef, undef, undef, undef], defers := [] }) ?assign ?body ?done ?stop
    case assign =>
      intro l x W K hK
      dsimp only
      gi_wp2
      exact hK
    case stop =>
      rintro D c pre W hD ⟨rfl, cd, y, b, fb, hr, hf, hge, hE⟩ hK
      have HR : Hid (readI bs a = .flt cd y b) := by
        have := HRI.out
        rw [hr] at this
        exact this
      have hgo := grownBy_putObj' W D (.deferred none)
      have hro : ∀ r, some D = some r → w.heap.size ≤ r ∧ ∃ o : Obj, W.heap[r]? = some o ∧ o.isCells = false := fun r e => by injection e with e; subst e; exact ⟨by omega, _, hK, rfl⟩
      have HE := Lib.hid (hE.own hgo hro)
      have HF := Lib.hid (Blk.own hf hgo (fun r e => (hro r e).2))
      clear hE hf hgo hro hr
      gi_wp2_with fail
      refine ⟨by simp, .inl ⟨_, _, rfl, run_takeDeferred hK, ?_⟩⟩
      refine ⟨_, read_res rfl rfl HE.out.r1 HE.out.r2, ?_⟩
      rw [HR.out]
      exact ⟨fb, rfl, HF.out, hge, HE.out.st, HE.out.rd⟩
    case done =>
      rintro D xs W hD ⟨s, hM', hE⟩ _ hK
      obtain ⟨dn, a', m, hl, hdn, hr, hm, hlb⟩ := hE
      have hm0 : m = 0 := by
        have := congrArg List.length hl
        rw [List.length_append, List.length_replicate, hdn] at this
        omega
      subst hm0
      have hr' : res = .ok (s.ins op) a' := by
        rw [hr]
        show (Rs.ok ([] : List Int) a').bind _ = _
        rw [Rs.bind_ok, List.append_nil]
        have : dn = s.l := by rw [hl]; simp
        rw [this]; rfl
      have HR : Hid (readI bs a = if chkI (s.ins op) = 0 then .ok (s.ins op) a' else .flt (chkI (s.ins op)) a a') := by
        have := HRI.out
        rw [hr'] at this
        exact this
      have HC := check_any s op W (ints_below hM'.l)
      obtain ⟨A, cp, hlv, _⟩ := id hM'.l
      have hMx : Blk W xb 52 (s.cells op) := hM'.x
      have x0 := hMx.cell 0
      have x1 := hMx.cell 1
      have x2 := hMx.cell 2
      have x3 := hMx.cell 3
      have x4 := hMx.cell 4
      have x5 := hMx.cell 5
      have HX := Lib.hid hMx
      have HLl : Hid (IntsA (fun k => w.heap.size ≤ k ∧ k < W.heap.size ∧ ∃ cs, Blk W k 3 cs) W s.lv s.l) := by
        obtain ⟨A, c, e1, e2⟩ := (ints_below hM'.l)
        refine ⟨A, c, e1, fun hn => ?_⟩
        obtain ⟨b, off, e3, e4, e5⟩ := e2 hn
        obtain ⟨lb, k1, k2, k3⟩ := hlb hn
        rw [k1, e3] at e1
        injection e1 with e1 _ _
        injection e1 with e1
        injection e1 with e1 _ _
        subst e1
        exact ⟨_, off, e3, ⟨k3, e4, _, k2⟩, e5⟩
      have HM := Lib.hid hm
      have HLV := Lib.hid hlv
      simp only [Sg.cells] at x0 x1 x2 x3 x4 x5 HC
      rw [hlv] at x5 HC
      obtain ⟨ck, hck⟩ : ∃ ck, chkI (s.ins op) = ck := ⟨_, rfl⟩
      rw [hck] at HC HR
      clear hM' hMx hl hdn hr hm hlb hr' hlv hck
      gi_upto_region 12 with (refine ⟨trivial, ?_⟩; gi_at_call 132; refine (callsIn_wide.2 HC).mono ?_; rintro e w3 ⟨rfl, hg3⟩)
      have hm3 := HM.out.none_ hg3
      have hx3 := HX.out.kept hg3
      by_cases hc0 : ck = 0
      · subst hc0
        have HR0 : Hid (readI bs a = .ok (s.ins op) a') := HR.out
        have q0 := hx3.cell 0
        have q1 := hx3.cell 1
        have q2 := hx3.cell 2
        have q3 := hx3.cell 3
        have q4 := hx3.cell 4
        have q5 := hx3.cell 5
        have q5b := HLV.out
        simp only [Sg.cells] at q0 q1 q2 q3 q4 q5
        rw [q5b] at q5
        have z0 := hm3.r1.cell 0
        have zf0 := hm3.r1.frozen 0
        have z1 := hm3.r1.cell 1
        have zf1 := hm3.r1.frozen 1
        have z2 := hm3.r1.cell 2
        have zf2 := hm3.r1.frozen 2
        have z3 := hm3.r1.cell 3
        have zf3 := hm3.r1.frozen 3
        have z4 := hm3.r1.cell 4
        have zf4 := hm3.r1.frozen 4
        have z5 := hm3.r1.cell 5
        have zf5 := hm3.r1.frozen 5
        have ze := hm3.r2.cell 0
        have zef := hm3.r2.frozen 0
        have PE := Lib.hid (putR_end hm3 (by omega) (by omega) (.int .i64 op) (.int .i64 s.a) (.int .i64 s.b) (.int .i64 s.c) (.int .i64 s.d) (.slice A s.l.length cp) .nilIface)
        have hK2 := ((KeepsOthers.of_grownBy hg3 (fun j o e _ => by cases e)).trans (keeps_put w3 (w.heap.size + 1) (w.heap.size + 1 + 1) (.int .i64 op) (.int .i64 s.a) (.int .i64 s.b) (.int .i64 s.c) (.int .i64 s.d) (.slice A s.l.length cp) .nilIface)).same D _ hK rfl
        have hgo := grownBy_putObj' (putR w3 (w.heap.size + 1) (w.heap.size + 1 + 1) (.int .i64 op) (.int .i64 s.a) (.int .i64 s.b) (.int .i64 s.c) (.int .i64 s.d) (.slice A s.l.length cp) .nilIface) D (.deferred none)
        have hro : ∀ r, some D = some r → w.heap.size ≤ r ∧ ∃ o : Obj, (putR w3 (w.heap.size + 1) (w.heap.size + 1 + 1) (.int .i64 op) (.int .i64 s.a) (.int .i64 s.b) (.int .i64 s.c) (.int .i64 s.d) (.slice A s.l.length cp) .nilIface).heap[r]? = some o ∧ o.isCells = false := fun r e => by injection e with e; subst e; exact ⟨by omega, _, hK2, rfl⟩
        have HE := Lib.hid (PE.out.1.own hgo hro)
        have HI : Hid (IntsA (fun k => w.heap.size ≤ k ∧ k < ((putR w3 (w.heap.size + 1) (w.heap.size + 1 + 1) (.int .i64 op) (.int .i64 s.a) (.int .i64 s.b) (.int .i64 s.c) (.int .i64 s.d) (.slice A s.l.length cp) .nilIface).putObj D (.deferred none)).heap.size ∧ k ≠ g) ((putR w3 (w.heap.size + 1) (w.heap.size + 1 + 1) (.int .i64 op) (.int .i64 s.a) (.int .i64 s.b) (.int .i64 s.c) (.int .i64 s.d) (.slice A s.l.length cp) .nilIface).putObj D (.deferred none)) s.lv s.l) := by
          obtain ⟨A', c', e1, e2⟩ := HLl.out
          refine ⟨A', c', e1, fun hn => ?_⟩
          obtain ⟨k, off, e3, ⟨e4, e5, cs, e6⟩, e7⟩ := e2 hn
          have e6' := e6.kept hg3
          have hk1 := Blk.ne_ e6' hm3.r1 (by decide)
          have hk2 := Blk.ne_ e6' hm3.r2 (by decide)
          obtain ⟨cg, hbg⟩ := HM.out.rd.blk
          refine ⟨k, off, e3, ⟨e4, Nat.lt_of_lt_of_le (Nat.lt_of_lt_of_le e6'.lt PE.out.2.2.2) hgo.size, Blk.ne_ e6 hbg (by decide)⟩, fun i z hz => cell_own (PE.out.2.1 _ _ (cell_row (e7 i z hz) hg3 (fun e => by cases e)) hk1 hk2) hgo (fun r e => (hro r e).2)⟩
        have HK2 := Lib.hid hK2
        clear hm3 hx3 hg3 hgo hro q5b HC hK2
        gi_wp2_with fail
        refine ⟨by simp, .inl ⟨_, _, rfl, run_takeDeferred HK2.out, ?_⟩⟩
        refine ⟨_, read_res rfl rfl HE.out.r1 HE.out.r2, ?_⟩
        rw [HR0.out]
        refine ⟨s, rfl, ?_, HI.out, HE.out.st, HE.out.rd⟩
        show _ = Ending.returned (.tuple #[.agg (s.cells op), .nilIface])
        unfold Sg.cells
        rw [HLV.out]
      · have HR0 : Hid (readI bs a = .flt ck a a') := by
          have := HR.out
          rw [if_neg hc0] at this
          exact this
        clear HC
        gi_upto_region 13 with fail
        have hg4 : w3.grownBy (w3.alloc (.cells #[.int .i64 ck, .int .i64 ((bg : Int) + (a : Int))] 89)) none := only_alloc (only_refl _ _) _
        have hf4 := Blk.new w3 89 #[.int .i64 ck, .int .i64 ((bg : Int) + (a : Int))]
        have hm4 := hm3.none_ hg4
        obtain ⟨W4, hW4⟩ : ∃ W4, w3.alloc (.cells #[.int .i64 ck, .int .i64 ((bg : Int) + (a : Int))] 89) = W4 := ⟨_, rfl⟩
        rw [hW4] at hg4 hf4 hm4
        have hge : w.heap.size ≤ w3.heap.size := hm3.st.size
        have z0 := hm4.r1.cell 0
        have zf0 := hm4.r1.frozen 0
        have z1 := hm4.r1.cell 1
        have zf1 := hm4.r1.frozen 1
        have z2 := hm4.r1.cell 2
        have zf2 := hm4.r1.frozen 2
        have z3 := hm4.r1.cell 3
        have zf3 := hm4.r1.frozen 3
        have z4 := hm4.r1.cell 4
        have zf4 := hm4.r1.frozen 4
        have z5 := hm4.r1.cell 5
        have zf5 := hm4.r1.frozen 5
        have ze := hm4.r2.cell 0
        have zef := hm4.r2.frozen 0
        have PE := Lib.hid (putR_end hm4 (by omega) (by omega) (.int .i64 0) (.int .i64 0) (.int .i64 0) (.int .i64 0) (.int .i64 0) (.slice none 0 0) (.iface 94 (.pointer (some ⟨w3.heap.size, 0, none⟩))))
        have hK2 := ((KeepsOthers.of_grownBy (only_trans hg3 hg4) (fun j o e _ => by cases e)).trans (keeps_put W4 (w.heap.size + 1) (w.heap.size + 1 + 1) (.int .i64 0) (.int .i64 0) (.int .i64 0) (.int .i64 0) (.int .i64 0) (.slice none 0 0) (.iface 94 (.pointer (some ⟨w3.heap.size, 0, none⟩))))).same D _ hK rfl
        have hgo := grownBy_putObj' (putR W4 (w.heap.size + 1) (w.heap.size + 1 + 1) (.int .i64 0) (.int .i64 0) (.int .i64 0) (.int .i64 0) (.int .i64 0) (.slice none 0 0) (.iface 94 (.pointer (some ⟨w3.heap.size, 0, none⟩)))) D (.deferred none)
        have hro : ∀ r, some D = some r → w.heap.size ≤ r ∧ ∃ o : Obj, (putR W4 (w.heap.size + 1) (w.heap.size + 1 + 1) (.int .i64 0) (.int .i64 0) (.int .i64 0) (.int .i64 0) (.int .i64 0) (.slice none 0 0) (.iface 94 (.pointer (some ⟨w3.heap.size, 0, none⟩)))).heap[r]? = some o ∧ o.isCells = false := fun r e => by injection e with e; subst e; exact ⟨by omega, _, hK2, rfl⟩
        have HE := Lib.hid (PE.out.1.own hgo hro)
        have HF := Lib.hid (Blk.own (PE.out.2.2.1 _ _ _ hf4 (Blk.ne_ hf4 hm4.r1 (by decide)) (Blk.ne_ hf4 hm4.r2 (by decide))) hgo (fun r e => (hro r e).2))
        have HK2 := Lib.hid hK2
        rw [← hW4] at z0 z1 z2 z3 z4 z5 ze zf0 zf1 zf2 zf3 zf4 zf5 zef
        have HW4 := Lib.hid hW4
        clear hm3 hm4 hf4 hx3 hg3 hg4 hgo hro hK2 hW4
        gi_wp2_with fail
        rw [HW4.out]
        clear z0 z1 z2 z3 z4 z5 ze zf0 zf1 zf2 zf3 zf4 zf5 zef
        refine ⟨by simp, .inl ⟨_, _, rfl, run_takeDeferred HK2.out, ?_⟩⟩
        refine ⟨_, read_res rfl rfl HE.out.r1 HE.out.r2, ?_⟩
        rw [HR0.out]
        exact ⟨w3.heap.size, rfl, HF.out, hge, HE.out.st, HE.out.rd⟩
    case body =>
      rintro l pre x W b - hTm hbb hbk
      obtain ⟨q, i, t, cs, a', r, hN⟩ := rd_num hxge hxn hb0g hTm
      have htr : t ≠ 111 := by rcases hN.ht with ⟨rfl, _⟩ | rfl <;> decide
      have o0 := hbk.cell 0
      have o1 := hbk.cell 1
      have o2 := hbk.cell 2
      have o3 := hbk.cell 3
      have cn := hN.h.bx.cell 0
      have hgl2 : b ≠ w.heap.size + 1 := by have := hsz; have hb1 := hN.h.r1.lt; have := Blk.ne_ hbk hN.h.r1 (by decide); exact this
      have HCall : Hid (Calls Tryz.prog 191 #[opV x.w x.p x.kd, .pointer (some ⟨g, 0, none⟩)] W (SaysAt g bs bg ⟨q, i, none⟩ r W)) := by
        obtain ⟨k, ew, ep, kd, td, lv, cb, fb⟩ := x
        rcases hN.fm with ⟨hw, hp, hr⟩ | ⟨hw, hp, hr, hwk⟩
        · dsimp only at hw hp hr ⊢
          rw [hw, hp, hr]
          exact oread_whole hN.h.rd hN.b htr hN.hi kd
        · dsimp only at hw hp hr hwk ⊢
          rw [hw, hp, hr]
          exact oread_num hN.h.rd hN.b htr hN.hi kd hwk
      have HN := Lib.hid hN
      clear hN hTm hbk
      cases r with
      | ok v b' =>
        gi_wp2_with (refine ⟨trivial, ?_⟩; gi_at_call 191; refine (CallsIn.inRound l (callsIn_wide.2 HCall.out)).mono ?_; rintro e w3 ⟨rfl, W1, hg1, hr1, rfl⟩)
        refine ⟨(keeps_g HN.out.h.rd hg1 _ _).from _, trivial, trivial, ?_⟩
        rw [Its.T_snoc]
        exact HN.out.next v b' W1 rfl hg1 hr1
      | flt cd y b' =>
        have HR : Hid (res = .flt cd y b') := HN.out.flt _ _ _ rfl
        gi_upto_region 10 with (refine ⟨trivial, ?_⟩; gi_at_call 191; refine (CallsIn.inRound l (callsIn_wide.2 HCall.out)).mono ?_; rintro e w3 ⟨fb, rfl, W1, hg1, hr1, hf, hge, rfl⟩)
        obtain ⟨cg, hbg⟩ := HN.out.h.rd.blk
        have hq1 := HN.out.b.grown hg1 (fun e => Blk.ne_ HN.out.b hbg htr (by injection e))
        have hg2 : W1.grownBy (W1.setCell ⟨q, i, none⟩ (.int .i64 0)) (some q) := only_setCell (p := ⟨q, i, none⟩) (only_refl _ _) rfl _
        have hM2 := (HN.out.h.move hg1 hr1).at_ hg2 hq1 HN.out.ht HN.out.hq
        have hf2 : Flt (W1.setCell ⟨q, i, none⟩ (.int .i64 0)) fb cd ((bg : Int) + (y : Int)) := Blk.grown hf hg2 (fun e => Blk.ne_ hf hq1 (by rcases HN.out.ht with ⟨rfl, _⟩ | rfl <;> decide) (by injection e))
        have hk := keeps_g HN.out.h.rd hg1 ⟨q, i, none⟩ (.int .i64 0)
        have hge' : w.heap.size ≤ fb := Nat.le_trans HN.out.h.st.size hge
        clear hg1 hr1 hf hge hq1 hg2
        generalize W1.setCell ⟨q, i, none⟩ (.int .i64 0) = W2 at *
        have hPE := Lib.hid (putR_end hM2 (by omega) (by omega) (.int .i64 0) (.int .i64 0) (.int .i64 0) (.int .i64 0) (.int .i64 0) (.slice none 0 0) (.iface 94 (.pointer (some ⟨fb, 0, none⟩))))
        have x0 := hM2.r1.cell 0
        have x1 := hM2.r1.cell 1
        have x2 := hM2.r1.cell 2
        have x3 := hM2.r1.cell 3
        have x4 := hM2.r1.cell 4
        have x5 := hM2.r1.cell 5
        have y0 := hM2.r1.frozen 0
        have y1 := hM2.r1.frozen 1
        have y2 := hM2.r1.frozen 2
        have y3 := hM2.r1.frozen 3
        have y4 := hM2.r1.frozen 4
        have y5 := hM2.r1.frozen 5
        have e0 := hM2.r2.cell 0
        have e1 := hM2.r2.frozen 0
        have HF := Lib.hid (hPE.out.2.2.1 _ _ _ hf2 (Blk.ne_ hf2 hM2.r1 (by decide)) (Blk.ne_ hf2 hM2.r2 (by decide)))
        have HK := Lib.hid (hk.trans (keeps_put W2 (w.heap.size + 1) (w.heap.size + 1 + 1) (.int .i64 0) (.int .i64 0) (.int .i64 0) (.int .i64 0) (.int .i64 0) (.slice none 0 0) (.iface 94 (.pointer (some ⟨fb, 0, none⟩)))))
        clear hM2 hf2 hk
        gi_wp2_with fail
        exact ⟨HK.out.from _, rfl, cd, y, b', fb, HR.out, HF.out, hge', hPE.out.1⟩
end Go.Proofs.YtohhojbeclbedaaGreatDoor.J

namespace Go.Proofs.YtohhojbeclbedaaGreatDoor
open Go.RowKit

/-- How a call ends that gives up with a fault. -/
abbrev gaveF (fb : Nat) : Ending := .panicked [{ v := .iface 94 (.pointer (some ⟨fb, 0, none⟩)), recovered := false }]
/-- What a call leaves that reads something: it answers it, or gives up with a fault. -/
def RdsR {α : Type} (V : (Nat → Prop) → World → α → Value → Prop) (g : Nat) (bs : List UInt8) (bg : Nat) (r : Rs α) (w : World) (e : Ending) (w' : World) : Prop := w.grownBy w' (some g) ∧ (match r with
  | .ok x b => (∃ v, e = .returned v ∧ V (fun k => w.heap.size ≤ k) w' x v) ∧ Rdr w' g bs b bg
  | .flt c y _ => ∃ fb, e = gaveF fb ∧ Flt w' fb c ((bg : Int) + (y : Int)) ∧ w.heap.size ≤ fb)
def intV (_ : Nat → Prop) (_ : World) (z : Int) (v : Value) : Prop := v = .int .i64 z
def boolV (_ : Nat → Prop) (_ : World) (b : Bool) (v : Value) : Prop := v = .bool b
def encV {α : Type} (E : Enc α) (S : Nat → Prop) (W : World) (x : α) (v : Value) : Prop := ∃ cs, v = .agg cs ∧ E S W x cs
section
variable {g : Nat} {bs : List UInt8} {bg : Nat} {w w1 w2 : World} {e : Ending}
theorem RdsR.cases {α : Type} {V : (Nat → Prop) → World → α → Value → Prop} {r : Rs α} (h : RdsR V g bs bg r w e w1) :
    (∃ x b v, r = .ok x b ∧ e = .returned v ∧ V (fun k => w.heap.size ≤ k) w1 x v ∧ Rdr w1 g bs b bg ∧ w.grownBy w1 (some g)) ∨ (∃ c y b fb, r = .flt c y b ∧ e = gaveF fb ∧ Flt w1 fb c ((bg : Int) + (y : Int)) ∧ w.heap.size ≤ fb ∧ w.grownBy w1 (some g)) := by
  obtain ⟨h1, h2⟩ := h
  cases r with
  | ok x b =>
    obtain ⟨⟨v, e1, e2⟩, h3⟩ := h2
    exact .inl ⟨x, b, v, rfl, e1, e2, h3, h1⟩
  | flt c y b =>
    obtain ⟨fb, e1, e2, e3⟩ := h2
    exact .inr ⟨c, y, b, fb, rfl, e1, e2, e3, h1⟩
theorem RdsR.ret {α : Type} {V : (Nat → Prop) → World → α → Value → Prop} {x : α} {b : Nat} {v : Value} (hv : V (fun k => w.heap.size ≤ k) w1 x v) (hr : Rdr w1 g bs b bg) (hg : w.grownBy w1 (some g)) : RdsR V g bs bg (.ok x b) w (.returned v) w1 := ⟨hg, ⟨v, rfl, hv⟩, hr⟩
theorem RdsR.out {α : Type} {V : (Nat → Prop) → World → α → Value → Prop} {c : Int} {y b fb : Nat} (hf : Flt w1 fb c ((bg : Int) + (y : Int))) (h1 : w.heap.size ≤ fb) (hg : w.grownBy w1 (some g)) : RdsR V g bs bg (.flt c y b : Rs α) w (gaveF fb) w1 := ⟨hg, fb, rfl, hf, h1⟩
end
set_option maxHeartbeats 400000 in
theorem mgive_no (w : World) : Calls Tryz.prog 46 #[.nilIface] w fun e w' => e = .returned (.tuple #[]) ∧ w = w' := by
  go_enter Tryz.func46, Tryz.ntmps46
  go_wp2
  go_end0
  exact ⟨rfl, rfl⟩
set_option maxHeartbeats 400000 in
theorem mgive_yes (fb : Nat) (w : World) : Calls Tryz.prog 46 #[.iface 94 (.pointer (some ⟨fb, 0, none⟩))] w fun e w' => e = gaveF fb ∧ w = w' := by
  go_enter Tryz.func46, Tryz.ntmps46
  go_wp2
  exact ⟨rfl, rfl, rfl⟩
set_option maxHeartbeats 400000 in
theorem mmust_no (v : Value) (z : Int) (hv : v = .int .i64 z) (w : World) : Calls Tryz.prog 189 #[v, .nilIface] w fun e w' => e = .returned v ∧ w = w' := by
  subst hv
  go_enter Tryz.func189, Tryz.ntmps189
  go_wp2_with fail
  refine (mgive_no _).mono ?_
  rintro e w1 ⟨rfl, rfl⟩
  go_wp2_with fail
  go_ret
  exact ⟨rfl, rfl⟩
set_option maxHeartbeats 400000 in
theorem mmust_yes (v : Value) (fb : Nat) (w : World) : Calls Tryz.prog 189 #[v, .iface 94 (.pointer (some ⟨fb, 0, none⟩))] w fun e w' => e = gaveF fb ∧ w = w' := by
  go_enter Tryz.func189, Tryz.ntmps189
  go_wp2_with fail
  refine (mgive_yes _ _).mono ?_
  rintro e w1 ⟨rfl, rfl⟩
  go_wp2_with fail
  exact ⟨rfl, rfl, rfl⟩
set_option maxHeartbeats 400000 in
theorem mmust64_no (v : Value) (z : Int) (hv : v = .int .i64 z) (w : World) : Calls Tryz.prog 192 #[v, .nilIface] w fun e w' => e = .returned v ∧ w = w' := by
  subst hv
  go_enter Tryz.func192, Tryz.ntmps192
  go_wp2_with fail
  refine (mgive_no _).mono ?_
  rintro e w1 ⟨rfl, rfl⟩
  go_wp2_with fail
  go_ret
  exact ⟨rfl, rfl⟩
set_option maxHeartbeats 400000 in
theorem mmust64_yes (v : Value) (fb : Nat) (w : World) : Calls Tryz.prog 192 #[v, .iface 94 (.pointer (some ⟨fb, 0, none⟩))] w fun e w' => e = gaveF fb ∧ w = w' := by
  go_enter Tryz.func192, Tryz.ntmps192
  go_wp2_with fail
  refine (mgive_yes _ _).mono ?_
  rintro e w1 ⟨rfl, rfl⟩
  go_wp2_with fail
  exact ⟨rfl, rfl, rfl⟩
theorem says_cases {α : Type} {mk : α → Value} {g bg : Nat} {bs : List UInt8} {r : Rs α} {w w1 : World} {e : Ending} (h : J.Says mk g bs bg r w e w1) :
    (∃ z b, r = .ok z b ∧ e = .returned (.tuple #[mk z, .nilIface]) ∧ Rdr w1 g bs b bg ∧ w.grownBy w1 (some g)) ∨ (∃ c y b fb, r = .flt c y b ∧ e = .returned (.tuple #[.int .i64 0, .iface 94 (.pointer (some ⟨fb, 0, none⟩))]) ∧ Flt w1 fb c ((bg : Int) + (y : Int)) ∧ w.heap.size ≤ fb ∧ w.grownBy w1 (some g)) := by
  cases r with
  | ok z b =>
    obtain ⟨h1, h2, h3⟩ := h
    exact .inl ⟨z, b, rfl, h1, h3, h2⟩
  | flt c y b =>
    obtain ⟨fb, h1, h2, h3, h4, _⟩ := h
    exact .inr ⟨c, y, b, fb, rfl, h1, h2, h3, h4⟩
set_option maxRecDepth 100000 in
set_option maxHeartbeats 1000000 in
theorem rnum_any {g a bg : Nat} {bs : List UInt8} {w : World} (h : Rdr w g bs a bg) (most : Int) (hw : Whole most) :
    Calls Tryz.prog 154 #[.pointer (some ⟨g, 0, none⟩), .int .i64 most] w (RdsR intV g bs bg (smR bs a most) w) := by
  have hs := J.sm_is h most hw
  obtain ⟨r, hr⟩ : ∃ r, smR bs a most = r := ⟨_, rfl⟩
  rw [hr] at hs ⊢
  clear h hr hw
  go_enter Tryz.func154, Tryz.ntmps154
  go_wp2_with fail
  refine hs.mono ?_
  rintro e w1 hL
  clear hs
  cases r with
  | ok v b =>
    obtain ⟨rfl, hg, hr⟩ := hL
    have HR := Lib.hid (RdsR.ret (V := intV) (bs := bs) (w := w) (x := v) rfl hr hg)
    clear hg hr
    unfold J.zV
    go_wp2_with fail
    refine (mmust_no _ _ rfl _).mono ?_
    rintro e w1 ⟨rfl, rfl⟩
    go_wp2_with fail
    go_ret
    exact HR.out
  | flt c y b =>
    obtain ⟨fb, rfl, hf, h1, hg, _⟩ := hL
    have HR := Lib.hid (RdsR.out (V := intV) (bs := bs) (w := w) (b := b) hf h1 hg)
    clear hf h1 hg
    go_wp2_with fail
    refine (mmust_yes _ _ _).mono ?_
    rintro e w1 ⟨rfl, rfl⟩
    go_wp2_with fail
    exact ⟨rfl, HR.out⟩
end Go.Proofs.YtohhojbeclbedaaGreatDoor

namespace Go.Proofs.YtohhojbeclbedaaGreatDoor
open Go.RowKit

/-- A reader's state, as a call goes on. -/
structure MRS (g : Nat) (bs : List UInt8) (bg : Nat) (w : World) (a : Nat) (W : World) : Prop where
  gr : w.grownBy W (some g)
  rd : Rdr W g bs a bg
  lt : g < w.heap.size
section
variable {g a a' bg : Nat} {bs : List UInt8} {w W W1 : World} {e : Ending}
theorem MRS.start (h : Rdr w g bs a bg) (hg : w.grownBy W none) : MRS g bs bg w a W := ⟨only_weak hg _, h.kept hg, h.lt⟩
theorem MRS.next (h : MRS g bs bg w a W) (hg : W.grownBy W1 (some g)) (hr : Rdr W1 g bs a' bg) : MRS g bs bg w a' W1 := ⟨only_trans h.gr hg, hr, h.lt⟩
theorem MRS.none_ (h : MRS g bs bg w a W) (hg : W.grownBy W1 none) : MRS g bs bg w a W1 := ⟨only_trans h.gr (only_weak hg _), h.rd.kept hg, h.lt⟩
theorem MRS.out {α : Type} {V : (Nat → Prop) → World → α → Value → Prop} {c : Int} {y b fb : Nat} (h : MRS g bs bg w a W) (hf : Flt W1 fb c ((bg : Int) + (y : Int))) (h1 : W.heap.size ≤ fb) (hg : W.grownBy W1 (some g)) : RdsR V g bs bg (.flt c y b : Rs α) w (gaveF fb) W1 := RdsR.out hf (Nat.le_trans h.gr.size h1) (only_trans h.gr hg)
/-- A block of the call's own is turned: the reader stays. -/
theorem MRS.own {k : Nat} {t : TypeId} {cs : Array Value} (h : MRS g bs bg w a W) (hb : Blk W k t cs) (ht : t ≠ 5) (hk : w.heap.size ≤ k) (hg : W.grownBy W1 (some k)) : MRS g bs bg w a W1 :=
  ⟨only_new' h.gr hg hk, h.rd.grown hg (fun e => by injection e with e; have := h.lt; omega) (fun j e => by injection e with e; subst e; exact ⟨_, _, hb, ht⟩), h.lt⟩
theorem MRS.blk {k : Nat} {t : TypeId} {cs : Array Value} (h : MRS g bs bg w a W) (hb : Blk W k t cs) (hk : w.heap.size ≤ k) (hg : W.grownBy W1 (some g)) : Blk W1 k t cs := hb.grown hg (fun e => by injection e with e; have := h.lt; omega)
end
set_option maxRecDepth 100000 in
set_option maxHeartbeats 1000000 in
theorem rmark_any {g a bg : Nat} {bs : List UInt8} {w : World} (h : Rdr w g bs a bg) :
    Calls Tryz.prog 156 #[.pointer (some ⟨g, 0, none⟩)] w (RdsR boolV g bs bg (markR bs a) w) := by
  unfold markR
  have hs := rnum_any h 1 ⟨by omega, by omega⟩
  obtain ⟨r, hr⟩ : ∃ r, smR bs a 1 = r := ⟨_, rfl⟩
  rw [hr] at hs ⊢
  clear h hr
  go_enter Tryz.func156, Tryz.ntmps156
  go_wp2_with fail
  refine hs.mono ?_
  rintro e w1 hL
  clear hs
  rcases hL.cases with ⟨x, b, v, rfl, rfl, rfl, hr, hg⟩ | ⟨c, y, b, fb, rfl, rfl, hf, h1, hg⟩
  · have HR := Lib.hid (RdsR.ret (V := boolV) (bs := bs) (w := w) (x := (x == 1)) rfl hr hg)
    clear hL hr hg
    go_wp2_with fail
    go_ret
    exact HR.out
  · have HR := Lib.hid (RdsR.out (V := boolV) (bs := bs) (w := w) (b := b) hf h1 hg)
    clear hL hf h1 hg
    go_wp2_with fail
    exact ⟨rfl, HR.out⟩
end Go.Proofs.YtohhojbeclbedaaGreatDoor

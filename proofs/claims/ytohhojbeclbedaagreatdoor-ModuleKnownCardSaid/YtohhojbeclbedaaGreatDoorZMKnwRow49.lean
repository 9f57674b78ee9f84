/- Texts joined for the claim's sake: MRea. -/
import Derived.Test.YtohhojbeclbedaaGreatDoorZMKnwRow48
import Derived.Laws.Tables
namespace Go.Proofs.YtohhojbeclbedaaGreatDoor
open Go.RowKit

theorem at98_0 (w : World) : (Instr.index 98 (.agg #[.func (.func 43) #[] #[], .func (.func 44) #[] #[], .func (.func 45) #[] #[]]) (.int .i64 0)).run Tryz.prog w = .ok (.func (.func 43) #[] #[]) w := by kernel_rfl
theorem at98_1 (w : World) : (Instr.index 98 (.agg #[.func (.func 43) #[] #[], .func (.func 44) #[] #[], .func (.func 45) #[] #[]]) (.int .i64 1)).run Tryz.prog w = .ok (.func (.func 44) #[] #[]) w := by kernel_rfl
theorem at98_2 (w : World) : (Instr.index 98 (.agg #[.func (.func 43) #[] #[], .func (.func 44) #[] #[], .func (.func 45) #[] #[]]) (.int .i64 2)).run Tryz.prog w = .ok (.func (.func 45) #[] #[]) w := by kernel_rfl
theorem arr8 (cs : Array Value) (h : cs.size = 8) : ∃ v0 v1 v2 v3 v4 v5 v6 v7, cs = #[v0, v1, v2, v3, v4, v5, v6, v7] := by
  obtain ⟨l⟩ := cs
  match l, h with
  | [a, b, c, d, e, f, g, i], _ => exact ⟨a, b, c, d, e, f, g, i, rfl⟩
/-- What Read leaves: what the bytes are read as. -/
def ReadP (b : List UInt8) (w : World) (e : Ending) (w' : World) : Prop := ∃ r : MR, ((∃ c y, SplitFault b c y ∧ r = .flt c y) ∨ (∃ x, SplitOk b x ∧ r = readT x.p1 x.p2 x.p3 (cut b x.p1 x.n1) (cut b x.p2 x.n2) (cut b x.p3 x.n3))) ∧ w.grownBy w' none ∧ (match r with
  | .ok m => ∃ cs, e = .returned (.tuple #[.agg cs, .nilIface]) ∧ ModE (fun k => w.heap.size ≤ k) w' m cs
  | .flt c y => ∃ fb, e = .returned (.tuple #[.agg #[.slice none 0 0, .slice none 0 0, .slice none 0 0, .slice none 0 0, .slice none 0 0, .slice none 0 0, .slice none 0 0, .slice none 0 0], .iface 94 (.pointer (some ⟨fb, 0, none⟩))]) ∧ Flt w' fb c y)
/-- What stands as Read goes on. -/
structure RdX (w : World) (bm be : Nat) (cs : Array Value) (W : World) : Prop where
  g : w.grownBy W none
  m : Blk W bm 28 cs
  e : Blk W be 43 #[.nilIface]
  h1 : w.heap.size ≤ bm
  h2 : w.heap.size ≤ be
  h3 : be ≠ bm
theorem RdX.kept {w W W' : World} {bm be : Nat} {cs : Array Value} (h : RdX w bm be cs W) (hg : W.grownBy W' none) : RdX w bm be cs W' := ⟨only_trans h.g hg, h.m.kept hg, h.e.kept hg, h.h1, h.h2, h.h3⟩
/-- It gives up. -/
theorem RdX.out {w W W' : World} {bm be fb : Nat} {c y : Int} {b : List UInt8} {cs : Array Value} (h : RdX w bm be cs W) (hf : Flt W fb c y) (hr : (∃ c' y', SplitFault b c' y' ∧ MR.flt c y = .flt c' y') ∨ (∃ x, SplitOk b x ∧ MR.flt c y = readT x.p1 x.p2 x.p3 (cut b x.p1 x.n1) (cut b x.p2 x.n2) (cut b x.p3 x.n3))) (t : Turn (fun k => k = bm ∨ k = be) W W') :
    ReadP b w (.returned (.tuple #[.agg #[.slice none 0 0, .slice none 0 0, .slice none 0 0, .slice none 0 0, .slice none 0 0, .slice none 0 0, .slice none 0 0, .slice none 0 0], .iface 94 (.pointer (some ⟨fb, 0, none⟩))])) W' := by
  refine ⟨.flt c y, hr, ?_, fb, rfl, ?_⟩
  · have := h.h1
    have := h.h2
    exact Turn.only h.g t (fun k hk => by rcases hk with e | e <;> omega)
  · exact Blk.turn hf t (fun hk => by
      rcases hk with e | e
      · exact Blk.ne_ hf h.m (by decide) e
      · exact Blk.ne_ hf h.e (by decide) e)
theorem Blk.rowM {W : World} {g : Nat} {t : TypeId} {cs : Array Value} (h : Blk W g t cs) (cs' : Array Value) : Blk (W.setRow g cs') g t cs' := by
  unfold Blk at h ⊢
  simp [World.setRow, Array.getElem?_modify, h]
theorem only_rowM (W : World) (g : Nat) (cs : Array Value) : W.grownBy (W.setRow g cs) (some g) :=
  ⟨rfl, rfl, rfl, by simp, fun i _ hne => setRow_other W g i cs (fun e => hne (by rw [e]))⟩
theorem secM_ok {α : Type} {bg : Nat} {v : α} {b : Nat} {f : α → MR} : secM bg (.ok v b) f = f v := rfl
theorem endR_ok {α : Type} {bs : List UInt8} {r : Rs α} {v : α} {b : Nat} (h : r = .ok v b) (hb : b = bs.length) : endR bs r = .ok v b := by rw [h]; unfold endR; rw [Rs.bind_ok, if_pos hb]
theorem endR_long {α : Type} {bs : List UInt8} {r : Rs α} {v : α} {b : Nat} (h : r = .ok v b) (hb : b ≠ bs.length) : endR bs r = .flt 4 b b := by rw [h]; unfold endR; rw [Rs.bind_ok, if_neg hb]
theorem endR_flt {α : Type} {bs : List UInt8} {r : Rs α} {c : Int} {y d : Nat} (h : r = .flt c y d) : endR bs r = .flt c y d := by rw [h]; rfl
set_option maxRecDepth 100000 in
set_option maxHeartbeats 2000000 in
theorem mread_any (t : ByteArray) (ht : t.size ≤ 4611686018427387904) (w : World) (hE : ErrType w) : Calls Tryz.prog 14 #[.string t] w (ReadP t.data.toList w) := by
  have hmf : ∀ (fn : Fn) (first cap : Array Value) (w : World), (Instr.makeFunc fn first cap).run Tryz.prog w = .ok (.func fn first cap) w := fun _ _ _ _ => rfl
  have i0 := at98_0
  have i1 := at98_1
  have i2 := at98_2
  have hg0 : w.grownBy ((w.alloc (.cells #[.slice none 0 0, .slice none 0 0, .slice none 0 0, .slice none 0 0, .slice none 0 0, .slice none 0 0, .slice none 0 0, .slice none 0 0] 28)).alloc (.cells #[.nilIface] 43)) none := only_alloc (only_alloc (only_refl _ _) _) _
  have HX0 : Hid (RdX w w.heap.size (w.heap.size + 1) #[.slice none 0 0, .slice none 0 0, .slice none 0 0, .slice none 0 0, .slice none 0 0, .slice none 0 0, .slice none 0 0, .slice none 0 0] ((w.alloc (.cells #[.slice none 0 0, .slice none 0 0, .slice none 0 0, .slice none 0 0, .slice none 0 0, .slice none 0 0, .slice none 0 0, .slice none 0 0] 28)).alloc (.cells #[.nilIface] 43))) := Lib.hid ⟨hg0, (Blk.new _ _ _).alloc _, blk_new_at (by simp) _ _, Nat.le_refl _, by omega, by omega⟩
  have HS := Lib.hid (split_any t ht ((w.alloc (.cells #[.slice none 0 0, .slice none 0 0, .slice none 0 0, .slice none 0 0, .slice none 0 0, .slice none 0 0, .slice none 0 0, .slice none 0 0] 28)).alloc (.cells #[.nilIface] 43)) (hE.kept hg0 (fun _ e => by cases e)))
  generalize t.data.toList = b at *
  clear hg0 hE ht
  go_enter_defers Tryz.func14, Tryz.ntmps14
  go_upto_region 2 with fail
  generalize ((w.alloc (.cells #[.slice none 0 0, .slice none 0 0, .slice none 0 0, .slice none 0 0, .slice none 0 0, .slice none 0 0, .slice none 0 0, .slice none 0 0] 28)).alloc (.cells #[.nilIface] 43)) = W0 at *
  generalize hbe : w.heap.size + 1 = be at *
  generalize hbm : w.heap.size = bm at *
  clear hbe hbm
  go_wp2_with fail
  refine HS.out.mono ?_
  rintro e w1 (⟨x, q1, q2, q3, hx, rfl, hs⟩ | ⟨fb, c, y, hx, rfl, hs⟩)
  rotate_left
  · have HX1 := Lib.hid (HX0.out.kept hs.step)
    have HF := Lib.hid (hs.flt _ (List.mem_cons_self))
    have HXX := Lib.hid hx
    clear hs hx
    go_wp2_with fail
    refine (mmustR_yes _ _).mono ?_
    rintro e w2 ⟨rfl, g2⟩
    have HX2 := Lib.hid (HX1.out.kept g2)
    have HF2 : Hid (Flt w2 fb c y) := Lib.hid (Blk.kept HF.out g2)
    clear g2
    go_wp2_with fail
    refine leaves_cons (f := 41) (args := #[.pointer (some ⟨bm, 0, none⟩), .pointer (some ⟨be, 0, none⟩)]) (by simp) (by simp [go_sem]) ?_
    refine (mrd_catch bm be fb _ _ _ _ _ _ _ _ _ [] _ HX2.out.m HX2.out.e HX2.out.h3).mono ?_
    rintro e u' w9 ⟨rfl, rfl, m1, m2, mt⟩
    have HR := Lib.hid (HX2.out.out (b := b) HF2.out (.inl ⟨c, y, HXX.out, rfl⟩) mt)
    have k0 := m1.cell 0
    have k1 := m1.cell 1
    have k2 := m1.cell 2
    have k3 := m1.cell 3
    have k4 := m1.cell 4
    have k5 := m1.cell 5
    have k6 := m1.cell 6
    have k7 := m1.cell 7
    have kv := m2.cell 0
    simp [Leaves, settle, results, Tryz.results14, go_sem, k0, k1, k2, k3, k4, k5, k6, k7, kv]
    exact HR.out
  have HX1 := Lib.hid (HX0.out.kept hs.step)
  have HSS := Lib.hid hs
  have HXX := Lib.hid hx
  clear hs hx
  go_wp2_with fail
  refine (mmustR_no _ _ _ _).mono ?_
  rintro e w2 ⟨rfl, g2⟩
  have HX2 := Lib.hid (HX1.out.kept g2)
  have HG2 := Lib.hid g2
  clear g2
  go_upto_region 3 with fail
  have hga : w2.grownBy (w2.alloc (.cells #[.pointer (some ⟨q1, 0, none⟩), .pointer (some ⟨q2, 0, none⟩), .pointer (some ⟨q3, 0, none⟩)] 55)) none := only_alloc (only_refl _ _) _
  have HX3 := Lib.hid (HX2.out.kept hga)
  have HL3 := Lib.hid (Blk.new w2 55 #[.pointer (some ⟨q1, 0, none⟩), .pointer (some ⟨q2, 0, none⟩), .pointer (some ⟨q3, 0, none⟩)])
  have HR1_3 := Lib.hid (((HSS.out.rdr _ (List.mem_cons_self)).2.kept HG2.out).kept hga)
  have HR2_3 := Lib.hid (((HSS.out.rdr _ (List.mem_cons_of_mem _ (List.mem_cons_self))).2.kept HG2.out).kept hga)
  have HR3_3 := Lib.hid (((HSS.out.rdr _ (List.mem_cons_of_mem _ (List.mem_cons_of_mem _ (List.mem_cons_self)))).2.kept HG2.out).kept hga)
  have HNQ : Hid (bm < w2.heap.size ∧ be < q1 ∧ be < q2 ∧ be < q3 ∧ bm < q1 ∧ bm < q2 ∧ bm < q3 ∧ q1 < w2.heap.size ∧ q2 < w2.heap.size ∧ q3 < w2.heap.size ∧ q1 ≠ q2 ∧ q1 ≠ q3 ∧ q2 ≠ q3 ∧ w2.heap.size < (w2.alloc (.cells #[.pointer (some ⟨q1, 0, none⟩), .pointer (some ⟨q2, 0, none⟩), .pointer (some ⟨q3, 0, none⟩)] 55)).heap.size ∧ w.heap.size ≤ bm) := Lib.hid (by
    have r1 := HSS.out.rdr _ (List.mem_cons_self)
    have r2 := HSS.out.rdr _ (List.mem_cons_of_mem _ (List.mem_cons_self))
    have r3 := HSS.out.rdr _ (List.mem_cons_of_mem _ (List.mem_cons_of_mem _ (List.mem_cons_self)))
    have l1 := (r1.2.kept HG2.out).lt
    have l2 := (r2.2.kept HG2.out).lt
    have l3 := (r3.2.kept HG2.out).lt
    have m1 := HX0.out.m.lt
    have m2 := HX0.out.e.lt
    have m3 := HX2.out.m.lt
    have m4 := HX0.out.h1
    have ap := HSS.out.apart
    simp only [List.map_cons, List.map_nil, List.nodup_cons, List.mem_cons, List.not_mem_nil, or_false, not_or] at ap
    have z := World.size_alloc w2 (.cells #[.pointer (some ⟨q1, 0, none⟩), .pointer (some ⟨q2, 0, none⟩), .pointer (some ⟨q3, 0, none⟩)] 55)
    have r11 := r1.1
    have r21 := r2.1
    have r31 := r3.1
    dsimp only at *
    omega)
  have HS3 : Hid ((w2.alloc (.cells #[.pointer (some ⟨q1, 0, none⟩), .pointer (some ⟨q2, 0, none⟩), .pointer (some ⟨q3, 0, none⟩)] 55)).heap.size ≤ (w2.alloc (.cells #[.pointer (some ⟨q1, 0, none⟩), .pointer (some ⟨q2, 0, none⟩), .pointer (some ⟨q3, 0, none⟩)] 55)).heap.size) := Lib.hid (Nat.le_refl _)
  clear hga HX0 HX1 HX2 HSS HG2
  generalize (w2.alloc (.cells #[.pointer (some ⟨q1, 0, none⟩), .pointer (some ⟨q2, 0, none⟩), .pointer (some ⟨q3, 0, none⟩)] 55)) = w3 at *
  generalize w2.heap.size = bl at *
  go_wp2_with fail
  have d0 := HL3.out.cell 0
  refine wp_loop_rounds 4 ?_
  rw [rounds_succ]
  go_wp2_with fail
  clear d0
  refine (rsec_1 HR1_3.out HX3.out.m ⟨rfl, rfl, by simp⟩).mono ?_
  rintro e wb hL
  obtain ⟨r, hq⟩ : ∃ r, lstR nodR 0 64 (cut b x.p1 x.n1) 0 = r := ⟨_, rfl⟩
  rw [hq] at hL
  have HQ1 := Lib.hid hq
  clear hq
  cases r with
  | flt c y d =>
    obtain ⟨fb, rfl, hf, hge, htn, cs', hm', h8⟩ := hL
    obtain ⟨u0, u1, u2, u3, u4, u5, u6, u7, rfl⟩ := arr8 cs' (h8.trans rfl)
    have HXP : Hid (RdX w bm be #[u0, u1, u2, u3, u4, u5, u6, u7] wb) := Lib.hid ⟨Turn.only HX3.out.g htn (fun k hk => by have := HNQ.out; have := HX3.out.h1; rcases hk with e | e <;> omega), hm', HX3.out.e.turn htn (fun hk => by have := HNQ.out; have := HX3.out.h3; rcases hk with e | e <;> omega), HX3.out.h1, HX3.out.h2, HX3.out.h3⟩
    have HFP : Hid (Flt wb fb c ((x.p1 + y : Nat) : Int)) := Lib.hid (by rw [Int.natCast_add]; exact hf)
    clear hf hge htn hm' h8
    go_wp2_with fail
    refine leaves_cons (f := 41) (args := #[.pointer (some ⟨bm, 0, none⟩), .pointer (some ⟨be, 0, none⟩)]) (by simp) (by simp [go_sem]) ?_
    refine (mrd_catch bm be fb _ _ _ _ _ _ _ _ _ [] _ HXP.out.m HXP.out.e HXP.out.h3).mono ?_
    rintro e u' w9 ⟨rfl, rfl, m1, m2, mt⟩
    have HR := Lib.hid (HXP.out.out (b := b) HFP.out (.inr ⟨x, HXX.out, by unfold readT; rw [show typesR (cut b x.p1 x.n1) = .flt c y d from endR_flt HQ1.out]; rfl⟩) mt)
    have k0 := m1.cell 0
    have k1 := m1.cell 1
    have k2 := m1.cell 2
    have k3 := m1.cell 3
    have k4 := m1.cell 4
    have k5 := m1.cell 5
    have k6 := m1.cell 6
    have k7 := m1.cell 7
    have kv := m2.cell 0
    simp [Leaves, settle, results, Tryz.results14, go_sem, k0, k1, k2, k3, k4, k5, k6, k7, kv]
    exact HR.out
  | ok l1 c1 =>
    obtain ⟨rfl, hrd, ⟨v1, a1, hm', hl1, ha1⟩, htn⟩ := hL
    have HXb : Hid (RdX w bm be #[v1, .slice none 0 0, .slice none 0 0, .slice none 0 0, a1, .slice none 0 0, .slice none 0 0, .slice none 0 0] wb) := Lib.hid ⟨Turn.only HX3.out.g htn (fun k hk => by have := HNQ.out; have := HX3.out.h1; rcases hk with e | e <;> omega), hm', HX3.out.e.turn htn (fun hk => by have := HNQ.out; have := HX3.out.h3; rcases hk with e | e <;> omega), HX3.out.h1, HX3.out.h2, HX3.out.h3⟩
    have HLb := Lib.hid (HL3.out.turn htn (fun hk => by have := HNQ.out; rcases hk with e | e <;> omega))
    have HRb := Lib.hid hrd
    have HSb : Hid (w3.heap.size ≤ wb.heap.size) := Lib.hid (Nat.le_trans HS3.out htn.size)
    have HR2_b := Lib.hid (HR2_3.out.turn htn (fun hk => by have := HNQ.out; rcases hk with e | e <;> omega) (fun k hk => by rcases hk with e | e; (rw [e]; obtain ⟨cg, hbg⟩ := HR1_3.out.blk; exact hbg.not_u8 (by decide)); (rw [e]; exact HX3.out.m.not_u8 (by decide))))
    have HR3_b := Lib.hid (HR3_3.out.turn htn (fun hk => by have := HNQ.out; rcases hk with e | e <;> omega) (fun k hk => by rcases hk with e | e; (rw [e]; obtain ⟨cg, hbg⟩ := HR1_3.out.blk; exact hbg.not_u8 (by decide)); (rw [e]; exact HX3.out.m.not_u8 (by decide))))
    have HV1_b := Lib.hid (hl1.more nod_ok (by decide) (S' := fun k => w3.heap.size ≤ k) (fun k hk _ => Nat.le_trans HS3.out hk))
    have HA1_b := Lib.hid (ha1.more int_ok (by decide) (S' := fun k => w3.heap.size ≤ k) (fun k hk _ => Nat.le_trans HS3.out hk))
    clear hrd htn hm' hl1 ha1
    have d0 := HLb.out.cell 0
    go_wp2_with fail
    clear d0
    by_cases hce : c1 = (cut b x.p1 x.n1).length
    rotate_left
    · refine (end_long HRb.out (by have := HRb.out.le; omega)).mono ?_
      rintro e wc ⟨fb, rfl, hf, hge, g5⟩
      have HXP := Lib.hid (HXb.out.kept g5)
      have HFP : Hid (Flt wc fb 4 ((x.p1 + c1 : Nat) : Int)) := Lib.hid (by rw [Int.natCast_add]; exact hf)
      have HCE := Lib.hid hce
      clear hf hge g5 hce
      go_wp2_with fail
      refine (mgive_yes _ _).mono ?_
      rintro e w8 ⟨rfl, rfl⟩
      go_wp2_with fail
      refine leaves_cons (f := 41) (args := #[.pointer (some ⟨bm, 0, none⟩), .pointer (some ⟨be, 0, none⟩)]) (by simp) (by simp [go_sem]) ?_
      refine (mrd_catch bm be fb _ _ _ _ _ _ _ _ _ [] _ HXP.out.m HXP.out.e HXP.out.h3).mono ?_
      rintro e u' w9 ⟨rfl, rfl, m1, m2, mt⟩
      have HR := Lib.hid (HXP.out.out (b := b) HFP.out (.inr ⟨x, HXX.out, by unfold readT; rw [show typesR (cut b x.p1 x.n1) = .flt 4 c1 c1 from endR_long HQ1.out HCE.out]; rfl⟩) mt)
      have k0 := m1.cell 0
      have k1 := m1.cell 1
      have k2 := m1.cell 2
      have k3 := m1.cell 3
      have k4 := m1.cell 4
      have k5 := m1.cell 5
      have k6 := m1.cell 6
      have k7 := m1.cell 7
      have kv := m2.cell 0
      simp [Leaves, settle, results, Tryz.results14, go_sem, k0, k1, k2, k3, k4, k5, k6, k7, kv]
      exact HR.out
    refine (end_ok HRb.out hce).mono ?_
    rintro e w32 ⟨rfl, g5⟩
    have HT1 := Lib.hid (show typesR (cut b x.p1 x.n1) = .ok l1 c1 from endR_ok HQ1.out hce)
    have HX32 := Lib.hid (HXb.out.kept g5)
    have HL32 := Lib.hid (HLb.out.kept g5)
    have HS32 : Hid (w3.heap.size ≤ w32.heap.size) := Lib.hid (Nat.le_trans HSb.out g5.size)
    have HR2_32 := Lib.hid (HR2_b.out.kept g5)
    have HR3_32 := Lib.hid (HR3_b.out.kept g5)
    have HV1_32 := Lib.hid (HV1_b.out.kept nod_ok (KeptS.none_ g5))
    have HA1_32 := Lib.hid (HA1_b.out.kept int_ok (KeptS.none_ g5))
    clear g5 hce HXb HLb HSb HRb HV1_b HA1_b HR2_b HR3_b
    go_wp2_with fail
    refine (mgive_no _).mono ?_
    rintro e w8 ⟨rfl, rfl⟩
    have d1 := HL32.out.cell 1
    go_wp2_with fail
    rw [rounds_succ]
    go_wp2_with fail
    clear d1
    refine (rsec_2 HR2_32.out HX32.out.m ⟨rfl, rfl, by simp⟩).mono ?_
    rintro e wb hL
    obtain ⟨r, hq⟩ : ∃ r, lstR (tplR x.p2) 0 16 (cut b x.p2 x.n2) 0 = r := ⟨_, rfl⟩
    rw [hq] at hL
    have HQ2 := Lib.hid hq
    clear hq
    cases r with
    | flt c y d =>
      obtain ⟨fb, rfl, hf, hge, htn, cs', hm', h8⟩ := hL
      obtain ⟨u0, u1, u2, u3, u4, u5, u6, u7, rfl⟩ := arr8 cs' (h8.trans rfl)
      have HXP : Hid (RdX w bm be #[u0, u1, u2, u3, u4, u5, u6, u7] wb) := Lib.hid ⟨Turn.only HX32.out.g htn (fun k hk => by have := HNQ.out; have := HX32.out.h1; rcases hk with e | e <;> omega), hm', HX32.out.e.turn htn (fun hk => by have := HNQ.out; have := HX32.out.h3; rcases hk with e | e <;> omega), HX32.out.h1, HX32.out.h2, HX32.out.h3⟩
      have HFP : Hid (Flt wb fb c ((x.p2 + y : Nat) : Int)) := Lib.hid (by rw [Int.natCast_add]; exact hf)
      clear hf hge htn hm' h8
      go_wp2_with fail
      refine leaves_cons (f := 41) (args := #[.pointer (some ⟨bm, 0, none⟩), .pointer (some ⟨be, 0, none⟩)]) (by simp) (by simp [go_sem]) ?_
      refine (mrd_catch bm be fb _ _ _ _ _ _ _ _ _ [] _ HXP.out.m HXP.out.e HXP.out.h3).mono ?_
      rintro e u' w9 ⟨rfl, rfl, m1, m2, mt⟩
      have HR := Lib.hid (HXP.out.out (b := b) HFP.out (.inr ⟨x, HXX.out, by unfold readT; rw [HT1.out, secM_ok]; rw [show tplsR x.p2 (cut b x.p2 x.n2) = .flt c y d from endR_flt HQ2.out]; rfl⟩) mt)
      have k0 := m1.cell 0
      have k1 := m1.cell 1
      have k2 := m1.cell 2
      have k3 := m1.cell 3
      have k4 := m1.cell 4
      have k5 := m1.cell 5
      have k6 := m1.cell 6
      have k7 := m1.cell 7
      have kv := m2.cell 0
      simp [Leaves, settle, results, Tryz.results14, go_sem, k0, k1, k2, k3, k4, k5, k6, k7, kv]
      exact HR.out
    | ok l2 c2 =>
      obtain ⟨rfl, hrd, ⟨v2, a2, hm', hl2, ha2⟩, htn⟩ := hL
      have HXb : Hid (RdX w bm be #[v1, v2, .slice none 0 0, .slice none 0 0, a1, a2, .slice none 0 0, .slice none 0 0] wb) := Lib.hid ⟨Turn.only HX32.out.g htn (fun k hk => by have := HNQ.out; have := HX32.out.h1; rcases hk with e | e <;> omega), hm', HX32.out.e.turn htn (fun hk => by have := HNQ.out; have := HX32.out.h3; rcases hk with e | e <;> omega), HX32.out.h1, HX32.out.h2, HX32.out.h3⟩
      have HLb := Lib.hid (HL32.out.turn htn (fun hk => by have := HNQ.out; rcases hk with e | e <;> omega))
      have HRb := Lib.hid hrd
      have HSb : Hid (w3.heap.size ≤ wb.heap.size) := Lib.hid (Nat.le_trans HS32.out htn.size)
      have HR3_b := Lib.hid (HR3_32.out.turn htn (fun hk => by have := HNQ.out; rcases hk with e | e <;> omega) (fun k hk => by rcases hk with e | e; (rw [e]; obtain ⟨cg, hbg⟩ := HR2_32.out.blk; exact hbg.not_u8 (by decide)); (rw [e]; exact HX32.out.m.not_u8 (by decide))))
      have HV1_b := Lib.hid (HV1_32.out.kept nod_ok (KeptS.of_turn htn (fun k hk hk2 => by have := HNQ.out; rcases hk2 with e | e <;> omega)))
      have HA1_b := Lib.hid (HA1_32.out.kept int_ok (KeptS.of_turn htn (fun k hk hk2 => by have := HNQ.out; rcases hk2 with e | e <;> omega)))
      have HV2_b := Lib.hid (hl2.more tpl_ok (by decide) (S' := fun k => w3.heap.size ≤ k) (fun k hk _ => Nat.le_trans HS32.out hk))
      have HA2_b := Lib.hid (ha2.more int_ok (by decide) (S' := fun k => w3.heap.size ≤ k) (fun k hk _ => Nat.le_trans HS32.out hk))
      clear hrd htn hm' hl2 ha2
      have d1 := HLb.out.cell 1
      go_wp2_with fail
      clear d1
      by_cases hce : c2 = (cut b x.p2 x.n2).length
      rotate_left
      · refine (end_long HRb.out (by have := HRb.out.le; omega)).mono ?_
        rintro e wc ⟨fb, rfl, hf, hge, g5⟩
        have HXP := Lib.hid (HXb.out.kept g5)
        have HFP : Hid (Flt wc fb 4 ((x.p2 + c2 : Nat) : Int)) := Lib.hid (by rw [Int.natCast_add]; exact hf)
        have HCE := Lib.hid hce
        clear hf hge g5 hce
        go_wp2_with fail
        refine (mgive_yes _ _).mono ?_
        rintro e w8 ⟨rfl, rfl⟩
        go_wp2_with fail
        refine leaves_cons (f := 41) (args := #[.pointer (some ⟨bm, 0, none⟩), .pointer (some ⟨be, 0, none⟩)]) (by simp) (by simp [go_sem]) ?_
        refine (mrd_catch bm be fb _ _ _ _ _ _ _ _ _ [] _ HXP.out.m HXP.out.e HXP.out.h3).mono ?_
        rintro e u' w9 ⟨rfl, rfl, m1, m2, mt⟩
        have HR := Lib.hid (HXP.out.out (b := b) HFP.out (.inr ⟨x, HXX.out, by unfold readT; rw [HT1.out, secM_ok]; rw [show tplsR x.p2 (cut b x.p2 x.n2) = .flt 4 c2 c2 from endR_long HQ2.out HCE.out]; rfl⟩) mt)
        have k0 := m1.cell 0
        have k1 := m1.cell 1
        have k2 := m1.cell 2
        have k3 := m1.cell 3
        have k4 := m1.cell 4
        have k5 := m1.cell 5
        have k6 := m1.cell 6
        have k7 := m1.cell 7
        have kv := m2.cell 0
        simp [Leaves, settle, results, Tryz.results14, go_sem, k0, k1, k2, k3, k4, k5, k6, k7, kv]
        exact HR.out
      refine (end_ok HRb.out hce).mono ?_
      rintro e w33 ⟨rfl, g5⟩
      have HT2 := Lib.hid (show tplsR x.p2 (cut b x.p2 x.n2) = .ok l2 c2 from endR_ok HQ2.out hce)
      have HX33 := Lib.hid (HXb.out.kept g5)
      have HL33 := Lib.hid (HLb.out.kept g5)
      have HS33 : Hid (w3.heap.size ≤ w33.heap.size) := Lib.hid (Nat.le_trans HSb.out g5.size)
      have HR3_33 := Lib.hid (HR3_b.out.kept g5)
      have HV1_33 := Lib.hid (HV1_b.out.kept nod_ok (KeptS.none_ g5))
      have HA1_33 := Lib.hid (HA1_b.out.kept int_ok (KeptS.none_ g5))
      have HV2_33 := Lib.hid (HV2_b.out.kept tpl_ok (KeptS.none_ g5))
      have HA2_33 := Lib.hid (HA2_b.out.kept int_ok (KeptS.none_ g5))
      clear g5 hce HXb HLb HSb HRb HV1_b HA1_b HV2_b HA2_b HR3_b
      go_wp2_with fail
      refine (mgive_no _).mono ?_
      rintro e w8 ⟨rfl, rfl⟩
      have d2 := HL33.out.cell 2
      go_wp2_with fail
      rw [rounds_succ]
      go_wp2_with fail
      clear d2
      refine (rsec_3 HR3_33.out HX33.out.m ⟨⟨rfl, rfl, by simp⟩, rfl, rfl, by simp⟩).mono ?_
      rintro e wb hL
      obtain ⟨r, hq⟩ : ∃ r, bootL (cut b x.p3 x.n3) 0 = r := ⟨_, rfl⟩
      rw [hq] at hL
      have HQ3 := Lib.hid hq
      clear hq
      cases r with
      | flt c y d =>
        obtain ⟨fb, rfl, hf, hge, htn, cs', hm', h8⟩ := hL
        obtain ⟨u0, u1, u2, u3, u4, u5, u6, u7, rfl⟩ := arr8 cs' (h8.trans rfl)
        have HXP : Hid (RdX w bm be #[u0, u1, u2, u3, u4, u5, u6, u7] wb) := Lib.hid ⟨Turn.only HX33.out.g htn (fun k hk => by have := HNQ.out; have := HX33.out.h1; rcases hk with e | e <;> omega), hm', HX33.out.e.turn htn (fun hk => by have := HNQ.out; have := HX33.out.h3; rcases hk with e | e <;> omega), HX33.out.h1, HX33.out.h2, HX33.out.h3⟩
        have HFP : Hid (Flt wb fb c ((x.p3 + y : Nat) : Int)) := Lib.hid (by rw [Int.natCast_add]; exact hf)
        clear hf hge htn hm' h8
        go_wp2_with fail
        refine leaves_cons (f := 41) (args := #[.pointer (some ⟨bm, 0, none⟩), .pointer (some ⟨be, 0, none⟩)]) (by simp) (by simp [go_sem]) ?_
        refine (mrd_catch bm be fb _ _ _ _ _ _ _ _ _ [] _ HXP.out.m HXP.out.e HXP.out.h3).mono ?_
        rintro e u' w9 ⟨rfl, rfl, m1, m2, mt⟩
        have HR := Lib.hid (HXP.out.out (b := b) HFP.out (.inr ⟨x, HXX.out, by unfold readT; rw [HT1.out, secM_ok]; rw [HT2.out, secM_ok]; rw [show bootR (cut b x.p3 x.n3) = .flt c y d from endR_flt HQ3.out]; rfl⟩) mt)
        have k0 := m1.cell 0
        have k1 := m1.cell 1
        have k2 := m1.cell 2
        have k3 := m1.cell 3
        have k4 := m1.cell 4
        have k5 := m1.cell 5
        have k6 := m1.cell 6
        have k7 := m1.cell 7
        have kv := m2.cell 0
        simp [Leaves, settle, results, Tryz.results14, go_sem, k0, k1, k2, k3, k4, k5, k6, k7, kv]
        exact HR.out
      | ok l3 c3 =>
        obtain ⟨rfl, hrd, ⟨v3, a3, v4, a4, hm', hl3, ha3, hl4, ha4⟩, htn⟩ := hL
        have HXb : Hid (RdX w bm be #[v1, v2, v3, v4, a1, a2, a3, a4] wb) := Lib.hid ⟨Turn.only HX33.out.g htn (fun k hk => by have := HNQ.out; have := HX33.out.h1; rcases hk with e | e <;> omega), hm', HX33.out.e.turn htn (fun hk => by have := HNQ.out; have := HX33.out.h3; rcases hk with e | e <;> omega), HX33.out.h1, HX33.out.h2, HX33.out.h3⟩
        have HLb := Lib.hid (HL33.out.turn htn (fun hk => by have := HNQ.out; rcases hk with e | e <;> omega))
        have HRb := Lib.hid hrd
        have HSb : Hid (w3.heap.size ≤ wb.heap.size) := Lib.hid (Nat.le_trans HS33.out htn.size)
        have HV1_b := Lib.hid (HV1_33.out.kept nod_ok (KeptS.of_turn htn (fun k hk hk2 => by have := HNQ.out; rcases hk2 with e | e <;> omega)))
        have HA1_b := Lib.hid (HA1_33.out.kept int_ok (KeptS.of_turn htn (fun k hk hk2 => by have := HNQ.out; rcases hk2 with e | e <;> omega)))
        have HV2_b := Lib.hid (HV2_33.out.kept tpl_ok (KeptS.of_turn htn (fun k hk hk2 => by have := HNQ.out; rcases hk2 with e | e <;> omega)))
        have HA2_b := Lib.hid (HA2_33.out.kept int_ok (KeptS.of_turn htn (fun k hk hk2 => by have := HNQ.out; rcases hk2 with e | e <;> omega)))
        have HV3_b := Lib.hid (hl3.more edg_ok (by decide) (S' := fun k => w3.heap.size ≤ k) (fun k hk _ => Nat.le_trans HS33.out hk))
        have HA3_b := Lib.hid (ha3.more int_ok (by decide) (S' := fun k => w3.heap.size ≤ k) (fun k hk _ => Nat.le_trans HS33.out hk))
        have HV4_b := Lib.hid (hl4.more sta_ok (by decide) (S' := fun k => w3.heap.size ≤ k) (fun k hk _ => Nat.le_trans HS33.out hk))
        have HA4_b := Lib.hid (ha4.more int_ok (by decide) (S' := fun k => w3.heap.size ≤ k) (fun k hk _ => Nat.le_trans HS33.out hk))
        clear hrd htn hm' hl3 ha3 hl4 ha4
        have d2 := HLb.out.cell 2
        go_wp2_with fail
        clear d2
        by_cases hce : c3 = (cut b x.p3 x.n3).length
        rotate_left
        · refine (end_long HRb.out (by have := HRb.out.le; omega)).mono ?_
          rintro e wc ⟨fb, rfl, hf, hge, g5⟩
          have HXP := Lib.hid (HXb.out.kept g5)
          have HFP : Hid (Flt wc fb 4 ((x.p3 + c3 : Nat) : Int)) := Lib.hid (by rw [Int.natCast_add]; exact hf)
          have HCE := Lib.hid hce
          clear hf hge g5 hce
          go_wp2_with fail
          refine (mgive_yes _ _).mono ?_
          rintro e w8 ⟨rfl, rfl⟩
          go_wp2_with fail
          refine leaves_cons (f := 41) (args := #[.pointer (some ⟨bm, 0, none⟩), .pointer (some ⟨be, 0, none⟩)]) (by simp) (by simp [go_sem]) ?_
          refine (mrd_catch bm be fb _ _ _ _ _ _ _ _ _ [] _ HXP.out.m HXP.out.e HXP.out.h3).mono ?_
          rintro e u' w9 ⟨rfl, rfl, m1, m2, mt⟩
          have HR := Lib.hid (HXP.out.out (b := b) HFP.out (.inr ⟨x, HXX.out, by unfold readT; rw [HT1.out, secM_ok]; rw [HT2.out, secM_ok]; rw [show bootR (cut b x.p3 x.n3) = .flt 4 c3 c3 from endR_long HQ3.out HCE.out]; rfl⟩) mt)
          have k0 := m1.cell 0
          have k1 := m1.cell 1
          have k2 := m1.cell 2
          have k3 := m1.cell 3
          have k4 := m1.cell 4
          have k5 := m1.cell 5
          have k6 := m1.cell 6
          have k7 := m1.cell 7
          have kv := m2.cell 0
          simp [Leaves, settle, results, Tryz.results14, go_sem, k0, k1, k2, k3, k4, k5, k6, k7, kv]
          exact HR.out
        refine (end_ok HRb.out hce).mono ?_
        rintro e w34 ⟨rfl, g5⟩
        have HT3 := Lib.hid (show bootR (cut b x.p3 x.n3) = .ok l3 c3 from endR_ok HQ3.out hce)
        have HX34 := Lib.hid (HXb.out.kept g5)
        have HL34 := Lib.hid (HLb.out.kept g5)
        have HS34 : Hid (w3.heap.size ≤ w34.heap.size) := Lib.hid (Nat.le_trans HSb.out g5.size)
        have HV1_34 := Lib.hid (HV1_b.out.kept nod_ok (KeptS.none_ g5))
        have HA1_34 := Lib.hid (HA1_b.out.kept int_ok (KeptS.none_ g5))
        have HV2_34 := Lib.hid (HV2_b.out.kept tpl_ok (KeptS.none_ g5))
        have HA2_34 := Lib.hid (HA2_b.out.kept int_ok (KeptS.none_ g5))
        have HV3_34 := Lib.hid (HV3_b.out.kept edg_ok (KeptS.none_ g5))
        have HA3_34 := Lib.hid (HA3_b.out.kept int_ok (KeptS.none_ g5))
        have HV4_34 := Lib.hid (HV4_b.out.kept sta_ok (KeptS.none_ g5))
        have HA4_34 := Lib.hid (HA4_b.out.kept int_ok (KeptS.none_ g5))
        clear g5 hce HXb HLb HSb HRb HV1_b HA1_b HV2_b HA2_b HV3_b HA3_b HV4_b HA4_b 
        go_wp2_with fail
        refine (mgive_no _).mono ?_
        rintro e w8 ⟨rfl, rfl⟩
        obtain ⟨B0, s0, hB0, _⟩ := id HV1_34.out
        rw [List.length_map] at hB0
        subst hB0
        obtain ⟨B1, s1, hB1, _⟩ := id HV2_34.out
        rw [List.length_map] at hB1
        subst hB1
        obtain ⟨B2, s2, hB2, _⟩ := id HV3_34.out
        rw [List.length_map] at hB2
        subst hB2
        obtain ⟨B3, s3, hB3, _⟩ := id HV4_34.out
        rw [List.length_map] at hB3
        subst hB3
        obtain ⟨D0, r0, hD0, _⟩ := id HA1_34.out
        rw [ats_len] at hD0
        subst hD0
        obtain ⟨D1, r1, hD1, _⟩ := id HA2_34.out
        rw [ats_len] at hD1
        subst hD1
        obtain ⟨D2, r2, hD2, _⟩ := id HA3_34.out
        rw [ats_len] at hD2
        subst hD2
        obtain ⟨D3, r3, hD3, _⟩ := id HA4_34.out
        rw [ats_len] at hD3
        subst hD3
        have HM := Lib.hid HX34.out.m
        have d2 := HL34.out.cell 2
        go_wp2_with fail
        rw [rounds_succ]
        go_upto_region 9 with fail
        clear d2
        refine wp_region_lit ?_
        refine wpList_load_row rfl 28 (.tmp 2) rfl bm rfl 28 #[.slice B0 l1.length s0, .slice B1 l2.length s1, .slice B2 l3.1.length s2, .slice B3 l3.2.length s3, .slice D0 l1.length r0, .slice D1 l2.length r1, .slice D2 l3.1.length r2, .slice D3 l3.2.length r3] _ _ HX34.out.m Tryz.underlying28 rfl (by kernel_rfl) ?_
        simp only [Act.put, List.setIfInBounds_toArray, List.set_cons_zero, List.set_cons_succ]
        refine wpList_store_row rfl 28 (.tmp 2) (.tmp 29) rfl bm #[.slice B0 l1.length s0, .slice B1 l2.length s1, .slice B2 l3.1.length s2, .slice B3 l3.2.length s3, .slice D0 l1.length r0, .slice D1 l2.length r1, .slice D2 l3.1.length r2, .slice D3 l3.2.length r3] rfl rfl 28 #[.slice B0 l1.length s0, .slice B1 l2.length s1, .slice B2 l3.1.length s2, .slice B3 l3.2.length s3, .slice D0 l1.length r0, .slice D1 l2.length r1, .slice D2 l3.1.length r2, .slice D3 l3.2.length r3] HX34.out.m (by kernel_rfl) rfl (by simp [Value.oneCell']) ?_
        simp only [Act.put]
        have z8 := HX34.out.m.rowM #[.slice B0 l1.length s0, .slice B1 l2.length s1, .slice B2 l3.1.length s2, .slice B3 l3.2.length s3, .slice D0 l1.length r0, .slice D1 l2.length r1, .slice D2 l3.1.length r2, .slice D3 l3.2.length r3]
        have gk0 : w34.grownBy (w34.setRow bm #[.slice B0 l1.length s0, .slice B1 l2.length s1, .slice B2 l3.1.length s2, .slice B3 l3.2.length s3, .slice D0 l1.length r0, .slice D1 l2.length r1, .slice D2 l3.1.length r2, .slice D3 l3.2.length r3]) (some bm) := only_rowM _ _ _
        have e8 := HX34.out.e.grown gk0 (fun e => HX34.out.h3 (Option.some.inj e))
        have t8 : Turn (fun k => k = bm ∨ k = be) w34 (w34.setRow bm #[.slice B0 l1.length s0, .slice B1 l2.length s1, .slice B2 l3.1.length s2, .slice B3 l3.2.length s3, .slice D0 l1.length r0, .slice D1 l2.length r1, .slice D2 l3.1.length r2, .slice D3 l3.2.length r3]) := Turn.of_only gk0 (fun k e => .inl (Option.some.inj e).symm)
        clear gk0
        generalize (w34.setRow bm #[.slice B0 l1.length s0, .slice B1 l2.length s1, .slice B2 l3.1.length s2, .slice B3 l3.2.length s3, .slice D0 l1.length r0, .slice D1 l2.length r1, .slice D2 l3.1.length r2, .slice D3 l3.2.length r3]) = X7 at *
        have ec := e8.cell 0
        have ef := e8.frozen 0
        go_wp2_with fail
        clear ec ef
        have gk : X7.grownBy (X7.setCell ⟨be, 0, none⟩ .nilIface) (some be) := only_setCell (g := be) (p := ⟨be, 0, none⟩) (only_refl _ _) rfl _
        have b9 := z8.grown gk (fun e => HX34.out.h3 (Option.some.inj e).symm)
        have e9 : Blk (X7.setCell ⟨be, 0, none⟩ .nilIface) be 43 #[.nilIface] := e8.set_ 0 _
        have ht := t8.plus (Turn.of_only gk (fun k e => .inr (Option.some.inj e).symm))
        have HB9 := Lib.hid b9
        have HE9 := Lib.hid e9
        have HT9 := Lib.hid ht
        clear gk z8 e8 t8 b9 e9 ht
        generalize (X7.setCell ⟨be, 0, none⟩ .nilIface) = Wf at *
        have HR : Hid (ReadP b w (.returned (.tuple #[.agg #[.slice B0 l1.length s0, .slice B1 l2.length s1, .slice B2 l3.1.length s2, .slice B3 l3.2.length s3, .slice D0 l1.length r0, .slice D1 l2.length r1, .slice D2 l3.1.length r2, .slice D3 l3.2.length r3], .nilIface])) Wf) := Lib.hid (by
          have hn := HNQ.out
          have h1 := HX34.out.h1
          have h2 := HX34.out.h2
          have hk : KeptS (fun k => w3.heap.size ≤ k) w34 Wf := KeptS.of_turn HT9.out (fun k hk hk2 => by rcases hk2 with e | e <;> omega)
          have hs : ∀ k, w3.heap.size ≤ k → k < Wf.heap.size → w.heap.size ≤ k := fun k hk _ => by omega
          refine ⟨.ok ⟨l1.map Prod.fst, l2.map Prod.fst, l3.1.map Prod.fst, l3.2.map Prod.fst, ats x.p1 l1, ats x.p2 l2, ats x.p3 l3.1, ats x.p3 l3.2⟩, .inr ⟨x, HXX.out, ?_⟩, Turn.only HX34.out.g HT9.out (fun k hk => by rcases hk with e | e <;> omega), _, rfl, _, _, _, _, _, _, _, _, rfl,
            (HV1_34.out.kept nod_ok hk).more nod_ok (by decide) hs, (HV2_34.out.kept tpl_ok hk).more tpl_ok (by decide) hs, (HV3_34.out.kept edg_ok hk).more edg_ok (by decide) hs, (HV4_34.out.kept sta_ok hk).more sta_ok (by decide) hs,
            (HA1_34.out.kept int_ok hk).more int_ok (by decide) hs, (HA2_34.out.kept int_ok hk).more int_ok (by decide) hs, (HA3_34.out.kept int_ok hk).more int_ok (by decide) hs, (HA4_34.out.kept int_ok hk).more int_ok (by decide) hs⟩
          unfold readT
          rw [HT1.out, secM_ok, HT2.out, secM_ok, HT3.out, secM_ok])
        refine leaves_cons (f := 41) (args := #[.pointer (some ⟨bm, 0, none⟩), .pointer (some ⟨be, 0, none⟩)]) (by simp) (by simp [go_sem]) ?_
        refine (mrd_idle ⟨bm, 0, none⟩ ⟨be, 0, none⟩ _).mono ?_
        rintro e u' w9 ⟨rfl, rfl, rfl⟩
        have k0 := HB9.out.cell 0
        have k1 := HB9.out.cell 1
        have k2 := HB9.out.cell 2
        have k3 := HB9.out.cell 3
        have k4 := HB9.out.cell 4
        have k5 := HB9.out.cell 5
        have k6 := HB9.out.cell 6
        have k7 := HB9.out.cell 7
        have kv := HE9.out.cell 0
        simp [Leaves, settle, results, Tryz.results14, go_sem, k0, k1, k2, k3, k4, k5, k6, k7, kv]
        exact HR.out
end Go.Proofs.YtohhojbeclbedaaGreatDoor

/- Texts joined for the claim's sake: MWkA, MWkB, MWkC, MWkE, MWkF. -/
import Derived.Test.YtohhojbeclbedaaGreatDoorZMKnwRow21
import Derived.Test.YtohhojbeclbedaaGreatDoorZMKnwRow49
import Derived.Test.YtohhojbeclbedaaGreatDoorZMKnwRow38
import Derived.Test.YtohhojbeclbedaaGreatDoorZMKnwRow4
namespace Go.Proofs.YtohhojbeclbedaaGreatDoor
open Go.RowKit

theorem readP_is {b : List UInt8} {x : Parts} {r' r : MR} (hx : SplitOk b x) (h1 : (∃ c y, SplitFault b c y ∧ r' = .flt c y) ∨ (∃ x, SplitOk b x ∧ r' = readT x.p1 x.p2 x.p3 (cut b x.p1 x.n1) (cut b x.p2 x.n2) (cut b x.p3 x.n3))) (hr : readT x.p1 x.p2 x.p3 (cut b x.p1 x.n1) (cut b x.p2 x.n2) (cut b x.p3 x.n3) = r) : r' = r := by
  rcases h1 with ⟨c, y, hf, _⟩ | ⟨x', hx', e'⟩
  · exact (split_not hf hx).elim
  · obtain rfl := split_one hx' hx
    rw [e', hr]
/-- What Read leaves of bytes that are split so, and read as a module. -/
theorem readP_ok {b : List UInt8} {w w' : World} {e : Ending} {x : Parts} {m : Mo} (h : ReadP b w e w') (hx : SplitOk b x) (hr : readT x.p1 x.p2 x.p3 (cut b x.p1 x.n1) (cut b x.p2 x.n2) (cut b x.p3 x.n3) = .ok m) :
    w.grownBy w' none ∧ ∃ cs, e = .returned (.tuple #[.agg cs, .nilIface]) ∧ ModE (fun k => w.heap.size ≤ k) w' m cs := by
  obtain ⟨r', h1, h2, h3⟩ := h
  obtain rfl := readP_is hx h1 hr
  exact ⟨h2, h3⟩
/-- And of such as are not. -/
theorem readP_flt {b : List UInt8} {w w' : World} {e : Ending} {x : Parts} {c y : Int} (h : ReadP b w e w') (hx : SplitOk b x) (hr : readT x.p1 x.p2 x.p3 (cut b x.p1 x.n1) (cut b x.p2 x.n2) (cut b x.p3 x.n3) = .flt c y) :
    w.grownBy w' none ∧ ∃ fb, e = .returned (.tuple #[.agg #[.slice none 0 0, .slice none 0 0, .slice none 0 0, .slice none 0 0, .slice none 0 0, .slice none 0 0, .slice none 0 0, .slice none 0 0], .iface 94 (.pointer (some ⟨fb, 0, none⟩))]) ∧ Flt w' fb c y := by
  obtain ⟨r', h1, h2, h3⟩ := h
  obtain rfl := readP_is hx h1 hr
  exact ⟨h2, h3⟩
theorem split_l (a b : UInt8) : SplitOk [67, 76, 81, 89, 1, 1, 2, 1, a, 2, 4, 1, 0, 1, b, 3, 4, 0, 1, 0, 0] (partsOf [1, a] [1, 0, 1, b] [0, 1, 0, 0]) ∧ (∀ f : Nat → Nat → Nat → List UInt8 → List UInt8 → List UInt8 → MR, f (partsOf [1, a] [1, 0, 1, b] [0, 1, 0, 0]).p1 (partsOf [1, a] [1, 0, 1, b] [0, 1, 0, 0]).p2 (partsOf [1, a] [1, 0, 1, b] [0, 1, 0, 0]).p3
      (cut [67, 76, 81, 89, 1, 1, 2, 1, a, 2, 4, 1, 0, 1, b, 3, 4, 0, 1, 0, 0] (partsOf [1, a] [1, 0, 1, b] [0, 1, 0, 0]).p1 (partsOf [1, a] [1, 0, 1, b] [0, 1, 0, 0]).n1) (cut [67, 76, 81, 89, 1, 1, 2, 1, a, 2, 4, 1, 0, 1, b, 3, 4, 0, 1, 0, 0] (partsOf [1, a] [1, 0, 1, b] [0, 1, 0, 0]).p2 (partsOf [1, a] [1, 0, 1, b] [0, 1, 0, 0]).n2) (cut [67, 76, 81, 89, 1, 1, 2, 1, a, 2, 4, 1, 0, 1, b, 3, 4, 0, 1, 0, 0] (partsOf [1, a] [1, 0, 1, b] [0, 1, 0, 0]).p3 (partsOf [1, a] [1, 0, 1, b] [0, 1, 0, 0]).n3) = f 7 11 17 [1, a] [1, 0, 1, b] [0, 1, 0, 0]) := by
  obtain ⟨h1, h2, h3, h4⟩ := joined_ok [1, a] [1, 0, 1, b] [0, 1, 0, 0] (by simp) (by simp) (by simp)
  obtain ⟨p1, p2, p3⟩ := parts_l a b
  rw [joined_l] at h1 h2 h3 h4
  refine ⟨h1, fun f => ?_⟩
  rw [h2, h3, h4, p1, p2, p3]
end Go.Proofs.YtohhojbeclbedaaGreatDoor

namespace Go.Proofs.YtohhojbeclbedaaGreatDoor
open Go.RowKit

/-- The chapter's module, as it is made. -/
def leastP : Mo := ⟨[⟨0, 0, false, ⟨0, 0⟩, []⟩], [⟨[], [⟨24, 0, 0, 0, 0, []⟩], []⟩], [], [⟨0, []⟩], [], [], [], []⟩
theorem fit_least : leastP.Fit := ⟨fun t ht x hx => by simp [leastP] at ht; subst ht; simp at hx; subst hx; exact ⟨by decide, by decide⟩, fun s hs a ha => by simp [leastP] at hs; subst hs; simp at ha⟩
theorem types_least : typesO leastP = some [1, 0] := by
  simp [typesO, listO, okO, numO, cat, allO, nodO, nodB, moreB, leastP, sev_0, sev_1]
theorem boot_least : bootO leastP = some [0, 1, 0, 0] := by
  simp [bootO, listO, okO, numO, cat, allO, staO, leastP, sev_0, sev_1]
theorem tpls_least : tplsO leastP = some [1, 0, 1, 24] := by
  have e : insO ⟨24, 0, 0, 0, 0, []⟩ = some [24] := by
    unfold insO
    rw [if_pos (by kernel_rfl)]
    congr 1
  simp [tplsO, listO, okO, numO, cat, allO, tplO, leastP, sev_0, sev_1, e]
theorem put_least : putP leastP = ([67, 76, 81, 89, 1, 1, 2, 1, 0, 2, 4, 1, 0, 1, 24, 3, 4, 0, 1, 0, 0], 0) := by
  unfold putP
  rw [types_least, tpls_least, boot_least]
  show joinV _ _ _ = _
  unfold joinV
  rw [if_pos (by simp), joined_l]
theorem one_row {α : Type} {E : Enc α} {sz : Nat} {S : Nat → Prop} {W : World} {g : Nat} {t : TypeId} {x : α} {cs : Array Value} (hb : Blk W g t cs) (hS : S g) (hE : E S W x cs) : ListA E sz S W (.slice (some ⟨g, 0, none⟩) 1 1) [x] := by
  refine ⟨_, 1, rfl, by simp, by omega, fun _ => ⟨g, 0, rfl, hS, fun i y hy => ?_⟩⟩
  have hi : i = 0 := by have := (List.getElem?_eq_some_iff.1 hy).1; simpa using this
  subst hi
  simp only [List.getElem?_cons_zero, Option.some.injEq] at hy
  subst hy
  refine ⟨cs, hE, fun j u hu => ?_⟩
  have := hb.cell j
  simp only [Nat.zero_mul, Nat.zero_add]
  rw [this]
  exact hu
set_option maxRecDepth 100000 in
set_option maxHeartbeats 1000000 in
theorem least_any (w : World) : Calls Tryz.prog 36 #[] w fun e w' => ∃ a b c : Nat, e = .returned (.agg #[.slice (some ⟨a, 0, none⟩) 1 1, .slice (some ⟨b, 0, none⟩) 1 1, .slice none 0 0, .slice (some ⟨c, 0, none⟩) 1 1, .slice none 0 0, .slice none 0 0, .slice none 0 0, .slice none 0 0]) ∧ w.grownBy w' none ∧ ModR (fun k => k < w'.heap.size) w' leastP (some ⟨a, 0, none⟩) (some ⟨b, 0, none⟩) none (some ⟨c, 0, none⟩) 1 1 1 1 0 0 1 1 := by
  obtain ⟨MC, hMC⟩ : ∃ MC : Array Value, #[.slice (some ⟨w.heap.size + 1, 0, none⟩) 1 1, .slice (some ⟨w.heap.size + 1 + 1 + 1, 0, none⟩) 1 1, .slice none 0 0, .slice (some ⟨w.heap.size + 1 + 1 + 1 + 1, 0, none⟩) 1 1, .slice none 0 0, .slice none 0 0, .slice none 0 0, .slice none 0 0] = MC := ⟨_, rfl⟩
  have HG : Hid (w.grownBy (((((w.alloc (.cells MC 28)).alloc (.cells #[.int .i64 0, .int .i64 0, .bool false, .int .i64 0, .int .i64 0, .slice none 0 0] 65)).alloc (.cells #[.int .i64 24, .int .i64 0, .int .i64 0, .int .i64 0, .int .i64 0, .slice none 0 0] 52)).alloc (.cells #[.slice none 0 0, .slice (some ⟨w.heap.size + 1 + 1, 0, none⟩) 1 1, .slice none 0 0] 50)).alloc (.cells #[.int .i64 0, .slice none 0 0] 74)) none) := Lib.hid (only_alloc (only_alloc (only_alloc (only_alloc (only_alloc (only_refl _ _) _) _) _) _) _)
  have B0 := (((((Blk.new w 28 MC).alloc (.cells #[.int .i64 0, .int .i64 0, .bool false, .int .i64 0, .int .i64 0, .slice none 0 0] 65)).alloc (.cells #[.int .i64 24, .int .i64 0, .int .i64 0, .int .i64 0, .int .i64 0, .slice none 0 0] 52)).alloc (.cells #[.slice none 0 0, .slice (some ⟨w.heap.size + 1 + 1, 0, none⟩) 1 1, .slice none 0 0] 50)).alloc (.cells #[.int .i64 0, .slice none 0 0] 74))
  have B1 : Blk (((((w.alloc (.cells MC 28)).alloc (.cells #[.int .i64 0, .int .i64 0, .bool false, .int .i64 0, .int .i64 0, .slice none 0 0] 65)).alloc (.cells #[.int .i64 24, .int .i64 0, .int .i64 0, .int .i64 0, .int .i64 0, .slice none 0 0] 52)).alloc (.cells #[.slice none 0 0, .slice (some ⟨w.heap.size + 1 + 1, 0, none⟩) 1 1, .slice none 0 0] 50)).alloc (.cells #[.int .i64 0, .slice none 0 0] 74)) (w.heap.size + 1) 65 #[.int .i64 0, .int .i64 0, .bool false, .int .i64 0, .int .i64 0, .slice none 0 0] := (((blk_new_at (by simp) _ _).alloc _).alloc _).alloc _
  have B2 : Blk (((((w.alloc (.cells MC 28)).alloc (.cells #[.int .i64 0, .int .i64 0, .bool false, .int .i64 0, .int .i64 0, .slice none 0 0] 65)).alloc (.cells #[.int .i64 24, .int .i64 0, .int .i64 0, .int .i64 0, .int .i64 0, .slice none 0 0] 52)).alloc (.cells #[.slice none 0 0, .slice (some ⟨w.heap.size + 1 + 1, 0, none⟩) 1 1, .slice none 0 0] 50)).alloc (.cells #[.int .i64 0, .slice none 0 0] 74)) (w.heap.size + 1 + 1) 52 #[.int .i64 24, .int .i64 0, .int .i64 0, .int .i64 0, .int .i64 0, .slice none 0 0] := ((blk_new_at (by simp) _ _).alloc _).alloc _
  have B3 : Blk (((((w.alloc (.cells MC 28)).alloc (.cells #[.int .i64 0, .int .i64 0, .bool false, .int .i64 0, .int .i64 0, .slice none 0 0] 65)).alloc (.cells #[.int .i64 24, .int .i64 0, .int .i64 0, .int .i64 0, .int .i64 0, .slice none 0 0] 52)).alloc (.cells #[.slice none 0 0, .slice (some ⟨w.heap.size + 1 + 1, 0, none⟩) 1 1, .slice none 0 0] 50)).alloc (.cells #[.int .i64 0, .slice none 0 0] 74)) (w.heap.size + 1 + 1 + 1) 50 #[.slice none 0 0, .slice (some ⟨w.heap.size + 1 + 1, 0, none⟩) 1 1, .slice none 0 0] := (blk_new_at (by simp) _ _).alloc _
  have B4 : Blk (((((w.alloc (.cells MC 28)).alloc (.cells #[.int .i64 0, .int .i64 0, .bool false, .int .i64 0, .int .i64 0, .slice none 0 0] 65)).alloc (.cells #[.int .i64 24, .int .i64 0, .int .i64 0, .int .i64 0, .int .i64 0, .slice none 0 0] 52)).alloc (.cells #[.slice none 0 0, .slice (some ⟨w.heap.size + 1 + 1, 0, none⟩) 1 1, .slice none 0 0] 50)).alloc (.cells #[.int .i64 0, .slice none 0 0] 74)) (w.heap.size + 1 + 1 + 1 + 1) 74 #[.int .i64 0, .slice none 0 0] := blk_new_at (by simp) _ _
  have H0 := Lib.hid B0
  have H1 := Lib.hid B1
  have H2 := Lib.hid B2
  have H3 := Lib.hid B3
  have H4 := Lib.hid B4
  have HMC := Lib.hid hMC
  clear B0 B1 B2 B3 B4 hMC
  go_enter Tryz.func36, Tryz.ntmps36
  go_wp2_with fail
  rw [HMC.out]
  refine bodyPost_ret (results_cell_row rfl _ _ w.heap.size 28 MC _ _ rfl H0.out Tryz.underlying28 rfl (by rw [← HMC.out]; kernel_rfl)) rfl ?_
  refine ⟨_, _, _, by rw [← HMC.out], HG.out, ⟨one_row H1.out H1.out.lt ⟨_, rfl, ListA.nil_ _ _⟩, one_row H3.out H3.out.lt ⟨_, _, _, rfl, ListA.nil_ _ _, one_row H2.out H2.out.lt ⟨_, rfl, ⟨none, 0, rfl, fun h => absurd rfl h⟩⟩, ListA.nil_ _ _⟩, ListA.nil_ _ _, one_row H4.out H4.out.lt ⟨_, rfl, ListA.nil_ _ _⟩⟩⟩
end Go.Proofs.YtohhojbeclbedaaGreatDoor

namespace Go.Proofs.YtohhojbeclbedaaGreatDoor
open Go.RowKit

set_option maxRecDepth 100000 in
set_option maxHeartbeats 1000000 in
theorem mfails_any (t : ByteArray) {b : List UInt8} (ht : t.data.toList = b) (hsz : t.size ≤ 4611686018427387904) {x : Parts} {c y : Int} (hx : SplitOk b x) (hr : readT x.p1 x.p2 x.p3 (cut b x.p1 x.n1) (cut b x.p2 x.n2) (cut b x.p3 x.n3) = .flt c y) (hc : (c == 0) = false) (w : World) (hE : ErrType w) :
    Calls Tryz.prog 20 #[.string t, .int .i64 c, .int .i64 y] w fun e w' => e = .returned (.bool true) ∧ w.grownBy w' none := by
  have HP := Lib.hid fun W hW => mread_any t hsz W hW
  have HX := Lib.hid hx
  have HR := Lib.hid hr
  have HT := Lib.hid ht
  have HE := Lib.hid hE
  have HC := Lib.hid hc
  clear hx hr ht hE hsz hc
  go_enter Tryz.func20, Tryz.ntmps20
  go_wp2_with fail
  refine (HP.out w HE.out).mono ?_
  intro e w1 hL
  rw [HT.out] at hL
  obtain ⟨g1, fb, rfl, hf⟩ := readP_flt hL HX.out HR.out
  have HG1 := Lib.hid g1
  have HF := Lib.hid hf
  clear hL g1 hf
  go_upto_region 2 with fail
  have hga : w1.grownBy (w1.alloc (.cells #[.slice none 0 0, .slice none 0 0, .slice none 0 0, .slice none 0 0, .slice none 0 0, .slice none 0 0, .slice none 0 0, .slice none 0 0] 28)) none := only_alloc (only_refl _ _) _
  have HG2 := Lib.hid (only_trans HG1.out hga)
  have HF2 : Hid (Flt (w1.alloc (.cells #[.slice none 0 0, .slice none 0 0, .slice none 0 0, .slice none 0 0, .slice none 0 0, .slice none 0 0, .slice none 0 0, .slice none 0 0] 28)) fb c y) := Lib.hid (Blk.kept HF.out hga)
  have HM := Lib.hid (Blk.new w1 28 #[.slice none 0 0, .slice none 0 0, .slice none 0 0, .slice none 0 0, .slice none 0 0, .slice none 0 0, .slice none 0 0, .slice none 0 0])
  have HE2 := Lib.hid (HE.out.kept HG2.out (fun _ e => by cases e))
  generalize (w1.alloc (.cells #[.slice none 0 0, .slice none 0 0, .slice none 0 0, .slice none 0 0, .slice none 0 0, .slice none 0 0, .slice none 0 0, .slice none 0 0] 28)) = w2 at *
  generalize w1.heap.size = bm at *
  clear hga
  go_wp2_with fail
  refine (told_hit fb c y _ HE2.out HF2.out HC.out).mono ?_
  rintro e w3 ⟨rfl, g3⟩
  have HG3 := Lib.hid (only_trans HG2.out g3)
  have hm := HM.out.kept g3
  have c0 := hm.cell 0
  have c1 := hm.cell 1
  have c2 := hm.cell 2
  have c3 := hm.cell 3
  clear g3 hm
  go_wp2_with fail
  go_ret
  exact ⟨rfl, HG3.out⟩
end Go.Proofs.YtohhojbeclbedaaGreatDoor

namespace Go.Proofs.YtohhojbeclbedaaGreatDoor
open Go.RowKit

/-- The empty module. -/
def emptyP : Mo := ⟨[], [], [], [], [], [], [], []⟩
/-- A template that is empty. -/
def onetP : Mo := ⟨[], [⟨[], [], []⟩], [], [], [], [], [], []⟩
theorem joined_e : joined [0] [0] [0, 0] = [67, 76, 81, 89, 1, 1, 1, 0, 2, 1, 0, 3, 2, 0, 0] := by
  unfold joined sec
  have e2 : sev 2 = [2] := sev_2
  have e1 : sev 1 = [1] := sev_1
  simp [hd5, e2, e1]
theorem fit_empty : emptyP.Fit := ⟨fun t ht => by simp [emptyP] at ht, fun s hs => by simp [emptyP] at hs⟩
theorem fit_onet : onetP.Fit := ⟨fun t ht x hx => by simp [onetP] at ht; subst ht; simp at hx, fun s hs => by simp [onetP] at hs⟩
theorem put_empty : putP emptyP = ([67, 76, 81, 89, 1, 1, 1, 0, 2, 1, 0, 3, 2, 0, 0], 0) := by
  have e1 : typesO emptyP = some [0] := by simp [typesO, listO, okO, numO, cat, allO, emptyP, sev_0]
  have e2 : tplsO emptyP = some [0] := by simp [tplsO, listO, okO, numO, cat, allO, emptyP, sev_0]
  have e3 : bootO emptyP = some [0, 0] := by simp [bootO, listO, okO, numO, cat, allO, emptyP, sev_0]
  unfold putP
  rw [e1, e2, e3]
  show joinV _ _ _ = _
  unfold joinV
  rw [if_pos (by simp), joined_e]
theorem put_onet : putP onetP = ([], 2) := by
  have e2 : tplsO onetP = none := by simp [tplsO, listO, okO, numO, cat, allO, tplO, onetP, sev_0, sev_1]
  unfold putP
  rw [e2]
  cases typesO onetP <;> rfl
theorem nil_empty (W : World) : ModR (fun k => k < W.heap.size) W emptyP none none none none 0 0 0 0 0 0 0 0 :=
  ⟨ListA.nil_ _ _, ListA.nil_ _ _, ListA.nil_ _ _, ListA.nil_ _ _⟩
theorem nil_onet {W : World} {b : Nat} (hb : Blk W b 50 #[.slice none 0 0, .slice none 0 0, .slice none 0 0]) : ModR (fun k => k < W.heap.size) W onetP none (some ⟨b, 0, none⟩) none none 0 0 1 1 0 0 0 0 :=
  ⟨ListA.nil_ _ _, one_row hb hb.lt ⟨_, _, _, rfl, ListA.nil_ _ _, ListA.nil_ _ _, ListA.nil_ _ _⟩, ListA.nil_ _ _, ListA.nil_ _ _⟩
end Go.Proofs.YtohhojbeclbedaaGreatDoor

namespace Go.Proofs.YtohhojbeclbedaaGreatDoor
open Go.RowKit

theorem one_at {α : Type} {E : Enc α} {sz : Nat} {S : Nat → Prop} {W : World} {v : Value} {x : α} (h : ListA E sz S W v [x]) : ∃ b off c cs, v = .slice (some ⟨b, off, none⟩) 1 c ∧ 1 ≤ c ∧ E S W x cs ∧ ∀ (j : Nat) (u : Value), cs[j]? = some u → W.cell? ⟨b, off + j, none⟩ = some u := by
  obtain ⟨A, c, h1, h2, h3, h4⟩ := h
  obtain ⟨b, off, rfl, h6, h7⟩ := h4 (by simp)
  obtain ⟨cs, h8, h9⟩ := h7 0 x rfl
  refine ⟨b, off, c, cs, h1, h2, h8, fun j u hu => ?_⟩
  have := h9 j u hu
  rw [Nat.zero_mul, Nat.add_zero] at this
  exact this
/-- The chapter's module with an operation, as the cells of its record say. -/
structure LM (W : World) (op : Int) (cs : Array Value) (a4 a5 a7 : Addr) (b1 o1 : Nat) (ac aa : Addr) (c4 c5 c7 c1 cc ca : Nat) (v0 v2 v3 v6 : Value) : Prop where
  cells : cs = #[v0, .slice (some ⟨b1, o1, none⟩) 1 c1, v2, v3, .slice (some a4) 1 c4, .slice (some a5) 1 c5, v6, .slice (some a7) 1 c7]
  h4 : W.cell? a4 = some (.int .i64 8)
  h5 : W.cell? a5 = some (.int .i64 12)
  h7 : W.cell? a7 = some (.int .i64 19)
  tc : W.cell? ⟨b1, o1 + 1, none⟩ = some (.slice (some ac) 1 cc)
  ta : W.cell? ⟨b1, o1 + 2, none⟩ = some (.slice (some aa) 1 ca)
  hc : W.cell? ac = some (.int .i64 op)
  ha : W.cell? aa = some (.int .i64 14)
theorem mod_one {S : Nat → Prop} {W : World} {op : Int} {cs : Array Value} (h : ModE S W ⟨[⟨0, 0, false, ⟨0, 0⟩, []⟩], [⟨[], [⟨op, 0, 0, 0, 0, []⟩], [14]⟩], [], [⟨0, []⟩], [8], [12], [], [19]⟩ cs) :
    ∃ (b4 o4 b5 o5 b7 o7 b1 o1 bc oc ba oa c4 c5 c7 c1 cc ca : Nat) (A0 A2 A3 A6 : Option Addr) (q0 q2 q3 q6 : Nat), LM W op cs ⟨b4, o4, none⟩ ⟨b5, o5, none⟩ ⟨b7, o7, none⟩ b1 o1 ⟨bc, oc, none⟩ ⟨ba, oa, none⟩ c4 c5 c7 c1 cc ca (.slice A0 1 q0) (.slice A2 0 q2) (.slice A3 1 q3) (.slice A6 0 q6) := by
  obtain ⟨v0, v1, v2, v3, v4, v5, v6, v7, rfl, h0, h1, h2, h3, h4, h5, h6, h7⟩ := h
  obtain ⟨A0, q0, rfl, -, -⟩ := h0.slice
  obtain ⟨A2, q2, rfl, -, -⟩ := h2.slice
  obtain ⟨A3, q3, rfl, -, -⟩ := h3.slice
  obtain ⟨A6, q6, rfl, -, -⟩ := h6.slice
  obtain ⟨b4, o4, c4, cs4, rfl, -, e4, k4⟩ := one_at h4
  obtain ⟨b5, o5, c5, cs5, rfl, -, e5, k5⟩ := one_at h5
  obtain ⟨b7, o7, c7, cs7, rfl, -, e7, k7⟩ := one_at h7
  obtain ⟨b1, o1, c1, cs1, rfl, -, ⟨pv, cv, av, rfl, -, t1, t2⟩, k1⟩ := one_at h1
  obtain ⟨bc, oc, cc, csc, rfl, -, ⟨lv, rfl, -⟩, kc⟩ := one_at t1
  obtain ⟨ba, oa, ca, csa, rfl, -, ea, ka⟩ := one_at t2
  subst e4 e5 e7 ea
  exact ⟨b4, o4, b5, o5, b7, o7, b1, o1, bc, oc, ba, oa, c4, c5, c7, c1, cc, ca, A0, A2, A3, A6, q0, q2, q3, q6, rfl, k4 0 _ rfl, k5 0 _ rfl, k7 0 _ rfl, k1 1 _ rfl, k1 2 _ rfl, kc 0 _ rfl, ka 0 _ rfl⟩
theorem LM.kept {W W' : World} {op : Int} {cs : Array Value} {a4 a5 a7 : Addr} {b1 o1 : Nat} {ac aa : Addr} {c4 c5 c7 c1 cc ca : Nat} {v0 v2 v3 v6 : Value} (h : LM W op cs a4 a5 a7 b1 o1 ac aa c4 c5 c7 c1 cc ca v0 v2 v3 v6) (hg : W.grownBy W' none) : LM W' op cs a4 a5 a7 b1 o1 ac aa c4 c5 c7 c1 cc ca v0 v2 v3 v6 := by
  have hk : ∀ {p : Addr} {v : Value}, W.cell? p = some v → W'.cell? p = some v := fun {p v} hp => cell_row hp hg (by simp)
  exact ⟨h.cells, hk h.h4, hk h.h5, hk h.h7, hk h.tc, hk h.ta, hk h.hc, hk h.ha⟩
/-- What Put answers, told at once. -/
theorem put_is {m : Mo} {e : Ending} {w w' : World} {b : List UInt8} {k : Int} (h : e = .returned (putV m) ∧ w.grownBy w' none) (hp : putP m = (b, k)) : e = .returned (.tuple #[.string ⟨b.toArray⟩, .int .i64 k]) ∧ w.grownBy w' none := by
  unfold putV at h
  rw [hp] at h
  exact h
end Go.Proofs.YtohhojbeclbedaaGreatDoor

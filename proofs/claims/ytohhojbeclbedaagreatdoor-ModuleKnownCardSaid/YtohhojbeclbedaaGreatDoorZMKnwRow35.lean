/- Texts joined for the claim's sake: MPuG. -/
import Derived.Test.YtohhojbeclbedaaGreatDoorZMKnwRow33
import Derived.Test.YtohhojbeclbedaaGreatDoorZMKnwRow34
import Derived.Test.YtohhojbeclbedaaGreatDoorZMKnwRow31
namespace Go.Proofs.YtohhojbeclbedaaGreatDoor
open Go.RowKit

/-- A state as something's parts are laid: the writer's, the block that holds its pointer, the thing's own block, what its lists are. -/
structure PS (B g : Nat) (w : World) (bs : List UInt8) (bp k : Nat) (T : TypeId) (cs : Array Value) (R : World → Prop) (t : List UInt8) (W : World) : Prop where
  pm : PM B g w bs t W
  p : Blk W bp 79 #[.pointer (some ⟨g, 0, none⟩)]
  n : Blk W k T cs
  z : B ≤ W.heap.size
  r : R W
section
variable {B g : Nat} {w : World} {bs : List UInt8}
theorem PS.more {bp k : Nat} {T : TypeId} {cs : Array Value} {R : World → Prop} {t u : List UInt8} {W W1 : World} {S : Nat → Prop} (h : PS B g w bs bp k T cs R t W) (hR : ∀ W W', R W → KeptS S W W' → R W') (hS : ∀ b, S b → b < B) (h1 : T ≠ 182) (h2 : T ≠ 5) (hw : Wtr B W1 g ((bs ++ t) ++ u)) (ht : Turn (WS B W g) W W1) : PS B g w bs bp k T cs R (t ++ u) W1 :=
  ⟨h.pm.next hw ht, h.p.turn ht (not_ws h.pm.wt h.p (by decide) (by decide)), h.n.turn ht (not_ws h.pm.wt h.n h1 h2), Nat.le_trans h.z ht.size, hR _ _ h.r (KeptS.turn h.pm.wt ht hS)⟩
theorem PS.none_ {bp k : Nat} {T : TypeId} {cs : Array Value} {R : World → Prop} {t : List UInt8} {W W1 : World} {S : Nat → Prop} (h : PS B g w bs bp k T cs R t W) (hR : ∀ W W', R W → KeptS S W W' → R W') (hg : W.grownBy W1 none) : PS B g w bs bp k T cs R t W1 :=
  ⟨h.pm.none_ hg, h.p.kept hg, h.n.kept hg, Nat.le_trans h.z hg.size, hR _ _ h.r (KeptS.none_ hg)⟩
theorem PS.out {bp k : Nat} {T : TypeId} {cs : Array Value} {R : World → Prop} {t : List UInt8} {W W1 : World} (h : PS B g w bs bp k T cs R t W) (ht : Turn (WS B W g) W W1) : LaidR B g w bs none gaveArg W1 := h.pm.out ht
set_option maxRecDepth 100000 in
set_option maxHeartbeats 4000000 in
theorem mnode_5 {S : Nat → Prop} (h : Wtr B w g bs) (hB : B ≤ w.heap.size) (hS : ∀ b, S b → b < B)  (b : Bool) (prio to sh : Int) (l : List Edg) (A : Option Addr) (n c : Nat) (hn : l.length = n) (hx : ListA EdgE 2 S w (.slice A n c) l) (hl : bs.length + 30000 ≤ 1099511627776) (hm : moreB ⟨5, prio, b, ⟨to, sh⟩, l⟩ = false) :
    Calls Tryz.prog 66 #[.pointer (some ⟨g, 0, none⟩), .agg #[.int .i64 5, .int .i64 prio, .bool b, .int .i64 to, .int .i64 sh, .slice A n c]] w (LaidR B g w bs (cat (numO 5 5) (onlyO l))) := by
  have HM := Lib.hid hm
  clear hm
  obtain ⟨o1, ho1⟩ : ∃ o, numO 5 5 = o := ⟨_, rfl⟩
  rw [ho1]
  have HO1 := Lib.hid ho1
  clear ho1
  obtain ⟨o5, ho5⟩ : ∃ o, onlyO l = o := ⟨_, rfl⟩
  rw [ho5]
  have HO5 := Lib.hid ho5
  clear ho5
  have hg0 : w.grownBy ((w.alloc (.cells #[.pointer (some ⟨g, 0, none⟩)] 79)).alloc (.cells #[.int .i64 5, .int .i64 prio, .bool b, .int .i64 to, .int .i64 sh, .slice A n c] 65)) none := only_alloc (only_alloc (only_refl _ _) _) _
  have HP : Hid (PS B g w bs w.heap.size (w.heap.size + 1) 65 #[.int .i64 5, .int .i64 prio, .bool b, .int .i64 to, .int .i64 sh, .slice A n c] (fun W => ListA EdgE 2 S W (.slice A n c) l) [] ((w.alloc (.cells #[.pointer (some ⟨g, 0, none⟩)] 79)).alloc (.cells #[.int .i64 5, .int .i64 prio, .bool b, .int .i64 to, .int .i64 sh, .slice A n c] 65))) :=
    Lib.hid ⟨PM.start h hg0, (Blk.new _ _ _).alloc _, blk_new_at (by simp) _ _, by have := hg0.size; omega, hx.kept edg_ok (KeptS.none_ hg0)⟩
  have HL : Hid (bs.length + 30000 ≤ 1099511627776) := Lib.hid hl
  have HS := Lib.hid hS
  have HN := Lib.hid hn
  have HR : Hid (∀ W W', ListA EdgE 2 S W (.slice A n c) l → KeptS S W W' → ListA EdgE 2 S W' (.slice A n c) l) := Lib.hid fun _ _ h1 h2 => h1.kept edg_ok h2
  clear h hB hl hg0 hx hS hn
  go_enter Tryz.func66, Tryz.ntmps66
  go_upto_region 1 with fail
  generalize ((w.alloc (.cells #[.pointer (some ⟨g, 0, none⟩)] 79)).alloc (.cells #[.int .i64 5, .int .i64 prio, .bool b, .int .i64 to, .int .i64 sh, .slice A n c] 65)) = W1 at *
  generalize hbn : w.heap.size + 1 = bn at *
  clear hbn
  generalize w.heap.size = bp at *
  have c0 : W1.cell? ⟨bn, 0, none⟩ = some (.int .i64 5) := HP.out.n.cell 0
  have c1 : W1.cell? ⟨bn, 1, none⟩ = some (.int .i64 prio) := HP.out.n.cell 1
  have c2 : W1.cell? ⟨bn, 2, none⟩ = some (.bool b) := HP.out.n.cell 2
  have c3 : W1.cell? ⟨bn, 3, none⟩ = some (.int .i64 to) := HP.out.n.cell 3
  have c4 : W1.cell? ⟨bn, 4, none⟩ = some (.int .i64 sh) := HP.out.n.cell 4
  have c5 : W1.cell? ⟨bn, 5, none⟩ = some (.slice A n c) := HP.out.n.cell 5
  have cb : W1.cell? ⟨bp, 0, none⟩ = some (.pointer (some ⟨g, 0, none⟩)) := HP.out.p.cell 0
  go_wp2_with fail
  refine (mmore_any _ _ _ _ _ l A n c HN.out _ _ HM.out).mono ?_
  rintro e w1 ⟨rfl, g1⟩
  have HP1 := Lib.hid (HP.out.none_ HR.out g1)
  clear g1 HP c0 c1 c2 c3 c4 c5 cb
  go_wp2_with fail
  refine (mrefuse_no _).mono ?_
  rintro e w9 ⟨rfl, rfl⟩
  have c0 : w1.cell? ⟨bn, 0, none⟩ = some (.int .i64 5) := HP1.out.n.cell 0
  have c1 : w1.cell? ⟨bn, 1, none⟩ = some (.int .i64 prio) := HP1.out.n.cell 1
  have c2 : w1.cell? ⟨bn, 2, none⟩ = some (.bool b) := HP1.out.n.cell 2
  have c3 : w1.cell? ⟨bn, 3, none⟩ = some (.int .i64 to) := HP1.out.n.cell 3
  have c4 : w1.cell? ⟨bn, 4, none⟩ = some (.int .i64 sh) := HP1.out.n.cell 4
  have c5 : w1.cell? ⟨bn, 5, none⟩ = some (.slice A n c) := HP1.out.n.cell 5
  have cb : w1.cell? ⟨bp, 0, none⟩ = some (.pointer (some ⟨g, 0, none⟩)) := HP1.out.p.cell 0
  go_wp2_with fail
  clear c0 c1 c2 c3 c4 c5 cb
  refine (mnum_any HP1.out.pm.wt HP1.out.z _ 5 (by omega) (by have := HL.out; simp; omega)).mono ?_
  rintro e w2 hL
  rw [HO1.out] at hL
  rcases hL.cases with ⟨t1, rfl, rfl, hw1, ht1⟩ | ⟨rfl, rfl, ht1⟩
  rotate_left
  · have HRR := Lib.hid (HP1.out.out ht1)
    clear hL ht1
    go_wp2_with fail
    exact ⟨rfl, HRR.out⟩
  have HP2 := Lib.hid (HP1.out.more HR.out HS.out (by decide) (by decide) hw1 ht1)
  have HT1 : Hid (t1.length ≤ 10) := Lib.hid (AtMost.num (by omega) t1 HO1.out)
  clear hL hw1 ht1 HP1
  have c0 : w2.cell? ⟨bn, 0, none⟩ = some (.int .i64 5) := HP2.out.n.cell 0
  have c1 : w2.cell? ⟨bn, 1, none⟩ = some (.int .i64 prio) := HP2.out.n.cell 1
  have c2 : w2.cell? ⟨bn, 2, none⟩ = some (.bool b) := HP2.out.n.cell 2
  have c3 : w2.cell? ⟨bn, 3, none⟩ = some (.int .i64 to) := HP2.out.n.cell 3
  have c4 : w2.cell? ⟨bn, 4, none⟩ = some (.int .i64 sh) := HP2.out.n.cell 4
  have c5 : w2.cell? ⟨bn, 5, none⟩ = some (.slice A n c) := HP2.out.n.cell 5
  have cb : w2.cell? ⟨bp, 0, none⟩ = some (.pointer (some ⟨g, 0, none⟩)) := HP2.out.p.cell 0
  go_wp2_with fail
  clear c0 c1 c2 c3 c4 c5 cb
  refine (monly_any HP2.out.pm.wt HP2.out.z _ _ HP2.out.r (by have := HL.out; have := HT1.out; simp; omega)).mono ?_
  rintro e w3 hL
  rw [HO5.out] at hL
  have HRR := Lib.hid (HP2.out.pm.then_ hL)
  rcases hL.cases with ⟨t, rfl, rfl, hw1, ht1⟩ | ⟨rfl, rfl, ht1⟩
  · clear hL hw1 ht1
    go_wp2_with fail
    go_end0
    exact HRR.out.eq (by simp [cat])
  · clear hL ht1
    go_wp2_with fail
    exact ⟨rfl, HRR.out⟩
set_option maxRecDepth 100000 in
set_option maxHeartbeats 4000000 in
theorem mnode_1_yes {S : Nat → Prop} (h : Wtr B w g bs) (hB : B ≤ w.heap.size) (hS : ∀ b, S b → b < B)  (prio to sh : Int) (l : List Edg) (A : Option Addr) (n c : Nat) (hn : l.length = n) (hx : ListA EdgE 2 S w (.slice A n c) l) (hl : bs.length + 30000 ≤ 1099511627776) (hm : moreB ⟨1, prio, true, ⟨to, sh⟩, l⟩ = false) :
    Calls Tryz.prog 66 #[.pointer (some ⟨g, 0, none⟩), .agg #[.int .i64 1, .int .i64 prio, .bool true, .int .i64 to, .int .i64 sh, .slice A n c]] w (LaidR B g w bs (cat (numO 1 5) (cat (numO prio 1000) (cat (markO true) (cat (edgO ⟨to, sh⟩) (onlyO l)))))) := by
  have HM := Lib.hid hm
  clear hm
  obtain ⟨o1, ho1⟩ : ∃ o, numO 1 5 = o := ⟨_, rfl⟩
  rw [ho1]
  have HO1 := Lib.hid ho1
  clear ho1
  obtain ⟨o2, ho2⟩ : ∃ o, numO prio 1000 = o := ⟨_, rfl⟩
  rw [ho2]
  have HO2 := Lib.hid ho2
  clear ho2
  obtain ⟨o3, ho3⟩ : ∃ o, markO true = o := ⟨_, rfl⟩
  rw [ho3]
  have HO3 := Lib.hid ho3
  clear ho3
  obtain ⟨o4, ho4⟩ : ∃ o, edgO ⟨to, sh⟩ = o := ⟨_, rfl⟩
  rw [ho4]
  have HO4 := Lib.hid ho4
  clear ho4
  obtain ⟨o5, ho5⟩ : ∃ o, onlyO l = o := ⟨_, rfl⟩
  rw [ho5]
  have HO5 := Lib.hid ho5
  clear ho5
  have hg0 : w.grownBy ((w.alloc (.cells #[.pointer (some ⟨g, 0, none⟩)] 79)).alloc (.cells #[.int .i64 1, .int .i64 prio, .bool true, .int .i64 to, .int .i64 sh, .slice A n c] 65)) none := only_alloc (only_alloc (only_refl _ _) _) _
  have HP : Hid (PS B g w bs w.heap.size (w.heap.size + 1) 65 #[.int .i64 1, .int .i64 prio, .bool true, .int .i64 to, .int .i64 sh, .slice A n c] (fun W => ListA EdgE 2 S W (.slice A n c) l) [] ((w.alloc (.cells #[.pointer (some ⟨g, 0, none⟩)] 79)).alloc (.cells #[.int .i64 1, .int .i64 prio, .bool true, .int .i64 to, .int .i64 sh, .slice A n c] 65))) :=
    Lib.hid ⟨PM.start h hg0, (Blk.new _ _ _).alloc _, blk_new_at (by simp) _ _, by have := hg0.size; omega, hx.kept edg_ok (KeptS.none_ hg0)⟩
  have HL : Hid (bs.length + 30000 ≤ 1099511627776) := Lib.hid hl
  have HS := Lib.hid hS
  have HN := Lib.hid hn
  have HR : Hid (∀ W W', ListA EdgE 2 S W (.slice A n c) l → KeptS S W W' → ListA EdgE 2 S W' (.slice A n c) l) := Lib.hid fun _ _ h1 h2 => h1.kept edg_ok h2
  clear h hB hl hg0 hx hS hn
  go_enter Tryz.func66, Tryz.ntmps66
  go_upto_region 1 with fail
  generalize ((w.alloc (.cells #[.pointer (some ⟨g, 0, none⟩)] 79)).alloc (.cells #[.int .i64 1, .int .i64 prio, .bool true, .int .i64 to, .int .i64 sh, .slice A n c] 65)) = W1 at *
  generalize hbn : w.heap.size + 1 = bn at *
  clear hbn
  generalize w.heap.size = bp at *
  have c0 : W1.cell? ⟨bn, 0, none⟩ = some (.int .i64 1) := HP.out.n.cell 0
  have c1 : W1.cell? ⟨bn, 1, none⟩ = some (.int .i64 prio) := HP.out.n.cell 1
  have c2 : W1.cell? ⟨bn, 2, none⟩ = some (.bool true) := HP.out.n.cell 2
  have c3 : W1.cell? ⟨bn, 3, none⟩ = some (.int .i64 to) := HP.out.n.cell 3
  have c4 : W1.cell? ⟨bn, 4, none⟩ = some (.int .i64 sh) := HP.out.n.cell 4
  have c5 : W1.cell? ⟨bn, 5, none⟩ = some (.slice A n c) := HP.out.n.cell 5
  have cb : W1.cell? ⟨bp, 0, none⟩ = some (.pointer (some ⟨g, 0, none⟩)) := HP.out.p.cell 0
  go_wp2_with fail
  refine (mmore_any _ _ _ _ _ l A n c HN.out _ _ HM.out).mono ?_
  rintro e w1 ⟨rfl, g1⟩
  have HP1 := Lib.hid (HP.out.none_ HR.out g1)
  clear g1 HP c0 c1 c2 c3 c4 c5 cb
  go_wp2_with fail
  refine (mrefuse_no _).mono ?_
  rintro e w9 ⟨rfl, rfl⟩
  have c0 : w1.cell? ⟨bn, 0, none⟩ = some (.int .i64 1) := HP1.out.n.cell 0
  have c1 : w1.cell? ⟨bn, 1, none⟩ = some (.int .i64 prio) := HP1.out.n.cell 1
  have c2 : w1.cell? ⟨bn, 2, none⟩ = some (.bool true) := HP1.out.n.cell 2
  have c3 : w1.cell? ⟨bn, 3, none⟩ = some (.int .i64 to) := HP1.out.n.cell 3
  have c4 : w1.cell? ⟨bn, 4, none⟩ = some (.int .i64 sh) := HP1.out.n.cell 4
  have c5 : w1.cell? ⟨bn, 5, none⟩ = some (.slice A n c) := HP1.out.n.cell 5
  have cb : w1.cell? ⟨bp, 0, none⟩ = some (.pointer (some ⟨g, 0, none⟩)) := HP1.out.p.cell 0
  go_wp2_with fail
  clear c0 c1 c2 c3 c4 c5 cb
  refine (mnum_any HP1.out.pm.wt HP1.out.z _ 5 (by omega) (by have := HL.out; simp; omega)).mono ?_
  rintro e w2 hL
  rw [HO1.out] at hL
  rcases hL.cases with ⟨t1, rfl, rfl, hw1, ht1⟩ | ⟨rfl, rfl, ht1⟩
  rotate_left
  · have HRR := Lib.hid (HP1.out.out ht1)
    clear hL ht1
    go_wp2_with fail
    exact ⟨rfl, HRR.out⟩
  have HP2 := Lib.hid (HP1.out.more HR.out HS.out (by decide) (by decide) hw1 ht1)
  have HT1 : Hid (t1.length ≤ 10) := Lib.hid (AtMost.num (by omega) t1 HO1.out)
  clear hL hw1 ht1 HP1
  have c0 : w2.cell? ⟨bn, 0, none⟩ = some (.int .i64 1) := HP2.out.n.cell 0
  have c1 : w2.cell? ⟨bn, 1, none⟩ = some (.int .i64 prio) := HP2.out.n.cell 1
  have c2 : w2.cell? ⟨bn, 2, none⟩ = some (.bool true) := HP2.out.n.cell 2
  have c3 : w2.cell? ⟨bn, 3, none⟩ = some (.int .i64 to) := HP2.out.n.cell 3
  have c4 : w2.cell? ⟨bn, 4, none⟩ = some (.int .i64 sh) := HP2.out.n.cell 4
  have c5 : w2.cell? ⟨bn, 5, none⟩ = some (.slice A n c) := HP2.out.n.cell 5
  have cb : w2.cell? ⟨bp, 0, none⟩ = some (.pointer (some ⟨g, 0, none⟩)) := HP2.out.p.cell 0
  go_wp2_with fail
  clear c0 c1 c2 c3 c4 c5 cb
  refine (mnum_any HP2.out.pm.wt HP2.out.z _ 1000 (by omega) (by have := HL.out; have := HT1.out; simp; omega)).mono ?_
  rintro e w3 hL
  rw [HO2.out] at hL
  rcases hL.cases with ⟨t2, rfl, rfl, hw1, ht1⟩ | ⟨rfl, rfl, ht1⟩
  rotate_left
  · have HRR := Lib.hid (HP2.out.out ht1)
    clear hL ht1
    go_wp2_with fail
    exact ⟨rfl, HRR.out⟩
  have HP3 := Lib.hid (HP2.out.more HR.out HS.out (by decide) (by decide) hw1 ht1)
  have HT2 : Hid (t2.length ≤ 10) := Lib.hid (AtMost.num (by omega) t2 HO2.out)
  clear hL hw1 ht1 HP2
  have c0 : w3.cell? ⟨bn, 0, none⟩ = some (.int .i64 1) := HP3.out.n.cell 0
  have c1 : w3.cell? ⟨bn, 1, none⟩ = some (.int .i64 prio) := HP3.out.n.cell 1
  have c2 : w3.cell? ⟨bn, 2, none⟩ = some (.bool true) := HP3.out.n.cell 2
  have c3 : w3.cell? ⟨bn, 3, none⟩ = some (.int .i64 to) := HP3.out.n.cell 3
  have c4 : w3.cell? ⟨bn, 4, none⟩ = some (.int .i64 sh) := HP3.out.n.cell 4
  have c5 : w3.cell? ⟨bn, 5, none⟩ = some (.slice A n c) := HP3.out.n.cell 5
  have cb : w3.cell? ⟨bp, 0, none⟩ = some (.pointer (some ⟨g, 0, none⟩)) := HP3.out.p.cell 0
  go_wp2_with fail
  clear c0 c1 c2 c3 c4 c5 cb
  refine (mmark_any HP3.out.pm.wt HP3.out.z _ (by have := HL.out; have := HT1.out; have := HT2.out; simp; omega)).mono ?_
  rintro e w4 hL
  rw [HO3.out] at hL
  rcases hL.cases with ⟨t3, rfl, rfl, hw1, ht1⟩ | ⟨rfl, rfl, ht1⟩
  rotate_left
  · have HRR := Lib.hid (HP3.out.out ht1)
    clear hL ht1
    go_wp2_with fail
    exact ⟨rfl, HRR.out⟩
  have HP4 := Lib.hid (HP3.out.more HR.out HS.out (by decide) (by decide) hw1 ht1)
  have HT3 : Hid (t3.length ≤ 1) := Lib.hid (AtMost.mark _ t3 HO3.out)
  clear hL hw1 ht1 HP3
  have c0 : w4.cell? ⟨bn, 0, none⟩ = some (.int .i64 1) := HP4.out.n.cell 0
  have c1 : w4.cell? ⟨bn, 1, none⟩ = some (.int .i64 prio) := HP4.out.n.cell 1
  have c2 : w4.cell? ⟨bn, 2, none⟩ = some (.bool true) := HP4.out.n.cell 2
  have c3 : w4.cell? ⟨bn, 3, none⟩ = some (.int .i64 to) := HP4.out.n.cell 3
  have c4 : w4.cell? ⟨bn, 4, none⟩ = some (.int .i64 sh) := HP4.out.n.cell 4
  have c5 : w4.cell? ⟨bn, 5, none⟩ = some (.slice A n c) := HP4.out.n.cell 5
  have cb : w4.cell? ⟨bp, 0, none⟩ = some (.pointer (some ⟨g, 0, none⟩)) := HP4.out.p.cell 0
  go_wp2_with fail
  clear c0 c1 c2 c3 c4 c5 cb
  refine (medge_any HP4.out.pm.wt HP4.out.z _ _ (by have := HL.out; have := HT1.out; have := HT2.out; have := HT3.out; simp; omega)).mono ?_
  rintro e w5 hL
  rw [HO4.out] at hL
  rcases hL.cases with ⟨t4, rfl, rfl, hw1, ht1⟩ | ⟨rfl, rfl, ht1⟩
  rotate_left
  · have HRR := Lib.hid (HP4.out.out ht1)
    clear hL ht1
    go_wp2_with fail
    exact ⟨rfl, HRR.out⟩
  have HP5 := Lib.hid (HP4.out.more HR.out HS.out (by decide) (by decide) hw1 ht1)
  have HT4 : Hid (t4.length ≤ 20) := Lib.hid (AtMost.edg _ t4 HO4.out)
  clear hL hw1 ht1 HP4
  have c0 : w5.cell? ⟨bn, 0, none⟩ = some (.int .i64 1) := HP5.out.n.cell 0
  have c1 : w5.cell? ⟨bn, 1, none⟩ = some (.int .i64 prio) := HP5.out.n.cell 1
  have c2 : w5.cell? ⟨bn, 2, none⟩ = some (.bool true) := HP5.out.n.cell 2
  have c3 : w5.cell? ⟨bn, 3, none⟩ = some (.int .i64 to) := HP5.out.n.cell 3
  have c4 : w5.cell? ⟨bn, 4, none⟩ = some (.int .i64 sh) := HP5.out.n.cell 4
  have c5 : w5.cell? ⟨bn, 5, none⟩ = some (.slice A n c) := HP5.out.n.cell 5
  have cb : w5.cell? ⟨bp, 0, none⟩ = some (.pointer (some ⟨g, 0, none⟩)) := HP5.out.p.cell 0
  go_wp2_with fail
  clear c0 c1 c2 c3 c4 c5 cb
  refine (monly_any HP5.out.pm.wt HP5.out.z _ _ HP5.out.r (by have := HL.out; have := HT1.out; have := HT2.out; have := HT3.out; have := HT4.out; simp; omega)).mono ?_
  rintro e w6 hL
  rw [HO5.out] at hL
  have HRR := Lib.hid (HP5.out.pm.then_ hL)
  rcases hL.cases with ⟨t, rfl, rfl, hw1, ht1⟩ | ⟨rfl, rfl, ht1⟩
  · clear hL hw1 ht1
    go_wp2_with fail
    go_end0
    exact HRR.out.eq (by simp [cat])
  · clear hL ht1
    go_wp2_with fail
    exact ⟨rfl, HRR.out⟩
set_option maxRecDepth 100000 in
set_option maxHeartbeats 4000000 in
theorem mnode_1_no {S : Nat → Prop} (h : Wtr B w g bs) (hB : B ≤ w.heap.size) (hS : ∀ b, S b → b < B)  (prio to sh : Int) (l : List Edg) (A : Option Addr) (n c : Nat) (hn : l.length = n) (hx : ListA EdgE 2 S w (.slice A n c) l) (hl : bs.length + 30000 ≤ 1099511627776) (hm : moreB ⟨1, prio, false, ⟨to, sh⟩, l⟩ = false) :
    Calls Tryz.prog 66 #[.pointer (some ⟨g, 0, none⟩), .agg #[.int .i64 1, .int .i64 prio, .bool false, .int .i64 to, .int .i64 sh, .slice A n c]] w (LaidR B g w bs (cat (numO 1 5) (cat (numO prio 1000) (cat (markO false) (onlyO l))))) := by
  have HM := Lib.hid hm
  clear hm
  obtain ⟨o1, ho1⟩ : ∃ o, numO 1 5 = o := ⟨_, rfl⟩
  rw [ho1]
  have HO1 := Lib.hid ho1
  clear ho1
  obtain ⟨o2, ho2⟩ : ∃ o, numO prio 1000 = o := ⟨_, rfl⟩
  rw [ho2]
  have HO2 := Lib.hid ho2
  clear ho2
  obtain ⟨o3, ho3⟩ : ∃ o, markO false = o := ⟨_, rfl⟩
  rw [ho3]
  have HO3 := Lib.hid ho3
  clear ho3
  obtain ⟨o5, ho5⟩ : ∃ o, onlyO l = o := ⟨_, rfl⟩
  rw [ho5]
  have HO5 := Lib.hid ho5
  clear ho5
  have hg0 : w.grownBy ((w.alloc (.cells #[.pointer (some ⟨g, 0, none⟩)] 79)).alloc (.cells #[.int .i64 1, .int .i64 prio, .bool false, .int .i64 to, .int .i64 sh, .slice A n c] 65)) none := only_alloc (only_alloc (only_refl _ _) _) _
  have HP : Hid (PS B g w bs w.heap.size (w.heap.size + 1) 65 #[.int .i64 1, .int .i64 prio, .bool false, .int .i64 to, .int .i64 sh, .slice A n c] (fun W => ListA EdgE 2 S W (.slice A n c) l) [] ((w.alloc (.cells #[.pointer (some ⟨g, 0, none⟩)] 79)).alloc (.cells #[.int .i64 1, .int .i64 prio, .bool false, .int .i64 to, .int .i64 sh, .slice A n c] 65))) :=
    Lib.hid ⟨PM.start h hg0, (Blk.new _ _ _).alloc _, blk_new_at (by simp) _ _, by have := hg0.size; omega, hx.kept edg_ok (KeptS.none_ hg0)⟩
  have HL : Hid (bs.length + 30000 ≤ 1099511627776) := Lib.hid hl
  have HS := Lib.hid hS
  have HN := Lib.hid hn
  have HR : Hid (∀ W W', ListA EdgE 2 S W (.slice A n c) l → KeptS S W W' → ListA EdgE 2 S W' (.slice A n c) l) := Lib.hid fun _ _ h1 h2 => h1.kept edg_ok h2
  clear h hB hl hg0 hx hS hn
  go_enter Tryz.func66, Tryz.ntmps66
  go_upto_region 1 with fail
  generalize ((w.alloc (.cells #[.pointer (some ⟨g, 0, none⟩)] 79)).alloc (.cells #[.int .i64 1, .int .i64 prio, .bool false, .int .i64 to, .int .i64 sh, .slice A n c] 65)) = W1 at *
  generalize hbn : w.heap.size + 1 = bn at *
  clear hbn
  generalize w.heap.size = bp at *
  have c0 : W1.cell? ⟨bn, 0, none⟩ = some (.int .i64 1) := HP.out.n.cell 0
  have c1 : W1.cell? ⟨bn, 1, none⟩ = some (.int .i64 prio) := HP.out.n.cell 1
  have c2 : W1.cell? ⟨bn, 2, none⟩ = some (.bool false) := HP.out.n.cell 2
  have c3 : W1.cell? ⟨bn, 3, none⟩ = some (.int .i64 to) := HP.out.n.cell 3
  have c4 : W1.cell? ⟨bn, 4, none⟩ = some (.int .i64 sh) := HP.out.n.cell 4
  have c5 : W1.cell? ⟨bn, 5, none⟩ = some (.slice A n c) := HP.out.n.cell 5
  have cb : W1.cell? ⟨bp, 0, none⟩ = some (.pointer (some ⟨g, 0, none⟩)) := HP.out.p.cell 0
  go_wp2_with fail
  refine (mmore_any _ _ _ _ _ l A n c HN.out _ _ HM.out).mono ?_
  rintro e w1 ⟨rfl, g1⟩
  have HP1 := Lib.hid (HP.out.none_ HR.out g1)
  clear g1 HP c0 c1 c2 c3 c4 c5 cb
  go_wp2_with fail
  refine (mrefuse_no _).mono ?_
  rintro e w9 ⟨rfl, rfl⟩
  have c0 : w1.cell? ⟨bn, 0, none⟩ = some (.int .i64 1) := HP1.out.n.cell 0
  have c1 : w1.cell? ⟨bn, 1, none⟩ = some (.int .i64 prio) := HP1.out.n.cell 1
  have c2 : w1.cell? ⟨bn, 2, none⟩ = some (.bool false) := HP1.out.n.cell 2
  have c3 : w1.cell? ⟨bn, 3, none⟩ = some (.int .i64 to) := HP1.out.n.cell 3
  have c4 : w1.cell? ⟨bn, 4, none⟩ = some (.int .i64 sh) := HP1.out.n.cell 4
  have c5 : w1.cell? ⟨bn, 5, none⟩ = some (.slice A n c) := HP1.out.n.cell 5
  have cb : w1.cell? ⟨bp, 0, none⟩ = some (.pointer (some ⟨g, 0, none⟩)) := HP1.out.p.cell 0
  go_wp2_with fail
  clear c0 c1 c2 c3 c4 c5 cb
  refine (mnum_any HP1.out.pm.wt HP1.out.z _ 5 (by omega) (by have := HL.out; simp; omega)).mono ?_
  rintro e w2 hL
  rw [HO1.out] at hL
  rcases hL.cases with ⟨t1, rfl, rfl, hw1, ht1⟩ | ⟨rfl, rfl, ht1⟩
  rotate_left
  · have HRR := Lib.hid (HP1.out.out ht1)
    clear hL ht1
    go_wp2_with fail
    exact ⟨rfl, HRR.out⟩
  have HP2 := Lib.hid (HP1.out.more HR.out HS.out (by decide) (by decide) hw1 ht1)
  have HT1 : Hid (t1.length ≤ 10) := Lib.hid (AtMost.num (by omega) t1 HO1.out)
  clear hL hw1 ht1 HP1
  have c0 : w2.cell? ⟨bn, 0, none⟩ = some (.int .i64 1) := HP2.out.n.cell 0
  have c1 : w2.cell? ⟨bn, 1, none⟩ = some (.int .i64 prio) := HP2.out.n.cell 1
  have c2 : w2.cell? ⟨bn, 2, none⟩ = some (.bool false) := HP2.out.n.cell 2
  have c3 : w2.cell? ⟨bn, 3, none⟩ = some (.int .i64 to) := HP2.out.n.cell 3
  have c4 : w2.cell? ⟨bn, 4, none⟩ = some (.int .i64 sh) := HP2.out.n.cell 4
  have c5 : w2.cell? ⟨bn, 5, none⟩ = some (.slice A n c) := HP2.out.n.cell 5
  have cb : w2.cell? ⟨bp, 0, none⟩ = some (.pointer (some ⟨g, 0, none⟩)) := HP2.out.p.cell 0
  go_wp2_with fail
  clear c0 c1 c2 c3 c4 c5 cb
  refine (mnum_any HP2.out.pm.wt HP2.out.z _ 1000 (by omega) (by have := HL.out; have := HT1.out; simp; omega)).mono ?_
  rintro e w3 hL
  rw [HO2.out] at hL
  rcases hL.cases with ⟨t2, rfl, rfl, hw1, ht1⟩ | ⟨rfl, rfl, ht1⟩
  rotate_left
  · have HRR := Lib.hid (HP2.out.out ht1)
    clear hL ht1
    go_wp2_with fail
    exact ⟨rfl, HRR.out⟩
  have HP3 := Lib.hid (HP2.out.more HR.out HS.out (by decide) (by decide) hw1 ht1)
  have HT2 : Hid (t2.length ≤ 10) := Lib.hid (AtMost.num (by omega) t2 HO2.out)
  clear hL hw1 ht1 HP2
  have c0 : w3.cell? ⟨bn, 0, none⟩ = some (.int .i64 1) := HP3.out.n.cell 0
  have c1 : w3.cell? ⟨bn, 1, none⟩ = some (.int .i64 prio) := HP3.out.n.cell 1
  have c2 : w3.cell? ⟨bn, 2, none⟩ = some (.bool false) := HP3.out.n.cell 2
  have c3 : w3.cell? ⟨bn, 3, none⟩ = some (.int .i64 to) := HP3.out.n.cell 3
  have c4 : w3.cell? ⟨bn, 4, none⟩ = some (.int .i64 sh) := HP3.out.n.cell 4
  have c5 : w3.cell? ⟨bn, 5, none⟩ = some (.slice A n c) := HP3.out.n.cell 5
  have cb : w3.cell? ⟨bp, 0, none⟩ = some (.pointer (some ⟨g, 0, none⟩)) := HP3.out.p.cell 0
  go_wp2_with fail
  clear c0 c1 c2 c3 c4 c5 cb
  refine (mmark_any HP3.out.pm.wt HP3.out.z _ (by have := HL.out; have := HT1.out; have := HT2.out; simp; omega)).mono ?_
  rintro e w4 hL
  rw [HO3.out] at hL
  rcases hL.cases with ⟨t3, rfl, rfl, hw1, ht1⟩ | ⟨rfl, rfl, ht1⟩
  rotate_left
  · have HRR := Lib.hid (HP3.out.out ht1)
    clear hL ht1
    go_wp2_with fail
    exact ⟨rfl, HRR.out⟩
  have HP4 := Lib.hid (HP3.out.more HR.out HS.out (by decide) (by decide) hw1 ht1)
  have HT3 : Hid (t3.length ≤ 1) := Lib.hid (AtMost.mark _ t3 HO3.out)
  clear hL hw1 ht1 HP3
  have c0 : w4.cell? ⟨bn, 0, none⟩ = some (.int .i64 1) := HP4.out.n.cell 0
  have c1 : w4.cell? ⟨bn, 1, none⟩ = some (.int .i64 prio) := HP4.out.n.cell 1
  have c2 : w4.cell? ⟨bn, 2, none⟩ = some (.bool false) := HP4.out.n.cell 2
  have c3 : w4.cell? ⟨bn, 3, none⟩ = some (.int .i64 to) := HP4.out.n.cell 3
  have c4 : w4.cell? ⟨bn, 4, none⟩ = some (.int .i64 sh) := HP4.out.n.cell 4
  have c5 : w4.cell? ⟨bn, 5, none⟩ = some (.slice A n c) := HP4.out.n.cell 5
  have cb : w4.cell? ⟨bp, 0, none⟩ = some (.pointer (some ⟨g, 0, none⟩)) := HP4.out.p.cell 0
  go_wp2_with fail
  clear c0 c1 c2 c3 c4 c5 cb
  refine (monly_any HP4.out.pm.wt HP4.out.z _ _ HP4.out.r (by have := HL.out; have := HT1.out; have := HT2.out; have := HT3.out; simp; omega)).mono ?_
  rintro e w5 hL
  rw [HO5.out] at hL
  have HRR := Lib.hid (HP4.out.pm.then_ hL)
  rcases hL.cases with ⟨t, rfl, rfl, hw1, ht1⟩ | ⟨rfl, rfl, ht1⟩
  · clear hL hw1 ht1
    go_wp2_with fail
    go_end0
    exact HRR.out.eq (by simp [cat])
  · clear hL ht1
    go_wp2_with fail
    exact ⟨rfl, HRR.out⟩
set_option maxRecDepth 100000 in
set_option maxHeartbeats 4000000 in
theorem mnode_2_yes {S : Nat → Prop} (h : Wtr B w g bs) (hB : B ≤ w.heap.size) (hS : ∀ b, S b → b < B)  (prio to sh : Int) (l : List Edg) (A : Option Addr) (n c : Nat) (hn : l.length = n) (hx : ListA EdgE 2 S w (.slice A n c) l) (hl : bs.length + 30000 ≤ 1099511627776) (hm : moreB ⟨2, prio, true, ⟨to, sh⟩, l⟩ = false) :
    Calls Tryz.prog 66 #[.pointer (some ⟨g, 0, none⟩), .agg #[.int .i64 2, .int .i64 prio, .bool true, .int .i64 to, .int .i64 sh, .slice A n c]] w (LaidR B g w bs (cat (numO 2 5) (cat (numO prio 1000) (cat (markO true) (cat (edgO ⟨to, sh⟩) (onlyO l)))))) := by
  have HM := Lib.hid hm
  clear hm
  obtain ⟨o1, ho1⟩ : ∃ o, numO 2 5 = o := ⟨_, rfl⟩
  rw [ho1]
  have HO1 := Lib.hid ho1
  clear ho1
  obtain ⟨o2, ho2⟩ : ∃ o, numO prio 1000 = o := ⟨_, rfl⟩
  rw [ho2]
  have HO2 := Lib.hid ho2
  clear ho2
  obtain ⟨o3, ho3⟩ : ∃ o, markO true = o := ⟨_, rfl⟩
  rw [ho3]
  have HO3 := Lib.hid ho3
  clear ho3
  obtain ⟨o4, ho4⟩ : ∃ o, edgO ⟨to, sh⟩ = o := ⟨_, rfl⟩
  rw [ho4]
  have HO4 := Lib.hid ho4
  clear ho4
  obtain ⟨o5, ho5⟩ : ∃ o, onlyO l = o := ⟨_, rfl⟩
  rw [ho5]
  have HO5 := Lib.hid ho5
  clear ho5
  have hg0 : w.grownBy ((w.alloc (.cells #[.pointer (some ⟨g, 0, none⟩)] 79)).alloc (.cells #[.int .i64 2, .int .i64 prio, .bool true, .int .i64 to, .int .i64 sh, .slice A n c] 65)) none := only_alloc (only_alloc (only_refl _ _) _) _
  have HP : Hid (PS B g w bs w.heap.size (w.heap.size + 1) 65 #[.int .i64 2, .int .i64 prio, .bool true, .int .i64 to, .int .i64 sh, .slice A n c] (fun W => ListA EdgE 2 S W (.slice A n c) l) [] ((w.alloc (.cells #[.pointer (some ⟨g, 0, none⟩)] 79)).alloc (.cells #[.int .i64 2, .int .i64 prio, .bool true, .int .i64 to, .int .i64 sh, .slice A n c] 65))) :=
    Lib.hid ⟨PM.start h hg0, (Blk.new _ _ _).alloc _, blk_new_at (by simp) _ _, by have := hg0.size; omega, hx.kept edg_ok (KeptS.none_ hg0)⟩
  have HL : Hid (bs.length + 30000 ≤ 1099511627776) := Lib.hid hl
  have HS := Lib.hid hS
  have HN := Lib.hid hn
  have HR : Hid (∀ W W', ListA EdgE 2 S W (.slice A n c) l → KeptS S W W' → ListA EdgE 2 S W' (.slice A n c) l) := Lib.hid fun _ _ h1 h2 => h1.kept edg_ok h2
  clear h hB hl hg0 hx hS hn
  go_enter Tryz.func66, Tryz.ntmps66
  go_upto_region 1 with fail
  generalize ((w.alloc (.cells #[.pointer (some ⟨g, 0, none⟩)] 79)).alloc (.cells #[.int .i64 2, .int .i64 prio, .bool true, .int .i64 to, .int .i64 sh, .slice A n c] 65)) = W1 at *
  generalize hbn : w.heap.size + 1 = bn at *
  clear hbn
  generalize w.heap.size = bp at *
  have c0 : W1.cell? ⟨bn, 0, none⟩ = some (.int .i64 2) := HP.out.n.cell 0
  have c1 : W1.cell? ⟨bn, 1, none⟩ = some (.int .i64 prio) := HP.out.n.cell 1
  have c2 : W1.cell? ⟨bn, 2, none⟩ = some (.bool true) := HP.out.n.cell 2
  have c3 : W1.cell? ⟨bn, 3, none⟩ = some (.int .i64 to) := HP.out.n.cell 3
  have c4 : W1.cell? ⟨bn, 4, none⟩ = some (.int .i64 sh) := HP.out.n.cell 4
  have c5 : W1.cell? ⟨bn, 5, none⟩ = some (.slice A n c) := HP.out.n.cell 5
  have cb : W1.cell? ⟨bp, 0, none⟩ = some (.pointer (some ⟨g, 0, none⟩)) := HP.out.p.cell 0
  go_wp2_with fail
  refine (mmore_any _ _ _ _ _ l A n c HN.out _ _ HM.out).mono ?_
  rintro e w1 ⟨rfl, g1⟩
  have HP1 := Lib.hid (HP.out.none_ HR.out g1)
  clear g1 HP c0 c1 c2 c3 c4 c5 cb
  go_wp2_with fail
  refine (mrefuse_no _).mono ?_
  rintro e w9 ⟨rfl, rfl⟩
  have c0 : w1.cell? ⟨bn, 0, none⟩ = some (.int .i64 2) := HP1.out.n.cell 0
  have c1 : w1.cell? ⟨bn, 1, none⟩ = some (.int .i64 prio) := HP1.out.n.cell 1
  have c2 : w1.cell? ⟨bn, 2, none⟩ = some (.bool true) := HP1.out.n.cell 2
  have c3 : w1.cell? ⟨bn, 3, none⟩ = some (.int .i64 to) := HP1.out.n.cell 3
  have c4 : w1.cell? ⟨bn, 4, none⟩ = some (.int .i64 sh) := HP1.out.n.cell 4
  have c5 : w1.cell? ⟨bn, 5, none⟩ = some (.slice A n c) := HP1.out.n.cell 5
  have cb : w1.cell? ⟨bp, 0, none⟩ = some (.pointer (some ⟨g, 0, none⟩)) := HP1.out.p.cell 0
  go_wp2_with fail
  clear c0 c1 c2 c3 c4 c5 cb
  refine (mnum_any HP1.out.pm.wt HP1.out.z _ 5 (by omega) (by have := HL.out; simp; omega)).mono ?_
  rintro e w2 hL
  rw [HO1.out] at hL
  rcases hL.cases with ⟨t1, rfl, rfl, hw1, ht1⟩ | ⟨rfl, rfl, ht1⟩
  rotate_left
  · have HRR := Lib.hid (HP1.out.out ht1)
    clear hL ht1
    go_wp2_with fail
    exact ⟨rfl, HRR.out⟩
  have HP2 := Lib.hid (HP1.out.more HR.out HS.out (by decide) (by decide) hw1 ht1)
  have HT1 : Hid (t1.length ≤ 10) := Lib.hid (AtMost.num (by omega) t1 HO1.out)
  clear hL hw1 ht1 HP1
  have c0 : w2.cell? ⟨bn, 0, none⟩ = some (.int .i64 2) := HP2.out.n.cell 0
  have c1 : w2.cell? ⟨bn, 1, none⟩ = some (.int .i64 prio) := HP2.out.n.cell 1
  have c2 : w2.cell? ⟨bn, 2, none⟩ = some (.bool true) := HP2.out.n.cell 2
  have c3 : w2.cell? ⟨bn, 3, none⟩ = some (.int .i64 to) := HP2.out.n.cell 3
  have c4 : w2.cell? ⟨bn, 4, none⟩ = some (.int .i64 sh) := HP2.out.n.cell 4
  have c5 : w2.cell? ⟨bn, 5, none⟩ = some (.slice A n c) := HP2.out.n.cell 5
  have cb : w2.cell? ⟨bp, 0, none⟩ = some (.pointer (some ⟨g, 0, none⟩)) := HP2.out.p.cell 0
  go_wp2_with fail
  clear c0 c1 c2 c3 c4 c5 cb
  refine (mnum_any HP2.out.pm.wt HP2.out.z _ 1000 (by omega) (by have := HL.out; have := HT1.out; simp; omega)).mono ?_
  rintro e w3 hL
  rw [HO2.out] at hL
  rcases hL.cases with ⟨t2, rfl, rfl, hw1, ht1⟩ | ⟨rfl, rfl, ht1⟩
  rotate_left
  · have HRR := Lib.hid (HP2.out.out ht1)
    clear hL ht1
    go_wp2_with fail
    exact ⟨rfl, HRR.out⟩
  have HP3 := Lib.hid (HP2.out.more HR.out HS.out (by decide) (by decide) hw1 ht1)
  have HT2 : Hid (t2.length ≤ 10) := Lib.hid (AtMost.num (by omega) t2 HO2.out)
  clear hL hw1 ht1 HP2
  have c0 : w3.cell? ⟨bn, 0, none⟩ = some (.int .i64 2) := HP3.out.n.cell 0
  have c1 : w3.cell? ⟨bn, 1, none⟩ = some (.int .i64 prio) := HP3.out.n.cell 1
  have c2 : w3.cell? ⟨bn, 2, none⟩ = some (.bool true) := HP3.out.n.cell 2
  have c3 : w3.cell? ⟨bn, 3, none⟩ = some (.int .i64 to) := HP3.out.n.cell 3
  have c4 : w3.cell? ⟨bn, 4, none⟩ = some (.int .i64 sh) := HP3.out.n.cell 4
  have c5 : w3.cell? ⟨bn, 5, none⟩ = some (.slice A n c) := HP3.out.n.cell 5
  have cb : w3.cell? ⟨bp, 0, none⟩ = some (.pointer (some ⟨g, 0, none⟩)) := HP3.out.p.cell 0
  go_wp2_with fail
  clear c0 c1 c2 c3 c4 c5 cb
  refine (mmark_any HP3.out.pm.wt HP3.out.z _ (by have := HL.out; have := HT1.out; have := HT2.out; simp; omega)).mono ?_
  rintro e w4 hL
  rw [HO3.out] at hL
  rcases hL.cases with ⟨t3, rfl, rfl, hw1, ht1⟩ | ⟨rfl, rfl, ht1⟩
  rotate_left
  · have HRR := Lib.hid (HP3.out.out ht1)
    clear hL ht1
    go_wp2_with fail
    exact ⟨rfl, HRR.out⟩
  have HP4 := Lib.hid (HP3.out.more HR.out HS.out (by decide) (by decide) hw1 ht1)
  have HT3 : Hid (t3.length ≤ 1) := Lib.hid (AtMost.mark _ t3 HO3.out)
  clear hL hw1 ht1 HP3
  have c0 : w4.cell? ⟨bn, 0, none⟩ = some (.int .i64 2) := HP4.out.n.cell 0
  have c1 : w4.cell? ⟨bn, 1, none⟩ = some (.int .i64 prio) := HP4.out.n.cell 1
  have c2 : w4.cell? ⟨bn, 2, none⟩ = some (.bool true) := HP4.out.n.cell 2
  have c3 : w4.cell? ⟨bn, 3, none⟩ = some (.int .i64 to) := HP4.out.n.cell 3
  have c4 : w4.cell? ⟨bn, 4, none⟩ = some (.int .i64 sh) := HP4.out.n.cell 4
  have c5 : w4.cell? ⟨bn, 5, none⟩ = some (.slice A n c) := HP4.out.n.cell 5
  have cb : w4.cell? ⟨bp, 0, none⟩ = some (.pointer (some ⟨g, 0, none⟩)) := HP4.out.p.cell 0
  go_wp2_with fail
  clear c0 c1 c2 c3 c4 c5 cb
  refine (medge_any HP4.out.pm.wt HP4.out.z _ _ (by have := HL.out; have := HT1.out; have := HT2.out; have := HT3.out; simp; omega)).mono ?_
  rintro e w5 hL
  rw [HO4.out] at hL
  rcases hL.cases with ⟨t4, rfl, rfl, hw1, ht1⟩ | ⟨rfl, rfl, ht1⟩
  rotate_left
  · have HRR := Lib.hid (HP4.out.out ht1)
    clear hL ht1
    go_wp2_with fail
    exact ⟨rfl, HRR.out⟩
  have HP5 := Lib.hid (HP4.out.more HR.out HS.out (by decide) (by decide) hw1 ht1)
  have HT4 : Hid (t4.length ≤ 20) := Lib.hid (AtMost.edg _ t4 HO4.out)
  clear hL hw1 ht1 HP4
  have c0 : w5.cell? ⟨bn, 0, none⟩ = some (.int .i64 2) := HP5.out.n.cell 0
  have c1 : w5.cell? ⟨bn, 1, none⟩ = some (.int .i64 prio) := HP5.out.n.cell 1
  have c2 : w5.cell? ⟨bn, 2, none⟩ = some (.bool true) := HP5.out.n.cell 2
  have c3 : w5.cell? ⟨bn, 3, none⟩ = some (.int .i64 to) := HP5.out.n.cell 3
  have c4 : w5.cell? ⟨bn, 4, none⟩ = some (.int .i64 sh) := HP5.out.n.cell 4
  have c5 : w5.cell? ⟨bn, 5, none⟩ = some (.slice A n c) := HP5.out.n.cell 5
  have cb : w5.cell? ⟨bp, 0, none⟩ = some (.pointer (some ⟨g, 0, none⟩)) := HP5.out.p.cell 0
  go_wp2_with fail
  clear c0 c1 c2 c3 c4 c5 cb
  refine (monly_any HP5.out.pm.wt HP5.out.z _ _ HP5.out.r (by have := HL.out; have := HT1.out; have := HT2.out; have := HT3.out; have := HT4.out; simp; omega)).mono ?_
  rintro e w6 hL
  rw [HO5.out] at hL
  have HRR := Lib.hid (HP5.out.pm.then_ hL)
  rcases hL.cases with ⟨t, rfl, rfl, hw1, ht1⟩ | ⟨rfl, rfl, ht1⟩
  · clear hL hw1 ht1
    go_wp2_with fail
    go_end0
    exact HRR.out.eq (by simp [cat])
  · clear hL ht1
    go_wp2_with fail
    exact ⟨rfl, HRR.out⟩
set_option maxRecDepth 100000 in
set_option maxHeartbeats 4000000 in
theorem mnode_2_no {S : Nat → Prop} (h : Wtr B w g bs) (hB : B ≤ w.heap.size) (hS : ∀ b, S b → b < B)  (prio to sh : Int) (l : List Edg) (A : Option Addr) (n c : Nat) (hn : l.length = n) (hx : ListA EdgE 2 S w (.slice A n c) l) (hl : bs.length + 30000 ≤ 1099511627776) (hm : moreB ⟨2, prio, false, ⟨to, sh⟩, l⟩ = false) :
    Calls Tryz.prog 66 #[.pointer (some ⟨g, 0, none⟩), .agg #[.int .i64 2, .int .i64 prio, .bool false, .int .i64 to, .int .i64 sh, .slice A n c]] w (LaidR B g w bs (cat (numO 2 5) (cat (numO prio 1000) (cat (markO false) (onlyO l))))) := by
  have HM := Lib.hid hm
  clear hm
  obtain ⟨o1, ho1⟩ : ∃ o, numO 2 5 = o := ⟨_, rfl⟩
  rw [ho1]
  have HO1 := Lib.hid ho1
  clear ho1
  obtain ⟨o2, ho2⟩ : ∃ o, numO prio 1000 = o := ⟨_, rfl⟩
  rw [ho2]
  have HO2 := Lib.hid ho2
  clear ho2
  obtain ⟨o3, ho3⟩ : ∃ o, markO false = o := ⟨_, rfl⟩
  rw [ho3]
  have HO3 := Lib.hid ho3
  clear ho3
  obtain ⟨o5, ho5⟩ : ∃ o, onlyO l = o := ⟨_, rfl⟩
  rw [ho5]
  have HO5 := Lib.hid ho5
  clear ho5
  have hg0 : w.grownBy ((w.alloc (.cells #[.pointer (some ⟨g, 0, none⟩)] 79)).alloc (.cells #[.int .i64 2, .int .i64 prio, .bool false, .int .i64 to, .int .i64 sh, .slice A n c] 65)) none := only_alloc (only_alloc (only_refl _ _) _) _
  have HP : Hid (PS B g w bs w.heap.size (w.heap.size + 1) 65 #[.int .i64 2, .int .i64 prio, .bool false, .int .i64 to, .int .i64 sh, .slice A n c] (fun W => ListA EdgE 2 S W (.slice A n c) l) [] ((w.alloc (.cells #[.pointer (some ⟨g, 0, none⟩)] 79)).alloc (.cells #[.int .i64 2, .int .i64 prio, .bool false, .int .i64 to, .int .i64 sh, .slice A n c] 65))) :=
    Lib.hid ⟨PM.start h hg0, (Blk.new _ _ _).alloc _, blk_new_at (by simp) _ _, by have := hg0.size; omega, hx.kept edg_ok (KeptS.none_ hg0)⟩
  have HL : Hid (bs.length + 30000 ≤ 1099511627776) := Lib.hid hl
  have HS := Lib.hid hS
  have HN := Lib.hid hn
  have HR : Hid (∀ W W', ListA EdgE 2 S W (.slice A n c) l → KeptS S W W' → ListA EdgE 2 S W' (.slice A n c) l) := Lib.hid fun _ _ h1 h2 => h1.kept edg_ok h2
  clear h hB hl hg0 hx hS hn
  go_enter Tryz.func66, Tryz.ntmps66
  go_upto_region 1 with fail
  generalize ((w.alloc (.cells #[.pointer (some ⟨g, 0, none⟩)] 79)).alloc (.cells #[.int .i64 2, .int .i64 prio, .bool false, .int .i64 to, .int .i64 sh, .slice A n c] 65)) = W1 at *
  generalize hbn : w.heap.size + 1 = bn at *
  clear hbn
  generalize w.heap.size = bp at *
  have c0 : W1.cell? ⟨bn, 0, none⟩ = some (.int .i64 2) := HP.out.n.cell 0
  have c1 : W1.cell? ⟨bn, 1, none⟩ = some (.int .i64 prio) := HP.out.n.cell 1
  have c2 : W1.cell? ⟨bn, 2, none⟩ = some (.bool false) := HP.out.n.cell 2
  have c3 : W1.cell? ⟨bn, 3, none⟩ = some (.int .i64 to) := HP.out.n.cell 3
  have c4 : W1.cell? ⟨bn, 4, none⟩ = some (.int .i64 sh) := HP.out.n.cell 4
  have c5 : W1.cell? ⟨bn, 5, none⟩ = some (.slice A n c) := HP.out.n.cell 5
  have cb : W1.cell? ⟨bp, 0, none⟩ = some (.pointer (some ⟨g, 0, none⟩)) := HP.out.p.cell 0
  go_wp2_with fail
  refine (mmore_any _ _ _ _ _ l A n c HN.out _ _ HM.out).mono ?_
  rintro e w1 ⟨rfl, g1⟩
  have HP1 := Lib.hid (HP.out.none_ HR.out g1)
  clear g1 HP c0 c1 c2 c3 c4 c5 cb
  go_wp2_with fail
  refine (mrefuse_no _).mono ?_
  rintro e w9 ⟨rfl, rfl⟩
  have c0 : w1.cell? ⟨bn, 0, none⟩ = some (.int .i64 2) := HP1.out.n.cell 0
  have c1 : w1.cell? ⟨bn, 1, none⟩ = some (.int .i64 prio) := HP1.out.n.cell 1
  have c2 : w1.cell? ⟨bn, 2, none⟩ = some (.bool false) := HP1.out.n.cell 2
  have c3 : w1.cell? ⟨bn, 3, none⟩ = some (.int .i64 to) := HP1.out.n.cell 3
  have c4 : w1.cell? ⟨bn, 4, none⟩ = some (.int .i64 sh) := HP1.out.n.cell 4
  have c5 : w1.cell? ⟨bn, 5, none⟩ = some (.slice A n c) := HP1.out.n.cell 5
  have cb : w1.cell? ⟨bp, 0, none⟩ = some (.pointer (some ⟨g, 0, none⟩)) := HP1.out.p.cell 0
  go_wp2_with fail
  clear c0 c1 c2 c3 c4 c5 cb
  refine (mnum_any HP1.out.pm.wt HP1.out.z _ 5 (by omega) (by have := HL.out; simp; omega)).mono ?_
  rintro e w2 hL
  rw [HO1.out] at hL
  rcases hL.cases with ⟨t1, rfl, rfl, hw1, ht1⟩ | ⟨rfl, rfl, ht1⟩
  rotate_left
  · have HRR := Lib.hid (HP1.out.out ht1)
    clear hL ht1
    go_wp2_with fail
    exact ⟨rfl, HRR.out⟩
  have HP2 := Lib.hid (HP1.out.more HR.out HS.out (by decide) (by decide) hw1 ht1)
  have HT1 : Hid (t1.length ≤ 10) := Lib.hid (AtMost.num (by omega) t1 HO1.out)
  clear hL hw1 ht1 HP1
  have c0 : w2.cell? ⟨bn, 0, none⟩ = some (.int .i64 2) := HP2.out.n.cell 0
  have c1 : w2.cell? ⟨bn, 1, none⟩ = some (.int .i64 prio) := HP2.out.n.cell 1
  have c2 : w2.cell? ⟨bn, 2, none⟩ = some (.bool false) := HP2.out.n.cell 2
  have c3 : w2.cell? ⟨bn, 3, none⟩ = some (.int .i64 to) := HP2.out.n.cell 3
  have c4 : w2.cell? ⟨bn, 4, none⟩ = some (.int .i64 sh) := HP2.out.n.cell 4
  have c5 : w2.cell? ⟨bn, 5, none⟩ = some (.slice A n c) := HP2.out.n.cell 5
  have cb : w2.cell? ⟨bp, 0, none⟩ = some (.pointer (some ⟨g, 0, none⟩)) := HP2.out.p.cell 0
  go_wp2_with fail
  clear c0 c1 c2 c3 c4 c5 cb
  refine (mnum_any HP2.out.pm.wt HP2.out.z _ 1000 (by omega) (by have := HL.out; have := HT1.out; simp; omega)).mono ?_
  rintro e w3 hL
  rw [HO2.out] at hL
  rcases hL.cases with ⟨t2, rfl, rfl, hw1, ht1⟩ | ⟨rfl, rfl, ht1⟩
  rotate_left
  · have HRR := Lib.hid (HP2.out.out ht1)
    clear hL ht1
    go_wp2_with fail
    exact ⟨rfl, HRR.out⟩
  have HP3 := Lib.hid (HP2.out.more HR.out HS.out (by decide) (by decide) hw1 ht1)
  have HT2 : Hid (t2.length ≤ 10) := Lib.hid (AtMost.num (by omega) t2 HO2.out)
  clear hL hw1 ht1 HP2
  have c0 : w3.cell? ⟨bn, 0, none⟩ = some (.int .i64 2) := HP3.out.n.cell 0
  have c1 : w3.cell? ⟨bn, 1, none⟩ = some (.int .i64 prio) := HP3.out.n.cell 1
  have c2 : w3.cell? ⟨bn, 2, none⟩ = some (.bool false) := HP3.out.n.cell 2
  have c3 : w3.cell? ⟨bn, 3, none⟩ = some (.int .i64 to) := HP3.out.n.cell 3
  have c4 : w3.cell? ⟨bn, 4, none⟩ = some (.int .i64 sh) := HP3.out.n.cell 4
  have c5 : w3.cell? ⟨bn, 5, none⟩ = some (.slice A n c) := HP3.out.n.cell 5
  have cb : w3.cell? ⟨bp, 0, none⟩ = some (.pointer (some ⟨g, 0, none⟩)) := HP3.out.p.cell 0
  go_wp2_with fail
  clear c0 c1 c2 c3 c4 c5 cb
  refine (mmark_any HP3.out.pm.wt HP3.out.z _ (by have := HL.out; have := HT1.out; have := HT2.out; simp; omega)).mono ?_
  rintro e w4 hL
  rw [HO3.out] at hL
  rcases hL.cases with ⟨t3, rfl, rfl, hw1, ht1⟩ | ⟨rfl, rfl, ht1⟩
  rotate_left
  · have HRR := Lib.hid (HP3.out.out ht1)
    clear hL ht1
    go_wp2_with fail
    exact ⟨rfl, HRR.out⟩
  have HP4 := Lib.hid (HP3.out.more HR.out HS.out (by decide) (by decide) hw1 ht1)
  have HT3 : Hid (t3.length ≤ 1) := Lib.hid (AtMost.mark _ t3 HO3.out)
  clear hL hw1 ht1 HP3
  have c0 : w4.cell? ⟨bn, 0, none⟩ = some (.int .i64 2) := HP4.out.n.cell 0
  have c1 : w4.cell? ⟨bn, 1, none⟩ = some (.int .i64 prio) := HP4.out.n.cell 1
  have c2 : w4.cell? ⟨bn, 2, none⟩ = some (.bool false) := HP4.out.n.cell 2
  have c3 : w4.cell? ⟨bn, 3, none⟩ = some (.int .i64 to) := HP4.out.n.cell 3
  have c4 : w4.cell? ⟨bn, 4, none⟩ = some (.int .i64 sh) := HP4.out.n.cell 4
  have c5 : w4.cell? ⟨bn, 5, none⟩ = some (.slice A n c) := HP4.out.n.cell 5
  have cb : w4.cell? ⟨bp, 0, none⟩ = some (.pointer (some ⟨g, 0, none⟩)) := HP4.out.p.cell 0
  go_wp2_with fail
  clear c0 c1 c2 c3 c4 c5 cb
  refine (monly_any HP4.out.pm.wt HP4.out.z _ _ HP4.out.r (by have := HL.out; have := HT1.out; have := HT2.out; have := HT3.out; simp; omega)).mono ?_
  rintro e w5 hL
  rw [HO5.out] at hL
  have HRR := Lib.hid (HP4.out.pm.then_ hL)
  rcases hL.cases with ⟨t, rfl, rfl, hw1, ht1⟩ | ⟨rfl, rfl, ht1⟩
  · clear hL hw1 ht1
    go_wp2_with fail
    go_end0
    exact HRR.out.eq (by simp [cat])
  · clear hL ht1
    go_wp2_with fail
    exact ⟨rfl, HRR.out⟩
set_option maxRecDepth 100000 in
set_option maxHeartbeats 4000000 in
theorem mnode_3 {S : Nat → Prop} (h : Wtr B w g bs) (hB : B ≤ w.heap.size) (hS : ∀ b, S b → b < B)  (b : Bool) (prio to sh : Int) (l : List Edg) (A : Option Addr) (n c : Nat) (hn : l.length = n) (hx : ListA EdgE 2 S w (.slice A n c) l) (hl : bs.length + 30000 ≤ 1099511627776) (hm : moreB ⟨3, prio, b, ⟨to, sh⟩, l⟩ = false) :
    Calls Tryz.prog 66 #[.pointer (some ⟨g, 0, none⟩), .agg #[.int .i64 3, .int .i64 prio, .bool b, .int .i64 to, .int .i64 sh, .slice A n c]] w (LaidR B g w bs (cat (numO 3 5) (cat (numO prio 1000) (listO edgO 1 8 l)))) := by
  have HM := Lib.hid hm
  clear hm
  obtain ⟨o1, ho1⟩ : ∃ o, numO 3 5 = o := ⟨_, rfl⟩
  rw [ho1]
  have HO1 := Lib.hid ho1
  clear ho1
  obtain ⟨o2, ho2⟩ : ∃ o, numO prio 1000 = o := ⟨_, rfl⟩
  rw [ho2]
  have HO2 := Lib.hid ho2
  clear ho2
  obtain ⟨o5, ho5⟩ : ∃ o, listO edgO 1 8 l = o := ⟨_, rfl⟩
  rw [ho5]
  have HO5 := Lib.hid ho5
  clear ho5
  have hg0 : w.grownBy ((w.alloc (.cells #[.pointer (some ⟨g, 0, none⟩)] 79)).alloc (.cells #[.int .i64 3, .int .i64 prio, .bool b, .int .i64 to, .int .i64 sh, .slice A n c] 65)) none := only_alloc (only_alloc (only_refl _ _) _) _
  have HP : Hid (PS B g w bs w.heap.size (w.heap.size + 1) 65 #[.int .i64 3, .int .i64 prio, .bool b, .int .i64 to, .int .i64 sh, .slice A n c] (fun W => ListA EdgE 2 S W (.slice A n c) l) [] ((w.alloc (.cells #[.pointer (some ⟨g, 0, none⟩)] 79)).alloc (.cells #[.int .i64 3, .int .i64 prio, .bool b, .int .i64 to, .int .i64 sh, .slice A n c] 65))) :=
    Lib.hid ⟨PM.start h hg0, (Blk.new _ _ _).alloc _, blk_new_at (by simp) _ _, by have := hg0.size; omega, hx.kept edg_ok (KeptS.none_ hg0)⟩
  have HL : Hid (bs.length + 30000 ≤ 1099511627776) := Lib.hid hl
  have HS := Lib.hid hS
  have HN := Lib.hid hn
  have HR : Hid (∀ W W', ListA EdgE 2 S W (.slice A n c) l → KeptS S W W' → ListA EdgE 2 S W' (.slice A n c) l) := Lib.hid fun _ _ h1 h2 => h1.kept edg_ok h2
  clear h hB hl hg0 hx hS hn
  go_enter Tryz.func66, Tryz.ntmps66
  go_upto_region 1 with fail
  generalize ((w.alloc (.cells #[.pointer (some ⟨g, 0, none⟩)] 79)).alloc (.cells #[.int .i64 3, .int .i64 prio, .bool b, .int .i64 to, .int .i64 sh, .slice A n c] 65)) = W1 at *
  generalize hbn : w.heap.size + 1 = bn at *
  clear hbn
  generalize w.heap.size = bp at *
  have c0 : W1.cell? ⟨bn, 0, none⟩ = some (.int .i64 3) := HP.out.n.cell 0
  have c1 : W1.cell? ⟨bn, 1, none⟩ = some (.int .i64 prio) := HP.out.n.cell 1
  have c2 : W1.cell? ⟨bn, 2, none⟩ = some (.bool b) := HP.out.n.cell 2
  have c3 : W1.cell? ⟨bn, 3, none⟩ = some (.int .i64 to) := HP.out.n.cell 3
  have c4 : W1.cell? ⟨bn, 4, none⟩ = some (.int .i64 sh) := HP.out.n.cell 4
  have c5 : W1.cell? ⟨bn, 5, none⟩ = some (.slice A n c) := HP.out.n.cell 5
  have cb : W1.cell? ⟨bp, 0, none⟩ = some (.pointer (some ⟨g, 0, none⟩)) := HP.out.p.cell 0
  go_wp2_with fail
  refine (mmore_any _ _ _ _ _ l A n c HN.out _ _ HM.out).mono ?_
  rintro e w1 ⟨rfl, g1⟩
  have HP1 := Lib.hid (HP.out.none_ HR.out g1)
  clear g1 HP c0 c1 c2 c3 c4 c5 cb
  go_wp2_with fail
  refine (mrefuse_no _).mono ?_
  rintro e w9 ⟨rfl, rfl⟩
  have c0 : w1.cell? ⟨bn, 0, none⟩ = some (.int .i64 3) := HP1.out.n.cell 0
  have c1 : w1.cell? ⟨bn, 1, none⟩ = some (.int .i64 prio) := HP1.out.n.cell 1
  have c2 : w1.cell? ⟨bn, 2, none⟩ = some (.bool b) := HP1.out.n.cell 2
  have c3 : w1.cell? ⟨bn, 3, none⟩ = some (.int .i64 to) := HP1.out.n.cell 3
  have c4 : w1.cell? ⟨bn, 4, none⟩ = some (.int .i64 sh) := HP1.out.n.cell 4
  have c5 : w1.cell? ⟨bn, 5, none⟩ = some (.slice A n c) := HP1.out.n.cell 5
  have cb : w1.cell? ⟨bp, 0, none⟩ = some (.pointer (some ⟨g, 0, none⟩)) := HP1.out.p.cell 0
  go_wp2_with fail
  clear c0 c1 c2 c3 c4 c5 cb
  refine (mnum_any HP1.out.pm.wt HP1.out.z _ 5 (by omega) (by have := HL.out; simp; omega)).mono ?_
  rintro e w2 hL
  rw [HO1.out] at hL
  rcases hL.cases with ⟨t1, rfl, rfl, hw1, ht1⟩ | ⟨rfl, rfl, ht1⟩
  rotate_left
  · have HRR := Lib.hid (HP1.out.out ht1)
    clear hL ht1
    go_wp2_with fail
    exact ⟨rfl, HRR.out⟩
  have HP2 := Lib.hid (HP1.out.more HR.out HS.out (by decide) (by decide) hw1 ht1)
  have HT1 : Hid (t1.length ≤ 10) := Lib.hid (AtMost.num (by omega) t1 HO1.out)
  clear hL hw1 ht1 HP1
  have c0 : w2.cell? ⟨bn, 0, none⟩ = some (.int .i64 3) := HP2.out.n.cell 0
  have c1 : w2.cell? ⟨bn, 1, none⟩ = some (.int .i64 prio) := HP2.out.n.cell 1
  have c2 : w2.cell? ⟨bn, 2, none⟩ = some (.bool b) := HP2.out.n.cell 2
  have c3 : w2.cell? ⟨bn, 3, none⟩ = some (.int .i64 to) := HP2.out.n.cell 3
  have c4 : w2.cell? ⟨bn, 4, none⟩ = some (.int .i64 sh) := HP2.out.n.cell 4
  have c5 : w2.cell? ⟨bn, 5, none⟩ = some (.slice A n c) := HP2.out.n.cell 5
  have cb : w2.cell? ⟨bp, 0, none⟩ = some (.pointer (some ⟨g, 0, none⟩)) := HP2.out.p.cell 0
  go_wp2_with fail
  clear c0 c1 c2 c3 c4 c5 cb
  refine (mnum_any HP2.out.pm.wt HP2.out.z _ 1000 (by omega) (by have := HL.out; have := HT1.out; simp; omega)).mono ?_
  rintro e w3 hL
  rw [HO2.out] at hL
  rcases hL.cases with ⟨t2, rfl, rfl, hw1, ht1⟩ | ⟨rfl, rfl, ht1⟩
  rotate_left
  · have HRR := Lib.hid (HP2.out.out ht1)
    clear hL ht1
    go_wp2_with fail
    exact ⟨rfl, HRR.out⟩
  have HP3 := Lib.hid (HP2.out.more HR.out HS.out (by decide) (by decide) hw1 ht1)
  have HT2 : Hid (t2.length ≤ 10) := Lib.hid (AtMost.num (by omega) t2 HO2.out)
  clear hL hw1 ht1 HP2
  have c0 : w3.cell? ⟨bn, 0, none⟩ = some (.int .i64 3) := HP3.out.n.cell 0
  have c1 : w3.cell? ⟨bn, 1, none⟩ = some (.int .i64 prio) := HP3.out.n.cell 1
  have c2 : w3.cell? ⟨bn, 2, none⟩ = some (.bool b) := HP3.out.n.cell 2
  have c3 : w3.cell? ⟨bn, 3, none⟩ = some (.int .i64 to) := HP3.out.n.cell 3
  have c4 : w3.cell? ⟨bn, 4, none⟩ = some (.int .i64 sh) := HP3.out.n.cell 4
  have c5 : w3.cell? ⟨bn, 5, none⟩ = some (.slice A n c) := HP3.out.n.cell 5
  have cb : w3.cell? ⟨bp, 0, none⟩ = some (.pointer (some ⟨g, 0, none⟩)) := HP3.out.p.cell 0
  go_wp2_with fail
  clear c0 c1 c2 c3 c4 c5 cb
  refine (mall_Edg HP3.out.pm.wt HP3.out.z HS.out _ _ HP3.out.r HP3.out.p 1 8 (by omega) (K := 20) (by have := HL.out; have := HT1.out; have := HT2.out; simp; omega) (fun x _ => AtMost.edg x) (fun x W bs' cs _ k1 k2 k3 k4 k5 => by obtain rfl := k4; exact mclo_Edg k1 k2 k3 _ _ k5)).mono ?_
  rintro e w4 hL
  rw [HO5.out] at hL
  have HRR := Lib.hid (HP3.out.pm.then_ hL)
  rcases hL.cases with ⟨t, rfl, rfl, hw1, ht1⟩ | ⟨rfl, rfl, ht1⟩
  · clear hL hw1 ht1
    go_wp2_with fail
    go_end0
    exact HRR.out.eq (by simp [cat])
  · clear hL ht1
    go_wp2_with fail
    exact ⟨rfl, HRR.out⟩
set_option maxRecDepth 100000 in
set_option maxHeartbeats 4000000 in
theorem mnode_4 {S : Nat → Prop} (h : Wtr B w g bs) (hB : B ≤ w.heap.size) (hS : ∀ b, S b → b < B)  (b : Bool) (prio to sh : Int) (l : List Edg) (A : Option Addr) (n c : Nat) (hn : l.length = n) (hx : ListA EdgE 2 S w (.slice A n c) l) (hl : bs.length + 30000 ≤ 1099511627776) (hm : moreB ⟨4, prio, b, ⟨to, sh⟩, l⟩ = false) :
    Calls Tryz.prog 66 #[.pointer (some ⟨g, 0, none⟩), .agg #[.int .i64 4, .int .i64 prio, .bool b, .int .i64 to, .int .i64 sh, .slice A n c]] w (LaidR B g w bs (cat (numO 4 5) (cat (numO prio 1000) (listO edgO 1 8 l)))) := by
  have HM := Lib.hid hm
  clear hm
  obtain ⟨o1, ho1⟩ : ∃ o, numO 4 5 = o := ⟨_, rfl⟩
  rw [ho1]
  have HO1 := Lib.hid ho1
  clear ho1
  obtain ⟨o2, ho2⟩ : ∃ o, numO prio 1000 = o := ⟨_, rfl⟩
  rw [ho2]
  have HO2 := Lib.hid ho2
  clear ho2
  obtain ⟨o5, ho5⟩ : ∃ o, listO edgO 1 8 l = o := ⟨_, rfl⟩
  rw [ho5]
  have HO5 := Lib.hid ho5
  clear ho5
  have hg0 : w.grownBy ((w.alloc (.cells #[.pointer (some ⟨g, 0, none⟩)] 79)).alloc (.cells #[.int .i64 4, .int .i64 prio, .bool b, .int .i64 to, .int .i64 sh, .slice A n c] 65)) none := only_alloc (only_alloc (only_refl _ _) _) _
  have HP : Hid (PS B g w bs w.heap.size (w.heap.size + 1) 65 #[.int .i64 4, .int .i64 prio, .bool b, .int .i64 to, .int .i64 sh, .slice A n c] (fun W => ListA EdgE 2 S W (.slice A n c) l) [] ((w.alloc (.cells #[.pointer (some ⟨g, 0, none⟩)] 79)).alloc (.cells #[.int .i64 4, .int .i64 prio, .bool b, .int .i64 to, .int .i64 sh, .slice A n c] 65))) :=
    Lib.hid ⟨PM.start h hg0, (Blk.new _ _ _).alloc _, blk_new_at (by simp) _ _, by have := hg0.size; omega, hx.kept edg_ok (KeptS.none_ hg0)⟩
  have HL : Hid (bs.length + 30000 ≤ 1099511627776) := Lib.hid hl
  have HS := Lib.hid hS
  have HN := Lib.hid hn
  have HR : Hid (∀ W W', ListA EdgE 2 S W (.slice A n c) l → KeptS S W W' → ListA EdgE 2 S W' (.slice A n c) l) := Lib.hid fun _ _ h1 h2 => h1.kept edg_ok h2
  clear h hB hl hg0 hx hS hn
  go_enter Tryz.func66, Tryz.ntmps66
  go_upto_region 1 with fail
  generalize ((w.alloc (.cells #[.pointer (some ⟨g, 0, none⟩)] 79)).alloc (.cells #[.int .i64 4, .int .i64 prio, .bool b, .int .i64 to, .int .i64 sh, .slice A n c] 65)) = W1 at *
  generalize hbn : w.heap.size + 1 = bn at *
  clear hbn
  generalize w.heap.size = bp at *
  have c0 : W1.cell? ⟨bn, 0, none⟩ = some (.int .i64 4) := HP.out.n.cell 0
  have c1 : W1.cell? ⟨bn, 1, none⟩ = some (.int .i64 prio) := HP.out.n.cell 1
  have c2 : W1.cell? ⟨bn, 2, none⟩ = some (.bool b) := HP.out.n.cell 2
  have c3 : W1.cell? ⟨bn, 3, none⟩ = some (.int .i64 to) := HP.out.n.cell 3
  have c4 : W1.cell? ⟨bn, 4, none⟩ = some (.int .i64 sh) := HP.out.n.cell 4
  have c5 : W1.cell? ⟨bn, 5, none⟩ = some (.slice A n c) := HP.out.n.cell 5
  have cb : W1.cell? ⟨bp, 0, none⟩ = some (.pointer (some ⟨g, 0, none⟩)) := HP.out.p.cell 0
  go_wp2_with fail
  refine (mmore_any _ _ _ _ _ l A n c HN.out _ _ HM.out).mono ?_
  rintro e w1 ⟨rfl, g1⟩
  have HP1 := Lib.hid (HP.out.none_ HR.out g1)
  clear g1 HP c0 c1 c2 c3 c4 c5 cb
  go_wp2_with fail
  refine (mrefuse_no _).mono ?_
  rintro e w9 ⟨rfl, rfl⟩
  have c0 : w1.cell? ⟨bn, 0, none⟩ = some (.int .i64 4) := HP1.out.n.cell 0
  have c1 : w1.cell? ⟨bn, 1, none⟩ = some (.int .i64 prio) := HP1.out.n.cell 1
  have c2 : w1.cell? ⟨bn, 2, none⟩ = some (.bool b) := HP1.out.n.cell 2
  have c3 : w1.cell? ⟨bn, 3, none⟩ = some (.int .i64 to) := HP1.out.n.cell 3
  have c4 : w1.cell? ⟨bn, 4, none⟩ = some (.int .i64 sh) := HP1.out.n.cell 4
  have c5 : w1.cell? ⟨bn, 5, none⟩ = some (.slice A n c) := HP1.out.n.cell 5
  have cb : w1.cell? ⟨bp, 0, none⟩ = some (.pointer (some ⟨g, 0, none⟩)) := HP1.out.p.cell 0
  go_wp2_with fail
  clear c0 c1 c2 c3 c4 c5 cb
  refine (mnum_any HP1.out.pm.wt HP1.out.z _ 5 (by omega) (by have := HL.out; simp; omega)).mono ?_
  rintro e w2 hL
  rw [HO1.out] at hL
  rcases hL.cases with ⟨t1, rfl, rfl, hw1, ht1⟩ | ⟨rfl, rfl, ht1⟩
  rotate_left
  · have HRR := Lib.hid (HP1.out.out ht1)
    clear hL ht1
    go_wp2_with fail
    exact ⟨rfl, HRR.out⟩
  have HP2 := Lib.hid (HP1.out.more HR.out HS.out (by decide) (by decide) hw1 ht1)
  have HT1 : Hid (t1.length ≤ 10) := Lib.hid (AtMost.num (by omega) t1 HO1.out)
  clear hL hw1 ht1 HP1
  have c0 : w2.cell? ⟨bn, 0, none⟩ = some (.int .i64 4) := HP2.out.n.cell 0
  have c1 : w2.cell? ⟨bn, 1, none⟩ = some (.int .i64 prio) := HP2.out.n.cell 1
  have c2 : w2.cell? ⟨bn, 2, none⟩ = some (.bool b) := HP2.out.n.cell 2
  have c3 : w2.cell? ⟨bn, 3, none⟩ = some (.int .i64 to) := HP2.out.n.cell 3
  have c4 : w2.cell? ⟨bn, 4, none⟩ = some (.int .i64 sh) := HP2.out.n.cell 4
  have c5 : w2.cell? ⟨bn, 5, none⟩ = some (.slice A n c) := HP2.out.n.cell 5
  have cb : w2.cell? ⟨bp, 0, none⟩ = some (.pointer (some ⟨g, 0, none⟩)) := HP2.out.p.cell 0
  go_wp2_with fail
  clear c0 c1 c2 c3 c4 c5 cb
  refine (mnum_any HP2.out.pm.wt HP2.out.z _ 1000 (by omega) (by have := HL.out; have := HT1.out; simp; omega)).mono ?_
  rintro e w3 hL
  rw [HO2.out] at hL
  rcases hL.cases with ⟨t2, rfl, rfl, hw1, ht1⟩ | ⟨rfl, rfl, ht1⟩
  rotate_left
  · have HRR := Lib.hid (HP2.out.out ht1)
    clear hL ht1
    go_wp2_with fail
    exact ⟨rfl, HRR.out⟩
  have HP3 := Lib.hid (HP2.out.more HR.out HS.out (by decide) (by decide) hw1 ht1)
  have HT2 : Hid (t2.length ≤ 10) := Lib.hid (AtMost.num (by omega) t2 HO2.out)
  clear hL hw1 ht1 HP2
  have c0 : w3.cell? ⟨bn, 0, none⟩ = some (.int .i64 4) := HP3.out.n.cell 0
  have c1 : w3.cell? ⟨bn, 1, none⟩ = some (.int .i64 prio) := HP3.out.n.cell 1
  have c2 : w3.cell? ⟨bn, 2, none⟩ = some (.bool b) := HP3.out.n.cell 2
  have c3 : w3.cell? ⟨bn, 3, none⟩ = some (.int .i64 to) := HP3.out.n.cell 3
  have c4 : w3.cell? ⟨bn, 4, none⟩ = some (.int .i64 sh) := HP3.out.n.cell 4
  have c5 : w3.cell? ⟨bn, 5, none⟩ = some (.slice A n c) := HP3.out.n.cell 5
  have cb : w3.cell? ⟨bp, 0, none⟩ = some (.pointer (some ⟨g, 0, none⟩)) := HP3.out.p.cell 0
  go_wp2_with fail
  clear c0 c1 c2 c3 c4 c5 cb
  refine (mall_Edg HP3.out.pm.wt HP3.out.z HS.out _ _ HP3.out.r HP3.out.p 1 8 (by omega) (K := 20) (by have := HL.out; have := HT1.out; have := HT2.out; simp; omega) (fun x _ => AtMost.edg x) (fun x W bs' cs _ k1 k2 k3 k4 k5 => by obtain rfl := k4; exact mclo_Edg k1 k2 k3 _ _ k5)).mono ?_
  rintro e w4 hL
  rw [HO5.out] at hL
  have HRR := Lib.hid (HP3.out.pm.then_ hL)
  rcases hL.cases with ⟨t, rfl, rfl, hw1, ht1⟩ | ⟨rfl, rfl, ht1⟩
  · clear hL hw1 ht1
    go_wp2_with fail
    go_end0
    exact HRR.out.eq (by simp [cat])
  · clear hL ht1
    go_wp2_with fail
    exact ⟨rfl, HRR.out⟩
end
end Go.Proofs.YtohhojbeclbedaaGreatDoor

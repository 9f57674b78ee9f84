/- Texts joined for the claim's sake: MPuS, MPuK, MPut. -/
import Derived.Test.YtohhojbeclbedaaGreatDoorZMKnwRow37
import Derived.Test.YtohhojbeclbedaaGreatDoorZMKnwRow20
namespace Go.Proofs.YtohhojbeclbedaaGreatDoor
open Go.RowKit

/-- What is laid of a module, as it lies in memory. -/
structure ModR (S : Nat → Prop) (W : World) (m : Mo) (A0 A1 A2 A3 : Option Addr) (n0 q0 n1 q1 n2 q2 n3 q3 : Nat) : Prop where
  l0 : ListA NodE 6 S W (.slice A0 n0 q0) m.nodes
  l1 : ListA TplE 3 S W (.slice A1 n1 q1) m.tpls
  l2 : ListA EdgE 2 S W (.slice A2 n2 q2) m.chans
  l3 : ListA StaE 2 S W (.slice A3 n3 q3) m.starts
theorem ModR.kept {S : Nat → Prop} {W W' : World} {m : Mo} {A0 A1 A2 A3 : Option Addr} {n0 q0 n1 q1 n2 q2 n3 q3 : Nat} (h : ModR S W m A0 A1 A2 A3 n0 q0 n1 q1 n2 q2 n3 q3) (hk : KeptS S W W') : ModR S W' m A0 A1 A2 A3 n0 q0 n1 q1 n2 q2 n3 q3 :=
  ⟨h.l0.kept nod_ok hk, h.l1.kept tpl_ok hk, h.l2.kept edg_ok hk, h.l3.kept sta_ok hk⟩
/-- All whole numbers of a module are so. -/
structure Mo.Fit (m : Mo) : Prop where
  code : ∀ t ∈ m.tpls, ∀ x ∈ t.code, Whole x.a
  args : ∀ s ∈ m.starts, ∀ a ∈ s.args, Whole a.word
section
variable {B g : Nat} {w : World} {bs : List UInt8}
set_option maxRecDepth 100000 in
set_option maxHeartbeats 4000000 in
theorem msec_1 {S : Nat → Prop} (h : Wtr B w g bs) (hB : B ≤ w.heap.size) (hS : ∀ b, S b → b < B) (m : Mo) (A0 A1 A2 A3 A4 A5 A6 A7 : Option Addr) (n0 q0 n1 q1 n2 q2 n3 q3 n4 q4 n5 q5 n6 q6 n7 q7 : Nat) (hx : ModR S w m A0 A1 A2 A3 n0 q0 n1 q1 n2 q2 n3 q3) (hf : m.Fit) (hl : bs.length + 2000000000 ≤ 1099511627776) :
    Calls Tryz.prog 24 #[.pointer (some ⟨g, 0, none⟩), .agg #[.slice A0 n0 q0, .slice A1 n1 q1, .slice A2 n2 q2, .slice A3 n3 q3, .slice A4 n4 q4, .slice A5 n5 q5, .slice A6 n6 q6, .slice A7 n7 q7]] w (LaidR B g w bs (listO nodO 0 64 m.nodes)) := by
  obtain ⟨o1, ho1⟩ : ∃ o, listO nodO 0 64 m.nodes = o := ⟨_, rfl⟩
  rw [ho1]
  have HO1 := Lib.hid ho1
  clear ho1
  have hg0 : w.grownBy ((w.alloc (.cells #[.pointer (some ⟨g, 0, none⟩)] 79)).alloc (.cells #[.slice A0 n0 q0, .slice A1 n1 q1, .slice A2 n2 q2, .slice A3 n3 q3, .slice A4 n4 q4, .slice A5 n5 q5, .slice A6 n6 q6, .slice A7 n7 q7] 28)) none := only_alloc (only_alloc (only_refl _ _) _) _
  have HR : Hid (∀ W W', (fun W => ModR S W m A0 A1 A2 A3 n0 q0 n1 q1 n2 q2 n3 q3) W → KeptS S W W' → (fun W => ModR S W m A0 A1 A2 A3 n0 q0 n1 q1 n2 q2 n3 q3) W') := Lib.hid fun _ _ h1 h2 => h1.kept h2
  have HP : Hid (PS B g w bs w.heap.size (w.heap.size + 1) 28 #[.slice A0 n0 q0, .slice A1 n1 q1, .slice A2 n2 q2, .slice A3 n3 q3, .slice A4 n4 q4, .slice A5 n5 q5, .slice A6 n6 q6, .slice A7 n7 q7] (fun W => ModR S W m A0 A1 A2 A3 n0 q0 n1 q1 n2 q2 n3 q3) [] ((w.alloc (.cells #[.pointer (some ⟨g, 0, none⟩)] 79)).alloc (.cells #[.slice A0 n0 q0, .slice A1 n1 q1, .slice A2 n2 q2, .slice A3 n3 q3, .slice A4 n4 q4, .slice A5 n5 q5, .slice A6 n6 q6, .slice A7 n7 q7] 28))) :=
    Lib.hid ⟨PM.start h hg0, (Blk.new _ _ _).alloc _, blk_new_at (by simp) _ _, by have := hg0.size; omega, hx.kept (KeptS.none_ hg0)⟩
  have HL : Hid (bs.length + 2000000000 ≤ 1099511627776) := Lib.hid hl
  have HS := Lib.hid hS
  have HF := Lib.hid hf
  clear h hB hl hg0 hx hS hf
  go_enter Tryz.func24, Tryz.ntmps24
  go_upto_region 1 with fail
  generalize ((w.alloc (.cells #[.pointer (some ⟨g, 0, none⟩)] 79)).alloc (.cells #[.slice A0 n0 q0, .slice A1 n1 q1, .slice A2 n2 q2, .slice A3 n3 q3, .slice A4 n4 q4, .slice A5 n5 q5, .slice A6 n6 q6, .slice A7 n7 q7] 28)) = W1 at *
  generalize hbn : w.heap.size + 1 = bn at *
  clear hbn
  generalize w.heap.size = bp at *
  have c0 : W1.cell? ⟨bn, 0, none⟩ = some (.slice A0 n0 q0) := HP.out.n.cell 0
  have c1 : W1.cell? ⟨bn, 1, none⟩ = some (.slice A1 n1 q1) := HP.out.n.cell 1
  have c2 : W1.cell? ⟨bn, 2, none⟩ = some (.slice A2 n2 q2) := HP.out.n.cell 2
  have c3 : W1.cell? ⟨bn, 3, none⟩ = some (.slice A3 n3 q3) := HP.out.n.cell 3
  have c4 : W1.cell? ⟨bn, 4, none⟩ = some (.slice A4 n4 q4) := HP.out.n.cell 4
  have c5 : W1.cell? ⟨bn, 5, none⟩ = some (.slice A5 n5 q5) := HP.out.n.cell 5
  have c6 : W1.cell? ⟨bn, 6, none⟩ = some (.slice A6 n6 q6) := HP.out.n.cell 6
  have c7 : W1.cell? ⟨bn, 7, none⟩ = some (.slice A7 n7 q7) := HP.out.n.cell 7
  have cb : W1.cell? ⟨bp, 0, none⟩ = some (.pointer (some ⟨g, 0, none⟩)) := HP.out.p.cell 0
  go_wp2_with fail
  clear c0 c1 c2 c3 c4 c5 c6 c7 cb
  have HP1 := Lib.hid HP.out
  clear HP
  refine (mall_Nod HP1.out.pm.wt HP1.out.z HS.out _ _ HP1.out.r.l0 HP1.out.p 0 64 (by omega) (K := 30000) (by have := HL.out; simp only [List.length_append, List.length_nil]; omega) (fun x _ => (AtMost.nod x).le (by omega)) (fun x W bs' cs _ k1 k2 k3 k4 k5 => by obtain ⟨lv, rfl, hlv⟩ := k4; obtain ⟨A, c, rfl, _, _⟩ := hlv.slice; exact mclo_Nod k1 k2 HS.out k3 x A _ c rfl hlv k5)).mono ?_
  rintro e w2 hL
  rw [HO1.out] at hL
  have HRR := Lib.hid (HP1.out.pm.then_ hL)
  rcases hL.cases with ⟨t, rfl, rfl, hw1, ht1⟩ | ⟨rfl, rfl, ht1⟩
  · clear hL hw1 ht1
    go_wp2_with fail
    go_end0
    exact HRR.out.eq (by simp [cat])
  · clear hL ht1
    go_wp2_with fail
    exact ⟨rfl, HRR.out⟩
set_option maxRecDepth 100000 in
set_option maxHeartbeats 4000000 in
theorem msec_2 {S : Nat → Prop} (h : Wtr B w g bs) (hB : B ≤ w.heap.size) (hS : ∀ b, S b → b < B) (m : Mo) (A0 A1 A2 A3 A4 A5 A6 A7 : Option Addr) (n0 q0 n1 q1 n2 q2 n3 q3 n4 q4 n5 q5 n6 q6 n7 q7 : Nat) (hx : ModR S w m A0 A1 A2 A3 n0 q0 n1 q1 n2 q2 n3 q3) (hf : m.Fit) (hl : bs.length + 2000000000 ≤ 1099511627776) :
    Calls Tryz.prog 26 #[.pointer (some ⟨g, 0, none⟩), .agg #[.slice A0 n0 q0, .slice A1 n1 q1, .slice A2 n2 q2, .slice A3 n3 q3, .slice A4 n4 q4, .slice A5 n5 q5, .slice A6 n6 q6, .slice A7 n7 q7]] w (LaidR B g w bs (listO tplO 0 16 m.tpls)) := by
  obtain ⟨o1, ho1⟩ : ∃ o, listO tplO 0 16 m.tpls = o := ⟨_, rfl⟩
  rw [ho1]
  have HO1 := Lib.hid ho1
  clear ho1
  have hg0 : w.grownBy ((w.alloc (.cells #[.pointer (some ⟨g, 0, none⟩)] 79)).alloc (.cells #[.slice A0 n0 q0, .slice A1 n1 q1, .slice A2 n2 q2, .slice A3 n3 q3, .slice A4 n4 q4, .slice A5 n5 q5, .slice A6 n6 q6, .slice A7 n7 q7] 28)) none := only_alloc (only_alloc (only_refl _ _) _) _
  have HR : Hid (∀ W W', (fun W => ModR S W m A0 A1 A2 A3 n0 q0 n1 q1 n2 q2 n3 q3) W → KeptS S W W' → (fun W => ModR S W m A0 A1 A2 A3 n0 q0 n1 q1 n2 q2 n3 q3) W') := Lib.hid fun _ _ h1 h2 => h1.kept h2
  have HP : Hid (PS B g w bs w.heap.size (w.heap.size + 1) 28 #[.slice A0 n0 q0, .slice A1 n1 q1, .slice A2 n2 q2, .slice A3 n3 q3, .slice A4 n4 q4, .slice A5 n5 q5, .slice A6 n6 q6, .slice A7 n7 q7] (fun W => ModR S W m A0 A1 A2 A3 n0 q0 n1 q1 n2 q2 n3 q3) [] ((w.alloc (.cells #[.pointer (some ⟨g, 0, none⟩)] 79)).alloc (.cells #[.slice A0 n0 q0, .slice A1 n1 q1, .slice A2 n2 q2, .slice A3 n3 q3, .slice A4 n4 q4, .slice A5 n5 q5, .slice A6 n6 q6, .slice A7 n7 q7] 28))) :=
    Lib.hid ⟨PM.start h hg0, (Blk.new _ _ _).alloc _, blk_new_at (by simp) _ _, by have := hg0.size; omega, hx.kept (KeptS.none_ hg0)⟩
  have HL : Hid (bs.length + 2000000000 ≤ 1099511627776) := Lib.hid hl
  have HS := Lib.hid hS
  have HF := Lib.hid hf
  clear h hB hl hg0 hx hS hf
  go_enter Tryz.func26, Tryz.ntmps26
  go_upto_region 1 with fail
  generalize ((w.alloc (.cells #[.pointer (some ⟨g, 0, none⟩)] 79)).alloc (.cells #[.slice A0 n0 q0, .slice A1 n1 q1, .slice A2 n2 q2, .slice A3 n3 q3, .slice A4 n4 q4, .slice A5 n5 q5, .slice A6 n6 q6, .slice A7 n7 q7] 28)) = W1 at *
  generalize hbn : w.heap.size + 1 = bn at *
  clear hbn
  generalize w.heap.size = bp at *
  have c0 : W1.cell? ⟨bn, 0, none⟩ = some (.slice A0 n0 q0) := HP.out.n.cell 0
  have c1 : W1.cell? ⟨bn, 1, none⟩ = some (.slice A1 n1 q1) := HP.out.n.cell 1
  have c2 : W1.cell? ⟨bn, 2, none⟩ = some (.slice A2 n2 q2) := HP.out.n.cell 2
  have c3 : W1.cell? ⟨bn, 3, none⟩ = some (.slice A3 n3 q3) := HP.out.n.cell 3
  have c4 : W1.cell? ⟨bn, 4, none⟩ = some (.slice A4 n4 q4) := HP.out.n.cell 4
  have c5 : W1.cell? ⟨bn, 5, none⟩ = some (.slice A5 n5 q5) := HP.out.n.cell 5
  have c6 : W1.cell? ⟨bn, 6, none⟩ = some (.slice A6 n6 q6) := HP.out.n.cell 6
  have c7 : W1.cell? ⟨bn, 7, none⟩ = some (.slice A7 n7 q7) := HP.out.n.cell 7
  have cb : W1.cell? ⟨bp, 0, none⟩ = some (.pointer (some ⟨g, 0, none⟩)) := HP.out.p.cell 0
  go_wp2_with fail
  clear c0 c1 c2 c3 c4 c5 c6 c7 cb
  have HP1 := Lib.hid HP.out
  clear HP
  refine (mall_Tpl HP1.out.pm.wt HP1.out.z HS.out _ _ HP1.out.r.l1 HP1.out.p 0 16 (by omega) (K := 1000000) (by have := HL.out; simp only [List.length_append, List.length_nil]; omega) (fun x hx => (AtMost.tpl x (HF.out.code x hx)).le (by omega)) (fun x W bs' cs hm k1 k2 k3 k4 k5 => by obtain ⟨pv, cv, av, rfl, h1, h2, h3⟩ := k4; obtain ⟨A, c, rfl, _, _⟩ := h1.slice; obtain ⟨A2, c2, rfl, _, _⟩ := h2.slice; obtain ⟨A3, c3, rfl, _, _⟩ := h3.slice; exact mclo_Tpl k1 k2 HS.out k3 x.params x.code _ _ _ _ _ _ _ _ _ ⟨h1, h2⟩ (HF.out.code x hm) k5)).mono ?_
  rintro e w2 hL
  rw [HO1.out] at hL
  have HRR := Lib.hid (HP1.out.pm.then_ hL)
  rcases hL.cases with ⟨t, rfl, rfl, hw1, ht1⟩ | ⟨rfl, rfl, ht1⟩
  · clear hL hw1 ht1
    go_wp2_with fail
    go_end0
    exact HRR.out.eq (by simp [cat])
  · clear hL ht1
    go_wp2_with fail
    exact ⟨rfl, HRR.out⟩
set_option maxRecDepth 100000 in
set_option maxHeartbeats 4000000 in
theorem msec_3 {S : Nat → Prop} (h : Wtr B w g bs) (hB : B ≤ w.heap.size) (hS : ∀ b, S b → b < B) (m : Mo) (A0 A1 A2 A3 A4 A5 A6 A7 : Option Addr) (n0 q0 n1 q1 n2 q2 n3 q3 n4 q4 n5 q5 n6 q6 n7 q7 : Nat) (hx : ModR S w m A0 A1 A2 A3 n0 q0 n1 q1 n2 q2 n3 q3) (hf : m.Fit) (hl : bs.length + 2000000000 ≤ 1099511627776) :
    Calls Tryz.prog 28 #[.pointer (some ⟨g, 0, none⟩), .agg #[.slice A0 n0 q0, .slice A1 n1 q1, .slice A2 n2 q2, .slice A3 n3 q3, .slice A4 n4 q4, .slice A5 n5 q5, .slice A6 n6 q6, .slice A7 n7 q7]] w (LaidR B g w bs (cat (listO edgO 0 16 m.chans) (listO staO 0 8 m.starts))) := by
  obtain ⟨o1, ho1⟩ : ∃ o, listO edgO 0 16 m.chans = o := ⟨_, rfl⟩
  rw [ho1]
  have HO1 := Lib.hid ho1
  clear ho1
  obtain ⟨o2, ho2⟩ : ∃ o, listO staO 0 8 m.starts = o := ⟨_, rfl⟩
  rw [ho2]
  have HO2 := Lib.hid ho2
  clear ho2
  have hg0 : w.grownBy ((w.alloc (.cells #[.pointer (some ⟨g, 0, none⟩)] 79)).alloc (.cells #[.slice A0 n0 q0, .slice A1 n1 q1, .slice A2 n2 q2, .slice A3 n3 q3, .slice A4 n4 q4, .slice A5 n5 q5, .slice A6 n6 q6, .slice A7 n7 q7] 28)) none := only_alloc (only_alloc (only_refl _ _) _) _
  have HR : Hid (∀ W W', (fun W => ModR S W m A0 A1 A2 A3 n0 q0 n1 q1 n2 q2 n3 q3) W → KeptS S W W' → (fun W => ModR S W m A0 A1 A2 A3 n0 q0 n1 q1 n2 q2 n3 q3) W') := Lib.hid fun _ _ h1 h2 => h1.kept h2
  have HP : Hid (PS B g w bs w.heap.size (w.heap.size + 1) 28 #[.slice A0 n0 q0, .slice A1 n1 q1, .slice A2 n2 q2, .slice A3 n3 q3, .slice A4 n4 q4, .slice A5 n5 q5, .slice A6 n6 q6, .slice A7 n7 q7] (fun W => ModR S W m A0 A1 A2 A3 n0 q0 n1 q1 n2 q2 n3 q3) [] ((w.alloc (.cells #[.pointer (some ⟨g, 0, none⟩)] 79)).alloc (.cells #[.slice A0 n0 q0, .slice A1 n1 q1, .slice A2 n2 q2, .slice A3 n3 q3, .slice A4 n4 q4, .slice A5 n5 q5, .slice A6 n6 q6, .slice A7 n7 q7] 28))) :=
    Lib.hid ⟨PM.start h hg0, (Blk.new _ _ _).alloc _, blk_new_at (by simp) _ _, by have := hg0.size; omega, hx.kept (KeptS.none_ hg0)⟩
  have HL : Hid (bs.length + 2000000000 ≤ 1099511627776) := Lib.hid hl
  have HS := Lib.hid hS
  have HF := Lib.hid hf
  clear h hB hl hg0 hx hS hf
  go_enter Tryz.func28, Tryz.ntmps28
  go_upto_region 1 with fail
  generalize ((w.alloc (.cells #[.pointer (some ⟨g, 0, none⟩)] 79)).alloc (.cells #[.slice A0 n0 q0, .slice A1 n1 q1, .slice A2 n2 q2, .slice A3 n3 q3, .slice A4 n4 q4, .slice A5 n5 q5, .slice A6 n6 q6, .slice A7 n7 q7] 28)) = W1 at *
  generalize hbn : w.heap.size + 1 = bn at *
  clear hbn
  generalize w.heap.size = bp at *
  have c0 : W1.cell? ⟨bn, 0, none⟩ = some (.slice A0 n0 q0) := HP.out.n.cell 0
  have c1 : W1.cell? ⟨bn, 1, none⟩ = some (.slice A1 n1 q1) := HP.out.n.cell 1
  have c2 : W1.cell? ⟨bn, 2, none⟩ = some (.slice A2 n2 q2) := HP.out.n.cell 2
  have c3 : W1.cell? ⟨bn, 3, none⟩ = some (.slice A3 n3 q3) := HP.out.n.cell 3
  have c4 : W1.cell? ⟨bn, 4, none⟩ = some (.slice A4 n4 q4) := HP.out.n.cell 4
  have c5 : W1.cell? ⟨bn, 5, none⟩ = some (.slice A5 n5 q5) := HP.out.n.cell 5
  have c6 : W1.cell? ⟨bn, 6, none⟩ = some (.slice A6 n6 q6) := HP.out.n.cell 6
  have c7 : W1.cell? ⟨bn, 7, none⟩ = some (.slice A7 n7 q7) := HP.out.n.cell 7
  have cb : W1.cell? ⟨bp, 0, none⟩ = some (.pointer (some ⟨g, 0, none⟩)) := HP.out.p.cell 0
  go_wp2_with fail
  clear c0 c1 c2 c3 c4 c5 c6 c7 cb
  have HP1 := Lib.hid HP.out
  clear HP
  refine (mall_Typ HP1.out.pm.wt HP1.out.z HS.out _ _ HP1.out.r.l2 HP1.out.p 0 16 (by omega) (K := 20) (by have := HL.out; simp only [List.length_append, List.length_nil]; omega) (fun x _ => AtMost.edg x) (fun x W bs' cs _ k1 k2 k3 k4 k5 => by obtain rfl := k4; exact mclo_Typ k1 k2 k3 _ _ k5)).mono ?_
  rintro e w2 hL
  rw [HO1.out] at hL
  rcases hL.cases with ⟨t1, rfl, rfl, hw1, ht1⟩ | ⟨rfl, rfl, ht1⟩
  rotate_left
  · have HRR := Lib.hid (HP1.out.out ht1)
    clear hL ht1
    go_wp2_with fail
    exact ⟨rfl, HRR.out⟩
  have HP2 := Lib.hid (HP1.out.more HR.out HS.out (by decide) (by decide) hw1 ht1)
  have HT1 : Hid (t1.length ≤ (10 + 16 * 20)) := Lib.hid (AtMost.list (K := 20) (M := 16) _ (fun x _ => AtMost.edg x) rfl (by omega) t1 HO1.out)
  clear hL hw1 ht1 HP1
  have c0 : w2.cell? ⟨bn, 0, none⟩ = some (.slice A0 n0 q0) := HP2.out.n.cell 0
  have c1 : w2.cell? ⟨bn, 1, none⟩ = some (.slice A1 n1 q1) := HP2.out.n.cell 1
  have c2 : w2.cell? ⟨bn, 2, none⟩ = some (.slice A2 n2 q2) := HP2.out.n.cell 2
  have c3 : w2.cell? ⟨bn, 3, none⟩ = some (.slice A3 n3 q3) := HP2.out.n.cell 3
  have c4 : w2.cell? ⟨bn, 4, none⟩ = some (.slice A4 n4 q4) := HP2.out.n.cell 4
  have c5 : w2.cell? ⟨bn, 5, none⟩ = some (.slice A5 n5 q5) := HP2.out.n.cell 5
  have c6 : w2.cell? ⟨bn, 6, none⟩ = some (.slice A6 n6 q6) := HP2.out.n.cell 6
  have c7 : w2.cell? ⟨bn, 7, none⟩ = some (.slice A7 n7 q7) := HP2.out.n.cell 7
  have cb : w2.cell? ⟨bp, 0, none⟩ = some (.pointer (some ⟨g, 0, none⟩)) := HP2.out.p.cell 0
  go_wp2_with fail
  clear c0 c1 c2 c3 c4 c5 c6 c7 cb
  refine (mall_Sta HP2.out.pm.wt HP2.out.z HS.out _ _ HP2.out.r.l3 HP2.out.p 0 8 (by omega) (K := 100000) (by have := HL.out; have := HT1.out; simp only [List.length_append, List.length_nil]; omega) (fun x hx => (AtMost.sta x (HF.out.args x hx)).le (by omega)) (fun x W bs' cs hm k1 k2 k3 k4 k5 => by obtain ⟨av, rfl, h1⟩ := k4; obtain ⟨A, c, rfl, _, _⟩ := h1.slice; exact mclo_Sta k1 k2 HS.out k3 x.tpl x.args _ _ _ h1 (HF.out.args x hm) k5)).mono ?_
  rintro e w3 hL
  rw [HO2.out] at hL
  have HRR := Lib.hid (HP2.out.pm.then_ hL)
  rcases hL.cases with ⟨t, rfl, rfl, hw1, ht1⟩ | ⟨rfl, rfl, ht1⟩
  · clear hL hw1 ht1
    go_wp2_with fail
    go_end0
    exact HRR.out.eq (by simp [cat])
  · clear hL ht1
    go_wp2_with fail
    exact ⟨rfl, HRR.out⟩
set_option maxRecDepth 100000 in
set_option maxHeartbeats 4000000 in
theorem mclo_1 {S : Nat → Prop} {bm : Nat} (h : Wtr B w g bs) (hB : B ≤ w.heap.size) (hS : ∀ b, S b → b < B) (m : Mo) (A0 A1 A2 A3 A4 A5 A6 A7 : Option Addr) (n0 q0 n1 q1 n2 q2 n3 q3 n4 q4 n5 q5 n6 q6 n7 q7 : Nat) (hm : Blk w bm 28 #[.slice A0 n0 q0, .slice A1 n1 q1, .slice A2 n2 q2, .slice A3 n3 q3, .slice A4 n4 q4, .slice A5 n5 q5, .slice A6 n6 q6, .slice A7 n7 q7]) (hx : ModR S w m A0 A1 A2 A3 n0 q0 n1 q1 n2 q2 n3 q3) (hf : m.Fit) (hl : bs.length + 2000000000 ≤ 1099511627776) :
    Calls Tryz.prog 23 #[.pointer (some ⟨g, 0, none⟩), .pointer (some ⟨bm, 0, none⟩)] w (LaidR B g w bs (typesO m)) := by
  have HM := Lib.hid hm
  have hp := msec_1 h hB hS m A0 A1 A2 A3 A4 A5 A6 A7 n0 q0 n1 q1 n2 q2 n3 q3 n4 q4 n5 q5 n6 q6 n7 q7 hx hf hl
  clear h hB hS hm hx hf hl
  have c0 : w.cell? ⟨bm, 0, none⟩ = some (.slice A0 n0 q0) := HM.out.cell 0
  have c1 : w.cell? ⟨bm, 1, none⟩ = some (.slice A1 n1 q1) := HM.out.cell 1
  have c2 : w.cell? ⟨bm, 2, none⟩ = some (.slice A2 n2 q2) := HM.out.cell 2
  have c3 : w.cell? ⟨bm, 3, none⟩ = some (.slice A3 n3 q3) := HM.out.cell 3
  have c4 : w.cell? ⟨bm, 4, none⟩ = some (.slice A4 n4 q4) := HM.out.cell 4
  have c5 : w.cell? ⟨bm, 5, none⟩ = some (.slice A5 n5 q5) := HM.out.cell 5
  have c6 : w.cell? ⟨bm, 6, none⟩ = some (.slice A6 n6 q6) := HM.out.cell 6
  have c7 : w.cell? ⟨bm, 7, none⟩ = some (.slice A7 n7 q7) := HM.out.cell 7
  go_enter Tryz.func23, Tryz.ntmps23
  go_wp2_with fail
  refine hp.mono ?_
  rintro e w1 hL
  have HRR := Lib.hid hL
  rcases hL.cases with ⟨t, ho, rfl, hw1, ht1⟩ | ⟨ho, rfl, ht1⟩
  · clear hL ho hw1 ht1
    go_wp2_with fail
    go_end0
    exact HRR.out
  · clear hL ho ht1
    go_wp2_with fail
    exact ⟨rfl, HRR.out⟩
set_option maxRecDepth 100000 in
set_option maxHeartbeats 4000000 in
theorem mclo_2 {S : Nat → Prop} {bm : Nat} (h : Wtr B w g bs) (hB : B ≤ w.heap.size) (hS : ∀ b, S b → b < B) (m : Mo) (A0 A1 A2 A3 A4 A5 A6 A7 : Option Addr) (n0 q0 n1 q1 n2 q2 n3 q3 n4 q4 n5 q5 n6 q6 n7 q7 : Nat) (hm : Blk w bm 28 #[.slice A0 n0 q0, .slice A1 n1 q1, .slice A2 n2 q2, .slice A3 n3 q3, .slice A4 n4 q4, .slice A5 n5 q5, .slice A6 n6 q6, .slice A7 n7 q7]) (hx : ModR S w m A0 A1 A2 A3 n0 q0 n1 q1 n2 q2 n3 q3) (hf : m.Fit) (hl : bs.length + 2000000000 ≤ 1099511627776) :
    Calls Tryz.prog 25 #[.pointer (some ⟨g, 0, none⟩), .pointer (some ⟨bm, 0, none⟩)] w (LaidR B g w bs (tplsO m)) := by
  have HM := Lib.hid hm
  have hp := msec_2 h hB hS m A0 A1 A2 A3 A4 A5 A6 A7 n0 q0 n1 q1 n2 q2 n3 q3 n4 q4 n5 q5 n6 q6 n7 q7 hx hf hl
  clear h hB hS hm hx hf hl
  have c0 : w.cell? ⟨bm, 0, none⟩ = some (.slice A0 n0 q0) := HM.out.cell 0
  have c1 : w.cell? ⟨bm, 1, none⟩ = some (.slice A1 n1 q1) := HM.out.cell 1
  have c2 : w.cell? ⟨bm, 2, none⟩ = some (.slice A2 n2 q2) := HM.out.cell 2
  have c3 : w.cell? ⟨bm, 3, none⟩ = some (.slice A3 n3 q3) := HM.out.cell 3
  have c4 : w.cell? ⟨bm, 4, none⟩ = some (.slice A4 n4 q4) := HM.out.cell 4
  have c5 : w.cell? ⟨bm, 5, none⟩ = some (.slice A5 n5 q5) := HM.out.cell 5
  have c6 : w.cell? ⟨bm, 6, none⟩ = some (.slice A6 n6 q6) := HM.out.cell 6
  have c7 : w.cell? ⟨bm, 7, none⟩ = some (.slice A7 n7 q7) := HM.out.cell 7
  go_enter Tryz.func25, Tryz.ntmps25
  go_wp2_with fail
  refine hp.mono ?_
  rintro e w1 hL
  have HRR := Lib.hid hL
  rcases hL.cases with ⟨t, ho, rfl, hw1, ht1⟩ | ⟨ho, rfl, ht1⟩
  · clear hL ho hw1 ht1
    go_wp2_with fail
    go_end0
    exact HRR.out
  · clear hL ho ht1
    go_wp2_with fail
    exact ⟨rfl, HRR.out⟩
set_option maxRecDepth 100000 in
set_option maxHeartbeats 4000000 in
theorem mclo_3 {S : Nat → Prop} {bm : Nat} (h : Wtr B w g bs) (hB : B ≤ w.heap.size) (hS : ∀ b, S b → b < B) (m : Mo) (A0 A1 A2 A3 A4 A5 A6 A7 : Option Addr) (n0 q0 n1 q1 n2 q2 n3 q3 n4 q4 n5 q5 n6 q6 n7 q7 : Nat) (hm : Blk w bm 28 #[.slice A0 n0 q0, .slice A1 n1 q1, .slice A2 n2 q2, .slice A3 n3 q3, .slice A4 n4 q4, .slice A5 n5 q5, .slice A6 n6 q6, .slice A7 n7 q7]) (hx : ModR S w m A0 A1 A2 A3 n0 q0 n1 q1 n2 q2 n3 q3) (hf : m.Fit) (hl : bs.length + 2000000000 ≤ 1099511627776) :
    Calls Tryz.prog 27 #[.pointer (some ⟨g, 0, none⟩), .pointer (some ⟨bm, 0, none⟩)] w (LaidR B g w bs (bootO m)) := by
  have HM := Lib.hid hm
  have hp := msec_3 h hB hS m A0 A1 A2 A3 A4 A5 A6 A7 n0 q0 n1 q1 n2 q2 n3 q3 n4 q4 n5 q5 n6 q6 n7 q7 hx hf hl
  clear h hB hS hm hx hf hl
  have c0 : w.cell? ⟨bm, 0, none⟩ = some (.slice A0 n0 q0) := HM.out.cell 0
  have c1 : w.cell? ⟨bm, 1, none⟩ = some (.slice A1 n1 q1) := HM.out.cell 1
  have c2 : w.cell? ⟨bm, 2, none⟩ = some (.slice A2 n2 q2) := HM.out.cell 2
  have c3 : w.cell? ⟨bm, 3, none⟩ = some (.slice A3 n3 q3) := HM.out.cell 3
  have c4 : w.cell? ⟨bm, 4, none⟩ = some (.slice A4 n4 q4) := HM.out.cell 4
  have c5 : w.cell? ⟨bm, 5, none⟩ = some (.slice A5 n5 q5) := HM.out.cell 5
  have c6 : w.cell? ⟨bm, 6, none⟩ = some (.slice A6 n6 q6) := HM.out.cell 6
  have c7 : w.cell? ⟨bm, 7, none⟩ = some (.slice A7 n7 q7) := HM.out.cell 7
  go_enter Tryz.func27, Tryz.ntmps27
  go_wp2_with fail
  refine hp.mono ?_
  rintro e w1 hL
  have HRR := Lib.hid hL
  rcases hL.cases with ⟨t, ho, rfl, hw1, ht1⟩ | ⟨ho, rfl, ht1⟩
  · clear hL ho hw1 ht1
    go_wp2_with fail
    go_end0
    exact HRR.out
  · clear hL ho ht1
    go_wp2_with fail
    exact ⟨rfl, HRR.out⟩
end
/-- A section's text, or the call gave up. -/
def TextR (w : World) (o : Lay) (e : Ending) (w' : World) : Prop := w.grownBy w' none ∧ (match o with
    | some t => e = .returned (.string ⟨t.toArray⟩)
    | none => e = gaveArg)
set_option maxRecDepth 100000 in
set_option maxHeartbeats 4000000 in
theorem mtext_1 {S : Nat → Prop} {w : World} {bm : Nat} (hS : ∀ b, S b → b < w.heap.size) (m : Mo) (A0 A1 A2 A3 A4 A5 A6 A7 : Option Addr) (n0 q0 n1 q1 n2 q2 n3 q3 n4 q4 n5 q5 n6 q6 n7 q7 : Nat) (hm : Blk w bm 28 #[.slice A0 n0 q0, .slice A1 n1 q1, .slice A2 n2 q2, .slice A3 n3 q3, .slice A4 n4 q4, .slice A5 n5 q5, .slice A6 n6 q6, .slice A7 n7 q7]) (hx : ModR S w m A0 A1 A2 A3 n0 q0 n1 q1 n2 q2 n3 q3) (hf : m.Fit) :
    Calls Tryz.prog 22 #[.func (.func 23) #[] #[.pointer (some ⟨bm, 0, none⟩)]] w (TextR w (typesO m)) := by
  obtain ⟨o, ho⟩ : ∃ o, typesO m = o := ⟨_, rfl⟩
  rw [ho]
  have HO := Lib.hid ho
  have HM := Lib.hid hm
  have HX := Lib.hid hx
  have HF := Lib.hid hf
  have HS := Lib.hid hS
  clear ho hm hx hf hS
  go_enter Tryz.func22, Tryz.ntmps22
  go_wp2_with fail
  refine (newWriter_any w.heap.size w (Nat.le_refl _)).mono ?_
  rintro e w1 ⟨g, rfl, hg, hg1, hw1⟩
  have hp := mclo_1 hw1 hg1.size HS.out m A0 A1 A2 A3 A4 A5 A6 A7 n0 q0 n1 q1 n2 q2 n3 q3 n4 q4 n5 q5 n6 q6 n7 q7 (HM.out.kept hg1) (HX.out.kept (KeptS.none_ hg1)) HF.out (by simp only [List.length_nil]; omega)
  rw [HO.out] at hp
  have HG1 := Lib.hid hg1
  have HGE := Lib.hid hg
  clear hg1 hw1 hg
  go_wp2_with fail
  refine hp.mono ?_
  rintro e w2 hL
  rcases hL.cases with ⟨t, rfl, rfl, hw2, ht2⟩ | ⟨rfl, rfl, ht2⟩
  · have HG2 : Hid (w.grownBy w2 none) := Lib.hid (Turn.only HG1.out ht2 (fun i hi => WS.le HGE.out hi))
    have HT := wtext_any hw2
    clear hL hp hw2 ht2
    go_wp2_with fail
    refine HT.mono ?_
    rintro e w3 ⟨rfl, rfl⟩
    clear HT
    go_wp2_with fail
    go_ret
    exact ⟨HG2.out, rfl⟩
  · have HG2 : Hid (w.grownBy w2 none) := Lib.hid (Turn.only HG1.out ht2 (fun i hi => WS.le HGE.out hi))
    clear hL hp ht2
    go_wp2_with fail
    exact ⟨rfl, HG2.out, rfl⟩
set_option maxRecDepth 100000 in
set_option maxHeartbeats 4000000 in
theorem mtext_2 {S : Nat → Prop} {w : World} {bm : Nat} (hS : ∀ b, S b → b < w.heap.size) (m : Mo) (A0 A1 A2 A3 A4 A5 A6 A7 : Option Addr) (n0 q0 n1 q1 n2 q2 n3 q3 n4 q4 n5 q5 n6 q6 n7 q7 : Nat) (hm : Blk w bm 28 #[.slice A0 n0 q0, .slice A1 n1 q1, .slice A2 n2 q2, .slice A3 n3 q3, .slice A4 n4 q4, .slice A5 n5 q5, .slice A6 n6 q6, .slice A7 n7 q7]) (hx : ModR S w m A0 A1 A2 A3 n0 q0 n1 q1 n2 q2 n3 q3) (hf : m.Fit) :
    Calls Tryz.prog 22 #[.func (.func 25) #[] #[.pointer (some ⟨bm, 0, none⟩)]] w (TextR w (tplsO m)) := by
  obtain ⟨o, ho⟩ : ∃ o, tplsO m = o := ⟨_, rfl⟩
  rw [ho]
  have HO := Lib.hid ho
  have HM := Lib.hid hm
  have HX := Lib.hid hx
  have HF := Lib.hid hf
  have HS := Lib.hid hS
  clear ho hm hx hf hS
  go_enter Tryz.func22, Tryz.ntmps22
  go_wp2_with fail
  refine (newWriter_any w.heap.size w (Nat.le_refl _)).mono ?_
  rintro e w1 ⟨g, rfl, hg, hg1, hw1⟩
  have hp := mclo_2 hw1 hg1.size HS.out m A0 A1 A2 A3 A4 A5 A6 A7 n0 q0 n1 q1 n2 q2 n3 q3 n4 q4 n5 q5 n6 q6 n7 q7 (HM.out.kept hg1) (HX.out.kept (KeptS.none_ hg1)) HF.out (by simp only [List.length_nil]; omega)
  rw [HO.out] at hp
  have HG1 := Lib.hid hg1
  have HGE := Lib.hid hg
  clear hg1 hw1 hg
  go_wp2_with fail
  refine hp.mono ?_
  rintro e w2 hL
  rcases hL.cases with ⟨t, rfl, rfl, hw2, ht2⟩ | ⟨rfl, rfl, ht2⟩
  · have HG2 : Hid (w.grownBy w2 none) := Lib.hid (Turn.only HG1.out ht2 (fun i hi => WS.le HGE.out hi))
    have HT := wtext_any hw2
    clear hL hp hw2 ht2
    go_wp2_with fail
    refine HT.mono ?_
    rintro e w3 ⟨rfl, rfl⟩
    clear HT
    go_wp2_with fail
    go_ret
    exact ⟨HG2.out, rfl⟩
  · have HG2 : Hid (w.grownBy w2 none) := Lib.hid (Turn.only HG1.out ht2 (fun i hi => WS.le HGE.out hi))
    clear hL hp ht2
    go_wp2_with fail
    exact ⟨rfl, HG2.out, rfl⟩
set_option maxRecDepth 100000 in
set_option maxHeartbeats 4000000 in
theorem mtext_3 {S : Nat → Prop} {w : World} {bm : Nat} (hS : ∀ b, S b → b < w.heap.size) (m : Mo) (A0 A1 A2 A3 A4 A5 A6 A7 : Option Addr) (n0 q0 n1 q1 n2 q2 n3 q3 n4 q4 n5 q5 n6 q6 n7 q7 : Nat) (hm : Blk w bm 28 #[.slice A0 n0 q0, .slice A1 n1 q1, .slice A2 n2 q2, .slice A3 n3 q3, .slice A4 n4 q4, .slice A5 n5 q5, .slice A6 n6 q6, .slice A7 n7 q7]) (hx : ModR S w m A0 A1 A2 A3 n0 q0 n1 q1 n2 q2 n3 q3) (hf : m.Fit) :
    Calls Tryz.prog 22 #[.func (.func 27) #[] #[.pointer (some ⟨bm, 0, none⟩)]] w (TextR w (bootO m)) := by
  obtain ⟨o, ho⟩ : ∃ o, bootO m = o := ⟨_, rfl⟩
  rw [ho]
  have HO := Lib.hid ho
  have HM := Lib.hid hm
  have HX := Lib.hid hx
  have HF := Lib.hid hf
  have HS := Lib.hid hS
  clear ho hm hx hf hS
  go_enter Tryz.func22, Tryz.ntmps22
  go_wp2_with fail
  refine (newWriter_any w.heap.size w (Nat.le_refl _)).mono ?_
  rintro e w1 ⟨g, rfl, hg, hg1, hw1⟩
  have hp := mclo_3 hw1 hg1.size HS.out m A0 A1 A2 A3 A4 A5 A6 A7 n0 q0 n1 q1 n2 q2 n3 q3 n4 q4 n5 q5 n6 q6 n7 q7 (HM.out.kept hg1) (HX.out.kept (KeptS.none_ hg1)) HF.out (by simp only [List.length_nil]; omega)
  rw [HO.out] at hp
  have HG1 := Lib.hid hg1
  have HGE := Lib.hid hg
  clear hg1 hw1 hg
  go_wp2_with fail
  refine hp.mono ?_
  rintro e w2 hL
  rcases hL.cases with ⟨t, rfl, rfl, hw2, ht2⟩ | ⟨rfl, rfl, ht2⟩
  · have HG2 : Hid (w.grownBy w2 none) := Lib.hid (Turn.only HG1.out ht2 (fun i hi => WS.le HGE.out hi))
    have HT := wtext_any hw2
    clear hL hp hw2 ht2
    go_wp2_with fail
    refine HT.mono ?_
    rintro e w3 ⟨rfl, rfl⟩
    clear HT
    go_wp2_with fail
    go_ret
    exact ⟨HG2.out, rfl⟩
  · have HG2 : Hid (w.grownBy w2 none) := Lib.hid (Turn.only HG1.out ht2 (fun i hi => WS.le HGE.out hi))
    clear hL hp ht2
    go_wp2_with fail
    exact ⟨rfl, HG2.out, rfl⟩
end Go.Proofs.YtohhojbeclbedaaGreatDoor

namespace Go.Proofs.YtohhojbeclbedaaGreatDoor
open Go.RowKit

theorem passert_nil (w : World) : (Instr.typeAssert .nilIface 20 30 true).run Tryz.prog w = .ok (.tuple #[.int .i64 0, .bool false]) w := by kernel_rfl
theorem passert_arg (w : World) : (Instr.typeAssert (.iface 30 (.int .i64 2)) 20 30 true).run Tryz.prog w = .ok (.tuple #[.int .i64 2, .bool true]) w := by kernel_rfl
set_option maxRecDepth 100000 in
set_option maxHeartbeats 400000 in
theorem mput_catch (p q : Addr) (u v : Value) (older : List PanicEntry) (w : World) (hp : w.cell? p = some u) (hz : w.frozen? p = false) (hq : (w.setCell p (.string ⟨#[]⟩)).cell? q = some v) (hzq : (w.setCell p (.string ⟨#[]⟩)).frozen? q = false) :
    CallsD Tryz.prog 21 #[.pointer (some p), .pointer (some q)] (.panicking ({ v := .iface 30 (.int .i64 2), recovered := false } :: older)) w fun e u' w' =>
      e = .returned (.tuple #[]) ∧ u' = .panicking ({ v := .iface 30 (.int .i64 2), recovered := true } :: older) ∧ w' = (w.setCell p (.string ⟨#[]⟩)).setCell q (.int .i64 2) := by
  have h1 := passert_arg w
  refine callsD_of_wpS Tryz.func21 rfl fun c₀ cs hu => ?_
  refine wpS_seq (wpS_region ?_)
  simp [wpOpsS, go_sem, recoverD, hu, Tryz.ntmps21, h1]
  refine wpS_seq (wpS_region ?_)
  simp [wpOpsS, go_sem]
  refine wpS_cond (t := true) (by simp [go_sem]) ?_
  refine wpS_region ?_
  simp [wpOpsS, go_sem, hp, hz, hq, hzq, bodyPostS, results, Tryz.results21]
set_option maxRecDepth 100000 in
set_option maxHeartbeats 400000 in
theorem mput_idle (p q : Addr) (w : World) :
    CallsD Tryz.prog 21 #[.pointer (some p), .pointer (some q)] .returning w fun e u' w' => e = .returned (.tuple #[]) ∧ u' = .returning ∧ w' = w := by
  have h1 := passert_nil w
  refine callsD_of_wpS Tryz.func21 rfl fun c₀ cs hu => ?_
  refine wpS_seq (wpS_region ?_)
  simp [wpOpsS, go_sem, recoverD, hu, Tryz.ntmps21, h1]
  refine wpS_seq (wpS_region ?_)
  simp [wpOpsS, go_sem]
  refine wpS_cond (t := false) (by simp [go_sem]) ?_
  refine wpS_of_wp ?_
  simp only [Bool.false_eq_true, if_false]
  refine wp_skip ?_
  simp [bodyPostS, results, Tryz.results21, go_sem]
  cases c₀
  simp_all
end Go.Proofs.YtohhojbeclbedaaGreatDoor

namespace Go.Proofs.YtohhojbeclbedaaGreatDoor
open Go.RowKit

/-- Three texts' bytes, or how the call ends. -/
def joinV (a b c : List UInt8) : List UInt8 × Int := if a.length ≤ 65536 ∧ b.length ≤ 65536 ∧ c.length ≤ 65536 then (joined a b c, 0) else ([], 4)
/-- What Put answers: a module's bytes, and no error; or which. -/
def putP (m : Mo) : List UInt8 × Int := match typesO m, tplsO m, bootO m with
  | some a, some b, some c => joinV a b c
  | _, _, _ => ([], 2)
def putV (m : Mo) : Value := .tuple #[.string ⟨(putP m).1.toArray⟩, .int .i64 (putP m).2]
theorem join_any (a b c : List UInt8) (w : World) : Calls Tryz.prog 19 #[.agg #[.string ⟨a.toArray⟩, .string ⟨b.toArray⟩, .string ⟨c.toArray⟩]] w fun e w' => e = .returned (.tuple #[.string ⟨(joinV a b c).1.toArray⟩, .int .i64 (joinV a b c).2]) ∧ w.grownBy w' none := by
  have ha : (⟨a.toArray⟩ : ByteArray).size = a.length := by show a.toArray.size = _; simp
  have hb : (⟨b.toArray⟩ : ByteArray).size = b.length := by show b.toArray.size = _; simp
  have hc : (⟨c.toArray⟩ : ByteArray).size = c.length := by show c.toArray.size = _; simp
  unfold joinV
  split
  · rename_i h
    exact join_ok ⟨a.toArray⟩ ⟨b.toArray⟩ ⟨c.toArray⟩ (by omega) (by omega) (by omega) w
  · exact join_long ⟨a.toArray⟩ ⟨b.toArray⟩ ⟨c.toArray⟩ (by omega) w
/-- What stands as Put goes on: the module, and its results, boxed. -/
structure PU (w : World) (bm bS bE : Nat) (cs : Array Value) (W : World) : Prop where
  g : w.grownBy W none
  m : Blk W bm 28 cs
  s : Blk W bS 9 #[.string ⟨#[]⟩]
  e : Blk W bE 30 #[.int .i64 0]
  h1 : w.heap.size ≤ bS
  h2 : w.heap.size ≤ bE
  h3 : bS ≠ bE
theorem PU.kept {w W W' : World} {bm bS bE : Nat} {cs : Array Value} (h : PU w bm bS bE cs W) (hg : W.grownBy W' none) : PU w bm bS bE cs W' := ⟨only_trans h.g hg, h.m.kept hg, h.s.kept hg, h.e.kept hg, h.h1, h.h2, h.h3⟩
/-- Results that are stored. -/
theorem PU.put {w W : World} {bm bS bE : Nat} {cs : Array Value} (h : PU w bm bS bE cs W) (u v : Value) :
    W.cell? ⟨bS, 0, none⟩ = some (.string ⟨#[]⟩) ∧ W.frozen? ⟨bS, 0, none⟩ = false ∧ (W.setCell ⟨bS, 0, none⟩ u).cell? ⟨bE, 0, none⟩ = some (.int .i64 0) ∧ (W.setCell ⟨bS, 0, none⟩ u).frozen? ⟨bE, 0, none⟩ = false ∧
    ((W.setCell ⟨bS, 0, none⟩ u).setCell ⟨bE, 0, none⟩ v).cell? ⟨bS, 0, none⟩ = some u ∧ ((W.setCell ⟨bS, 0, none⟩ u).setCell ⟨bE, 0, none⟩ v).cell? ⟨bE, 0, none⟩ = some v ∧ w.grownBy ((W.setCell ⟨bS, 0, none⟩ u).setCell ⟨bE, 0, none⟩ v) none := by
  have e1 := h.e.far (p := ⟨bS, 0, none⟩) (by show bE ≠ bS; exact Ne.symm h.h3) u
  have s1 := h.s.set_ 0 u
  have s2 := s1.far (p := ⟨bE, 0, none⟩) (by show bS ≠ bE; exact h.h3) v
  have e2 := e1.set_ 0 v
  exact ⟨h.s.cell 0, h.s.frozen 0, e1.cell 0, e1.frozen 0, s2.cell 0, e2.cell 0, only_setNew (only_setNew h.g h.h1 _) h.h2 _⟩
set_option maxRecDepth 100000 in
set_option maxHeartbeats 4000000 in
theorem mput_any (m : Mo) (A0 A1 A2 A3 A4 A5 A6 A7 : Option Addr) (n0 q0 n1 q1 n2 q2 n3 q3 n4 q4 n5 q5 n6 q6 n7 q7 : Nat) (w : World) (hx : ModR (fun b => b < w.heap.size) w m A0 A1 A2 A3 n0 q0 n1 q1 n2 q2 n3 q3) (hf : m.Fit) :
    Calls Tryz.prog 9 #[.agg #[.slice A0 n0 q0, .slice A1 n1 q1, .slice A2 n2 q2, .slice A3 n3 q3, .slice A4 n4 q4, .slice A5 n5 q5, .slice A6 n6 q6, .slice A7 n7 q7]] w fun e w' => e = .returned (putV m) ∧ w.grownBy w' none := by
  have hmf : ∀ (fn : Fn) (first cap : Array Value) (w : World), (Instr.makeFunc fn first cap).run Tryz.prog w = .ok (.func fn first cap) w := fun _ _ _ _ => rfl
  unfold putV putP
  obtain ⟨o1, ho1⟩ : ∃ o, typesO m = o := ⟨_, rfl⟩
  obtain ⟨o2, ho2⟩ : ∃ o, tplsO m = o := ⟨_, rfl⟩
  obtain ⟨o3, ho3⟩ : ∃ o, bootO m = o := ⟨_, rfl⟩
  rw [ho1, ho2, ho3]
  have HO1 := Lib.hid ho1
  have HO2 := Lib.hid ho2
  have HO3 := Lib.hid ho3
  have hU : PU w w.heap.size (w.heap.size + 1) (w.heap.size + 1 + 1) #[.slice A0 n0 q0, .slice A1 n1 q1, .slice A2 n2 q2, .slice A3 n3 q3, .slice A4 n4 q4, .slice A5 n5 q5, .slice A6 n6 q6, .slice A7 n7 q7] (((w.alloc (.cells #[.slice A0 n0 q0, .slice A1 n1 q1, .slice A2 n2 q2, .slice A3 n3 q3, .slice A4 n4 q4, .slice A5 n5 q5, .slice A6 n6 q6, .slice A7 n7 q7] 28)).alloc (.cells #[.string ⟨#[]⟩] 9)).alloc (.cells #[.int .i64 0] 30)) := by
    refine ⟨only_alloc (only_alloc (only_alloc (only_refl _ _) _) _) _, ((Blk.new _ _ _).alloc _).alloc _, (blk_new_at (by simp) _ _).alloc _, blk_new_at (by simp) _ _, by omega, by omega, by omega⟩
  have HU := Lib.hid hU
  have HX := Lib.hid hx
  have HF := Lib.hid hf
  clear hx hf ho1 ho2 ho3 hU
  go_enter_defers Tryz.func9, Tryz.ntmps9
  go_upto_region 2 with fail
  generalize (((w.alloc (.cells #[.slice A0 n0 q0, .slice A1 n1 q1, .slice A2 n2 q2, .slice A3 n3 q3, .slice A4 n4 q4, .slice A5 n5 q5, .slice A6 n6 q6, .slice A7 n7 q7] 28)).alloc (.cells #[.string ⟨#[]⟩] 9)).alloc (.cells #[.int .i64 0] 30)) = W0 at *
  generalize hbE : w.heap.size + 1 + 1 = bE at *
  clear hbE
  generalize hbS : w.heap.size + 1 = bS at *
  clear hbS
  go_wp2_with fail
  refine (mtext_1 (S := fun b => b < w.heap.size) (fun b hb => Nat.lt_of_lt_of_le hb HU.out.g.size) m A0 A1 A2 A3 A4 A5 A6 A7 n0 q0 n1 q1 n2 q2 n3 q3 n4 q4 n5 q5 n6 q6 n7 q7 HU.out.m (HX.out.kept (KeptS.none_ HU.out.g)) HF.out).mono ?_
  rintro e w1 hT
  rw [HO1.out] at hT
  obtain ⟨gt, ht⟩ := hT
  have HU1 := Lib.hid (HU.out.kept gt)
  clear gt
  cases o1 with
  | none =>
    have ht' : e = gaveArg := ht
    subst ht'
    obtain ⟨e1, e2, e3, e4, e5, e6, e7⟩ := HU1.out.put (.string ⟨#[]⟩) (.int .i64 2)
    have HE7 := Lib.hid e7
    clear ht e7
    go_wp2_with fail
    refine leaves_cons (f := 21) (args := #[.pointer (some ⟨bS, 0, none⟩), .pointer (some ⟨bE, 0, none⟩)]) (by simp) (by simp [go_sem]) ?_
    refine (mput_catch ⟨bS, 0, none⟩ ⟨bE, 0, none⟩ _ _ [] _ e1 e2 e3 e4).mono ?_
    rintro e u' w9 ⟨rfl, rfl, rfl⟩
    simp [Leaves, settle, results, Tryz.results9, go_sem, e5, e6]
    exact HE7.out
  | some t1 =>
    have ht' : e = .returned (.string ⟨t1.toArray⟩) := ht
    subst ht'
    clear ht
    go_wp2_with fail
    refine (mtext_2 (S := fun b => b < w.heap.size) (fun b hb => Nat.lt_of_lt_of_le hb HU1.out.g.size) m A0 A1 A2 A3 A4 A5 A6 A7 n0 q0 n1 q1 n2 q2 n3 q3 n4 q4 n5 q5 n6 q6 n7 q7 HU1.out.m (HX.out.kept (KeptS.none_ HU1.out.g)) HF.out).mono ?_
    rintro e w2 hT
    rw [HO2.out] at hT
    obtain ⟨gt, ht⟩ := hT
    have HU2 := Lib.hid (HU1.out.kept gt)
    clear gt
    cases o2 with
    | none =>
      have ht' : e = gaveArg := ht
      subst ht'
      obtain ⟨e1, e2, e3, e4, e5, e6, e7⟩ := HU2.out.put (.string ⟨#[]⟩) (.int .i64 2)
      have HE7 := Lib.hid e7
      clear ht e7
      go_wp2_with fail
      refine leaves_cons (f := 21) (args := #[.pointer (some ⟨bS, 0, none⟩), .pointer (some ⟨bE, 0, none⟩)]) (by simp) (by simp [go_sem]) ?_
      refine (mput_catch ⟨bS, 0, none⟩ ⟨bE, 0, none⟩ _ _ [] _ e1 e2 e3 e4).mono ?_
      rintro e u' w9 ⟨rfl, rfl, rfl⟩
      simp [Leaves, settle, results, Tryz.results9, go_sem, e5, e6]
      exact HE7.out
    | some t2 =>
      have ht' : e = .returned (.string ⟨t2.toArray⟩) := ht
      subst ht'
      clear ht
      go_wp2_with fail
      refine (mtext_3 (S := fun b => b < w.heap.size) (fun b hb => Nat.lt_of_lt_of_le hb HU2.out.g.size) m A0 A1 A2 A3 A4 A5 A6 A7 n0 q0 n1 q1 n2 q2 n3 q3 n4 q4 n5 q5 n6 q6 n7 q7 HU2.out.m (HX.out.kept (KeptS.none_ HU2.out.g)) HF.out).mono ?_
      rintro e w3 hT
      rw [HO3.out] at hT
      obtain ⟨gt, ht⟩ := hT
      have HU3 := Lib.hid (HU2.out.kept gt)
      clear gt
      cases o3 with
      | none =>
        have ht' : e = gaveArg := ht
        subst ht'
        obtain ⟨e1, e2, e3, e4, e5, e6, e7⟩ := HU3.out.put (.string ⟨#[]⟩) (.int .i64 2)
        have HE7 := Lib.hid e7
        clear ht e7
        go_wp2_with fail
        refine leaves_cons (f := 21) (args := #[.pointer (some ⟨bS, 0, none⟩), .pointer (some ⟨bE, 0, none⟩)]) (by simp) (by simp [go_sem]) ?_
        refine (mput_catch ⟨bS, 0, none⟩ ⟨bE, 0, none⟩ _ _ [] _ e1 e2 e3 e4).mono ?_
        rintro e u' w9 ⟨rfl, rfl, rfl⟩
        simp [Leaves, settle, results, Tryz.results9, go_sem, e5, e6]
        exact HE7.out
      | some t3 =>
        have ht' : e = .returned (.string ⟨t3.toArray⟩) := ht
        subst ht'
        clear ht
        go_wp2_with fail
        refine (join_any t1 t2 t3 _).mono ?_
        rintro e w4 ⟨rfl, g4⟩
        obtain ⟨e1, e2, e3, e4, e5, e6, e7⟩ := (HU3.out.kept g4).put (.string ⟨(joinV t1 t2 t3).1.toArray⟩) (.int .i64 (joinV t1 t2 t3).2)
        have HE7 := Lib.hid e7
        clear g4 e7
        go_wp2_with fail
        refine leaves_cons (f := 21) (args := #[.pointer (some ⟨bS, 0, none⟩), .pointer (some ⟨bE, 0, none⟩)]) (by simp) (by simp [go_sem]) ?_
        refine (mput_idle ⟨bS, 0, none⟩ ⟨bE, 0, none⟩ _).mono ?_
        rintro e u' w9 ⟨rfl, rfl, rfl⟩
        simp [Leaves, settle, results, Tryz.results9, go_sem, e5, e6]
        exact HE7.out
end Go.Proofs.YtohhojbeclbedaaGreatDoor

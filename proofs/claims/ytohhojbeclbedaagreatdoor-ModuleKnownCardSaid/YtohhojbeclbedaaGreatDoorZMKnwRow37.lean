/- Texts joined for the claim's sake: MPuH, MPuT. -/
import Derived.Test.YtohhojbeclbedaaGreatDoorZMKnwRow35
import Derived.Test.YtohhojbeclbedaaGreatDoorZMKnwRow30
import Derived.Test.YtohhojbeclbedaaGreatDoorZMKnwRow36
namespace Go.Proofs.YtohhojbeclbedaaGreatDoor
open Go.RowKit

section
variable {B g : Nat} {w : World} {bs : List UInt8}
set_option maxRecDepth 100000 in
set_option maxHeartbeats 4000000 in
theorem mnode_0 {S : Nat → Prop} (h : Wtr B w g bs) (hB : B ≤ w.heap.size) (hS : ∀ b, S b → b < B)  (b : Bool) (prio to sh : Int) (l : List Edg) (A : Option Addr) (n c : Nat) (hn : l.length = n) (hx : ListA EdgE 2 S w (.slice A n c) l) (hl : bs.length + 30000 ≤ 1099511627776) (hm : moreB ⟨0, prio, b, ⟨to, sh⟩, l⟩ = false) :
    Calls Tryz.prog 66 #[.pointer (some ⟨g, 0, none⟩), .agg #[.int .i64 0, .int .i64 prio, .bool b, .int .i64 to, .int .i64 sh, .slice A n c]] w (LaidR B g w bs (cat (numO 0 5) (some []))) := by
  have HM := Lib.hid hm
  clear hm
  obtain ⟨o1, ho1⟩ : ∃ o, numO 0 5 = o := ⟨_, rfl⟩
  rw [ho1]
  have HO1 := Lib.hid ho1
  clear ho1
  have hg0 : w.grownBy ((w.alloc (.cells #[.pointer (some ⟨g, 0, none⟩)] 79)).alloc (.cells #[.int .i64 0, .int .i64 prio, .bool b, .int .i64 to, .int .i64 sh, .slice A n c] 65)) none := only_alloc (only_alloc (only_refl _ _) _) _
  have HP : Hid (PS B g w bs w.heap.size (w.heap.size + 1) 65 #[.int .i64 0, .int .i64 prio, .bool b, .int .i64 to, .int .i64 sh, .slice A n c] (fun W => ListA EdgE 2 S W (.slice A n c) l) [] ((w.alloc (.cells #[.pointer (some ⟨g, 0, none⟩)] 79)).alloc (.cells #[.int .i64 0, .int .i64 prio, .bool b, .int .i64 to, .int .i64 sh, .slice A n c] 65))) :=
    Lib.hid ⟨PM.start h hg0, (Blk.new _ _ _).alloc _, blk_new_at (by simp) _ _, by have := hg0.size; omega, hx.kept edg_ok (KeptS.none_ hg0)⟩
  have HL : Hid (bs.length + 30000 ≤ 1099511627776) := Lib.hid hl
  have HS := Lib.hid hS
  have HN := Lib.hid hn
  have HR : Hid (∀ W W', ListA EdgE 2 S W (.slice A n c) l → KeptS S W W' → ListA EdgE 2 S W' (.slice A n c) l) := Lib.hid fun _ _ h1 h2 => h1.kept edg_ok h2
  clear h hB hl hg0 hx hS hn
  go_enter Tryz.func66, Tryz.ntmps66
  go_upto_region 1 with fail
  generalize ((w.alloc (.cells #[.pointer (some ⟨g, 0, none⟩)] 79)).alloc (.cells #[.int .i64 0, .int .i64 prio, .bool b, .int .i64 to, .int .i64 sh, .slice A n c] 65)) = W1 at *
  generalize hbn : w.heap.size + 1 = bn at *
  clear hbn
  generalize w.heap.size = bp at *
  have c0 : W1.cell? ⟨bn, 0, none⟩ = some (.int .i64 0) := HP.out.n.cell 0
  have c1 : W1.cell? ⟨bn, 1, none⟩ = some (.int .i64 prio) := HP.out.n.cell 1
  have c2 : W1.cell? ⟨bn, 2, none⟩ = some (.bool b) := HP.out.n.cell 2
  have c3 : W1.cell? ⟨bn, 3, none⟩ = some (.int .i64 to) := HP.out.n.cell 3
  have c4 : W1.cell? ⟨bn, 4, none⟩ = some (.int .i64 sh) := HP.out.n.cell 4
  have c5 : W1.cell? ⟨bn, 5, none⟩ = some (.slice A n c) := HP.out.n.cell 5
  have cb : W1.cell? ⟨bp, 0, none⟩ = some (.pointer (some ⟨g, 0, none⟩)) := HP.out.p.cell 0
  go_wp2_with fail
  refine (mmore_any _ _ _ _ _ l A n c HN.out _ _ HM.out).mono ?_
  rintro e w1 ⟨rfl, g1⟩
  have HP1 := Lib.hid (HP.out.none_ HR.out g1)
  clear g1 HP c0 c1 c2 c3 c4 c5 cb
  go_wp2_with fail
  refine (mrefuse_no _).mono ?_
  rintro e w9 ⟨rfl, rfl⟩
  have c0 : w1.cell? ⟨bn, 0, none⟩ = some (.int .i64 0) := HP1.out.n.cell 0
  have c1 : w1.cell? ⟨bn, 1, none⟩ = some (.int .i64 prio) := HP1.out.n.cell 1
  have c2 : w1.cell? ⟨bn, 2, none⟩ = some (.bool b) := HP1.out.n.cell 2
  have c3 : w1.cell? ⟨bn, 3, none⟩ = some (.int .i64 to) := HP1.out.n.cell 3
  have c4 : w1.cell? ⟨bn, 4, none⟩ = some (.int .i64 sh) := HP1.out.n.cell 4
  have c5 : w1.cell? ⟨bn, 5, none⟩ = some (.slice A n c) := HP1.out.n.cell 5
  have cb : w1.cell? ⟨bp, 0, none⟩ = some (.pointer (some ⟨g, 0, none⟩)) := HP1.out.p.cell 0
  go_wp2_with fail
  clear c0 c1 c2 c3 c4 c5 cb
  refine (mnum_any HP1.out.pm.wt HP1.out.z _ 5 (by omega) (by have := HL.out; simp; omega)).mono ?_
  rintro e w2 hL
  rw [HO1.out] at hL
  rcases hL.cases with ⟨t1, rfl, rfl, hw1, ht1⟩ | ⟨rfl, rfl, ht1⟩
  rotate_left
  · have HRR := Lib.hid (HP1.out.out ht1)
    clear hL ht1
    go_wp2_with fail
    exact ⟨rfl, HRR.out⟩
  have HP2 := Lib.hid (HP1.out.more HR.out HS.out (by decide) (by decide) hw1 ht1)
  have HT1 : Hid (t1.length ≤ 10) := Lib.hid (AtMost.num (by omega) t1 HO1.out)
  clear hL hw1 ht1 HP1
  have c0 : w2.cell? ⟨bn, 0, none⟩ = some (.int .i64 0) := HP2.out.n.cell 0
  have c1 : w2.cell? ⟨bn, 1, none⟩ = some (.int .i64 prio) := HP2.out.n.cell 1
  have c2 : w2.cell? ⟨bn, 2, none⟩ = some (.bool b) := HP2.out.n.cell 2
  have c3 : w2.cell? ⟨bn, 3, none⟩ = some (.int .i64 to) := HP2.out.n.cell 3
  have c4 : w2.cell? ⟨bn, 4, none⟩ = some (.int .i64 sh) := HP2.out.n.cell 4
  have c5 : w2.cell? ⟨bn, 5, none⟩ = some (.slice A n c) := HP2.out.n.cell 5
  have cb : w2.cell? ⟨bp, 0, none⟩ = some (.pointer (some ⟨g, 0, none⟩)) := HP2.out.p.cell 0
  go_wp2_with fail
  clear c0 c1 c2 c3 c4 c5 cb
  go_end0
  exact HP2.out.pm.ret.eq (by simp [cat])
set_option maxRecDepth 100000 in
set_option maxHeartbeats 4000000 in
theorem mnode_no {S : Nat → Prop} (h : Wtr B w g bs) (hB : B ≤ w.heap.size) (hS : ∀ b, S b → b < B) (k : Int) (b : Bool) (prio to sh : Int) (l : List Edg) (A : Option Addr) (n c : Nat) (hn : l.length = n) (hx : ListA EdgE 2 S w (.slice A n c) l) (hl : bs.length + 30000 ≤ 1099511627776) (hk : numO k 5 = none) :
    Calls Tryz.prog 66 #[.pointer (some ⟨g, 0, none⟩), .agg #[.int .i64 k, .int .i64 prio, .bool b, .int .i64 to, .int .i64 sh, .slice A n c]] w (LaidR B g w bs (none)) := by
  have HK := Lib.hid hk
  clear hk
  obtain ⟨o, ho⟩ : ∃ o, moreB ⟨k, prio, b, ⟨to, sh⟩, l⟩ = o := ⟨_, rfl⟩
  have HM := Lib.hid ho
  clear ho
  have hg0 : w.grownBy ((w.alloc (.cells #[.pointer (some ⟨g, 0, none⟩)] 79)).alloc (.cells #[.int .i64 k, .int .i64 prio, .bool b, .int .i64 to, .int .i64 sh, .slice A n c] 65)) none := only_alloc (only_alloc (only_refl _ _) _) _
  have HP : Hid (PS B g w bs w.heap.size (w.heap.size + 1) 65 #[.int .i64 k, .int .i64 prio, .bool b, .int .i64 to, .int .i64 sh, .slice A n c] (fun W => ListA EdgE 2 S W (.slice A n c) l) [] ((w.alloc (.cells #[.pointer (some ⟨g, 0, none⟩)] 79)).alloc (.cells #[.int .i64 k, .int .i64 prio, .bool b, .int .i64 to, .int .i64 sh, .slice A n c] 65))) :=
    Lib.hid ⟨PM.start h hg0, (Blk.new _ _ _).alloc _, blk_new_at (by simp) _ _, by have := hg0.size; omega, hx.kept edg_ok (KeptS.none_ hg0)⟩
  have HL : Hid (bs.length + 30000 ≤ 1099511627776) := Lib.hid hl
  have HS := Lib.hid hS
  have HN := Lib.hid hn
  have HR : Hid (∀ W W', ListA EdgE 2 S W (.slice A n c) l → KeptS S W W' → ListA EdgE 2 S W' (.slice A n c) l) := Lib.hid fun _ _ h1 h2 => h1.kept edg_ok h2
  clear h hB hl hg0 hx hS hn
  go_enter Tryz.func66, Tryz.ntmps66
  go_upto_region 1 with fail
  generalize ((w.alloc (.cells #[.pointer (some ⟨g, 0, none⟩)] 79)).alloc (.cells #[.int .i64 k, .int .i64 prio, .bool b, .int .i64 to, .int .i64 sh, .slice A n c] 65)) = W1 at *
  generalize hbn : w.heap.size + 1 = bn at *
  clear hbn
  generalize w.heap.size = bp at *
  have c0 : W1.cell? ⟨bn, 0, none⟩ = some (.int .i64 k) := HP.out.n.cell 0
  have c1 : W1.cell? ⟨bn, 1, none⟩ = some (.int .i64 prio) := HP.out.n.cell 1
  have c2 : W1.cell? ⟨bn, 2, none⟩ = some (.bool b) := HP.out.n.cell 2
  have c3 : W1.cell? ⟨bn, 3, none⟩ = some (.int .i64 to) := HP.out.n.cell 3
  have c4 : W1.cell? ⟨bn, 4, none⟩ = some (.int .i64 sh) := HP.out.n.cell 4
  have c5 : W1.cell? ⟨bn, 5, none⟩ = some (.slice A n c) := HP.out.n.cell 5
  have cb : W1.cell? ⟨bp, 0, none⟩ = some (.pointer (some ⟨g, 0, none⟩)) := HP.out.p.cell 0
  go_wp2_with fail
  refine (mmore_any _ _ _ _ _ l A n c HN.out _ _ HM.out).mono ?_
  rintro e w1 ⟨rfl, g1⟩
  have HP1 := Lib.hid (HP.out.none_ HR.out g1)
  clear g1 HP c0 c1 c2 c3 c4 c5 cb
  cases o with
  | true =>
    go_wp2_with fail
    refine (mrefuse_yes _).mono ?_
    rintro e w9 ⟨rfl, g9⟩
    have HR9 := Lib.hid (HP1.out.out (Turn.none_ g9))
    clear g9
    go_wp2_with fail
    exact ⟨rfl, HR9.out⟩
  | false =>
    go_wp2_with fail
    refine (mrefuse_no _).mono ?_
    rintro e w9 ⟨rfl, rfl⟩
    have c0 : w1.cell? ⟨bn, 0, none⟩ = some (.int .i64 k) := HP1.out.n.cell 0
    have c1 : w1.cell? ⟨bn, 1, none⟩ = some (.int .i64 prio) := HP1.out.n.cell 1
    have c2 : w1.cell? ⟨bn, 2, none⟩ = some (.bool b) := HP1.out.n.cell 2
    have c3 : w1.cell? ⟨bn, 3, none⟩ = some (.int .i64 to) := HP1.out.n.cell 3
    have c4 : w1.cell? ⟨bn, 4, none⟩ = some (.int .i64 sh) := HP1.out.n.cell 4
    have c5 : w1.cell? ⟨bn, 5, none⟩ = some (.slice A n c) := HP1.out.n.cell 5
    have cb : w1.cell? ⟨bp, 0, none⟩ = some (.pointer (some ⟨g, 0, none⟩)) := HP1.out.p.cell 0
    go_wp2_with fail
    clear c0 c1 c2 c3 c4 c5 cb
    refine (mnum_any HP1.out.pm.wt HP1.out.z _ 5 (by omega) (by have := HL.out; simp; omega)).mono ?_
    rintro e w2 hL
    rw [HK.out] at hL
    rcases hL.cases with ⟨t, ho, rfl, hw1, ht1⟩ | ⟨ho, rfl, ht1⟩
    · cases ho
    · have HR9 := Lib.hid (HP1.out.out ht1)
      clear hL ho ht1
      go_wp2_with fail
      exact ⟨rfl, HR9.out⟩
set_option maxRecDepth 100000 in
set_option maxHeartbeats 4000000 in
theorem mnode_more {S : Nat → Prop} (h : Wtr B w g bs) (hB : B ≤ w.heap.size) (hS : ∀ b, S b → b < B) (k : Int) (b : Bool) (prio to sh : Int) (l : List Edg) (A : Option Addr) (n c : Nat) (hn : l.length = n) (hx : ListA EdgE 2 S w (.slice A n c) l) (hl : bs.length + 30000 ≤ 1099511627776) (hm : moreB ⟨k, prio, b, ⟨to, sh⟩, l⟩ = true) :
    Calls Tryz.prog 66 #[.pointer (some ⟨g, 0, none⟩), .agg #[.int .i64 k, .int .i64 prio, .bool b, .int .i64 to, .int .i64 sh, .slice A n c]] w (LaidR B g w bs (none)) := by
  have HM := Lib.hid hm
  clear hm
  have hg0 : w.grownBy ((w.alloc (.cells #[.pointer (some ⟨g, 0, none⟩)] 79)).alloc (.cells #[.int .i64 k, .int .i64 prio, .bool b, .int .i64 to, .int .i64 sh, .slice A n c] 65)) none := only_alloc (only_alloc (only_refl _ _) _) _
  have HP : Hid (PS B g w bs w.heap.size (w.heap.size + 1) 65 #[.int .i64 k, .int .i64 prio, .bool b, .int .i64 to, .int .i64 sh, .slice A n c] (fun W => ListA EdgE 2 S W (.slice A n c) l) [] ((w.alloc (.cells #[.pointer (some ⟨g, 0, none⟩)] 79)).alloc (.cells #[.int .i64 k, .int .i64 prio, .bool b, .int .i64 to, .int .i64 sh, .slice A n c] 65))) :=
    Lib.hid ⟨PM.start h hg0, (Blk.new _ _ _).alloc _, blk_new_at (by simp) _ _, by have := hg0.size; omega, hx.kept edg_ok (KeptS.none_ hg0)⟩
  have HL : Hid (bs.length + 30000 ≤ 1099511627776) := Lib.hid hl
  have HS := Lib.hid hS
  have HN := Lib.hid hn
  have HR : Hid (∀ W W', ListA EdgE 2 S W (.slice A n c) l → KeptS S W W' → ListA EdgE 2 S W' (.slice A n c) l) := Lib.hid fun _ _ h1 h2 => h1.kept edg_ok h2
  clear h hB hl hg0 hx hS hn
  go_enter Tryz.func66, Tryz.ntmps66
  go_upto_region 1 with fail
  generalize ((w.alloc (.cells #[.pointer (some ⟨g, 0, none⟩)] 79)).alloc (.cells #[.int .i64 k, .int .i64 prio, .bool b, .int .i64 to, .int .i64 sh, .slice A n c] 65)) = W1 at *
  generalize hbn : w.heap.size + 1 = bn at *
  clear hbn
  generalize w.heap.size = bp at *
  have c0 : W1.cell? ⟨bn, 0, none⟩ = some (.int .i64 k) := HP.out.n.cell 0
  have c1 : W1.cell? ⟨bn, 1, none⟩ = some (.int .i64 prio) := HP.out.n.cell 1
  have c2 : W1.cell? ⟨bn, 2, none⟩ = some (.bool b) := HP.out.n.cell 2
  have c3 : W1.cell? ⟨bn, 3, none⟩ = some (.int .i64 to) := HP.out.n.cell 3
  have c4 : W1.cell? ⟨bn, 4, none⟩ = some (.int .i64 sh) := HP.out.n.cell 4
  have c5 : W1.cell? ⟨bn, 5, none⟩ = some (.slice A n c) := HP.out.n.cell 5
  have cb : W1.cell? ⟨bp, 0, none⟩ = some (.pointer (some ⟨g, 0, none⟩)) := HP.out.p.cell 0
  go_wp2_with fail
  refine (mmore_any _ _ _ _ _ l A n c HN.out _ _ HM.out).mono ?_
  rintro e w1 ⟨rfl, g1⟩
  have HP1 := Lib.hid (HP.out.none_ HR.out g1)
  clear g1 HP c0 c1 c2 c3 c4 c5 cb
  go_wp2_with fail
  refine (mrefuse_yes _).mono ?_
  rintro e w9 ⟨rfl, g9⟩
  have HR9 := Lib.hid (HP1.out.out (Turn.none_ g9))
  clear g9
  go_wp2_with fail
  exact ⟨rfl, HR9.out⟩
theorem mnode_any {S : Nat → Prop} (h : Wtr B w g bs) (hB : B ≤ w.heap.size) (hS : ∀ b, S b → b < B) (x : Nod) (A : Option Addr) (n c : Nat) (hn : x.next.length = n) (hx : ListA EdgE 2 S w (.slice A n c) x.next) (hl : bs.length + 30000 ≤ 1099511627776) :
    Calls Tryz.prog 66 #[.pointer (some ⟨g, 0, none⟩), .agg #[.int .i64 x.kind, .int .i64 x.prio, .bool x.ch, .int .i64 x.pay.to, .int .i64 x.pay.sh, .slice A n c]] w (LaidR B g w bs (nodO x)) := by
  obtain ⟨k, prio, b, ⟨to, sh⟩, l⟩ := x
  dsimp only at hn hx ⊢
  cases hm : moreB ⟨k, prio, b, ⟨to, sh⟩, l⟩ with
  | true =>
    have e : nodO ⟨k, prio, b, ⟨to, sh⟩, l⟩ = none := by unfold nodO; rw [hm]; rfl
    rw [e]
    exact mnode_more h hB hS k b prio to sh l A n c hn hx hl hm
  | false =>
    have e : nodO ⟨k, prio, b, ⟨to, sh⟩, l⟩ = cat (numO k 5) (nodB ⟨k, prio, b, ⟨to, sh⟩, l⟩) := by unfold nodO; rw [hm]; exact nil_cat _
    rw [e]
    cases hk : numO k 5 with
    | none => exact mnode_no h hB hS k b prio to sh l A n c hn hx hl hk
    | some t =>
      have h5 : 0 ≤ k ∧ k ≤ 5 := by
        unfold numO at hk
        split at hk
        · assumption
        · cases hk
      have h6 : k = 0 ∨ k = 1 ∨ k = 2 ∨ k = 3 ∨ k = 4 ∨ k = 5 := by omega
      rw [← hk]
      rcases h6 with rfl | rfl | rfl | rfl | rfl | rfl
      · exact mnode_0 h hB hS b prio to sh l A n c hn hx hl hm
      · cases b with
        | true => exact mnode_1_yes h hB hS prio to sh l A n c hn hx hl hm
        | false => have := mnode_1_no h hB hS prio to sh l A n c hn hx hl hm; simpa [nodB, nil_cat] using this
      · cases b with
        | true => exact mnode_2_yes h hB hS prio to sh l A n c hn hx hl hm
        | false => have := mnode_2_no h hB hS prio to sh l A n c hn hx hl hm; simpa [nodB, nil_cat] using this
      · exact mnode_3 h hB hS b prio to sh l A n c hn hx hl hm
      · exact mnode_4 h hB hS b prio to sh l A n c hn hx hl hm
      · exact mnode_5 h hB hS b prio to sh l A n c hn hx hl hm
end
end Go.Proofs.YtohhojbeclbedaaGreatDoor

namespace Go.Proofs.YtohhojbeclbedaaGreatDoor
open Go.RowKit

theorem flat_len {x : Ins} : ∀ l : List Fld, (∀ k ∈ l, (fB x k).length ≤ 10) → (l.flatMap (fB x)).length ≤ 10 * l.length
  | [], _ => by simp
  | k :: l, h => by
    have h1 := h k (List.mem_cons_self)
    have h2 := flat_len l (fun j hj => h j (List.mem_cons_of_mem _ hj))
    rw [List.flatMap_cons, List.length_append, List.length_cons]
    omega
theorem hd_len (c : Kl) : (hdF c).length ≤ 5 := by cases c <;> decide
theorem AtMost.ins (x : Ins) (ha : Whole x.a) : AtMost 500 (insO x) := fun t h => by
  unfold insO at h
  split at h
  · rename_i hc
    injection h with h
    subst h
    have hm := may_of hc
    obtain ⟨_, h8⟩ := cov_parts hm.cov
    have h9 := flat_len (x := x) (hdF (clI x.op) ++ els x.l.length) (fun k hk => fB_len ha ((hm.in_ k hk).imp id (fun h => ⟨h.1, Int.le_trans h.2 (kOf_le _ k)⟩)))
    have := hd_len (clI x.op)
    unfold bytesI opsB
    rw [List.length_append] at h9
    have e : (els x.l.length).length = x.l.length := by simp [els]
    rw [e] at h9
    rw [List.length_cons]
    omega
  · cases h
theorem AtMost.tpl (t : Tpl) (ha : ∀ x ∈ t.code, Whole x.a) : AtMost 100000 (tplO t) :=
  ((AtMost.list (K := 21) (M := 8) t.params (fun x _ => AtMost.par x) rfl (by omega)).cat (AtMost.list (K := 500) (M := 128) t.code (fun x hx => AtMost.ins x (ha x hx)) rfl (by omega))).le (by omega)
theorem AtMost.sta (s : Sta) (ha : ∀ x ∈ s.args, Whole x.word) : AtMost 1000 (staO s) :=
  ((AtMost.num (by omega)).cat (AtMost.list (K := 11) (M := 8) s.args (fun x hx => AtMost.arg x (ha x hx)) rfl (by omega))).le (by omega)
section
variable {B g : Nat} {w : World} {bs : List UInt8}
set_option maxRecDepth 100000 in
set_option maxHeartbeats 4000000 in
theorem mclo_Tpl {bp : Nat} {S : Nat → Prop} (h : Wtr B w g bs) (hB : B ≤ w.heap.size) (hS : ∀ b, S b → b < B) (hbp : Blk w bp 79 #[.pointer (some ⟨g, 0, none⟩)]) (ps : List Par) (cs : List Ins) (A1 A2 A3 : Option Addr) (n1 q1 n2 q2 n3 q3 : Nat) (hx : (fun W => ListA ParE 3 S W (.slice A1 n1 q1) ps ∧ ListA InsE 6 S W (.slice A2 n2 q2) cs) w) (ha : ∀ x ∈ cs, Whole x.a) (hl : bs.length + 1000000 ≤ 1099511627776) :
    Calls Tryz.prog 68 #[.agg #[.slice A1 n1 q1, .slice A2 n2 q2, .slice A3 n3 q3], .pointer (some ⟨bp, 0, none⟩)] w (LaidR B g w bs (cat (listO parO 0 8 ps) (listO insO 1 128 cs))) := by
  obtain ⟨o1, ho1⟩ : ∃ o, listO parO 0 8 ps = o := ⟨_, rfl⟩
  rw [ho1]
  have HO1 := Lib.hid ho1
  clear ho1
  obtain ⟨o2, ho2⟩ : ∃ o, listO insO 1 128 cs = o := ⟨_, rfl⟩
  rw [ho2]
  have HO2 := Lib.hid ho2
  clear ho2
  have hg0 : w.grownBy (w.alloc (.cells #[.slice A1 n1 q1, .slice A2 n2 q2, .slice A3 n3 q3] 50)) none := only_alloc (only_refl _ _) _
  have HR : Hid (∀ W W', (fun W => ListA ParE 3 S W (.slice A1 n1 q1) ps ∧ ListA InsE 6 S W (.slice A2 n2 q2) cs) W → KeptS S W W' → (fun W => ListA ParE 3 S W (.slice A1 n1 q1) ps ∧ ListA InsE 6 S W (.slice A2 n2 q2) cs) W') := Lib.hid fun _ _ h1 h2 => ⟨h1.1.kept par_ok h2, h1.2.kept ins_ok h2⟩
  have HP : Hid (PS B g w bs bp w.heap.size 50 #[.slice A1 n1 q1, .slice A2 n2 q2, .slice A3 n3 q3] (fun W => ListA ParE 3 S W (.slice A1 n1 q1) ps ∧ ListA InsE 6 S W (.slice A2 n2 q2) cs) [] (w.alloc (.cells #[.slice A1 n1 q1, .slice A2 n2 q2, .slice A3 n3 q3] 50))) :=
    Lib.hid ⟨PM.start h hg0, hbp.kept hg0, Blk.new _ _ _, by have := hg0.size; omega, HR.out _ _ hx (KeptS.none_ hg0)⟩
  have HL : Hid (bs.length + 1000000 ≤ 1099511627776) := Lib.hid hl
  have HS := Lib.hid hS
  have HA := Lib.hid ha
  clear ha
  clear h hB hl hg0 hx hS hbp
  go_enter Tryz.func68, Tryz.ntmps68
  go_upto_region 1 with fail
  generalize (w.alloc (.cells #[.slice A1 n1 q1, .slice A2 n2 q2, .slice A3 n3 q3] 50)) = W1 at *
  generalize w.heap.size = bn at *
  have c0 : W1.cell? ⟨bn, 0, none⟩ = some (.slice A1 n1 q1) := HP.out.n.cell 0
  have c1 : W1.cell? ⟨bn, 1, none⟩ = some (.slice A2 n2 q2) := HP.out.n.cell 1
  have c2 : W1.cell? ⟨bn, 2, none⟩ = some (.slice A3 n3 q3) := HP.out.n.cell 2
  have cb : W1.cell? ⟨bp, 0, none⟩ = some (.pointer (some ⟨g, 0, none⟩)) := HP.out.p.cell 0
  go_wp2_with fail
  clear c0 c1 c2 cb
  have HP1 := Lib.hid HP.out
  clear HP
  refine (mall_Par HP1.out.pm.wt HP1.out.z HS.out _ _ HP1.out.r.1 HP1.out.p 0 8 (by omega) (K := 30) (by have := HL.out; simp only [List.length_append, List.length_nil]; omega) (fun x _ => (AtMost.par x).le (by omega)) (fun x W bs' cs _ k1 k2 k3 k4 k5 => by obtain rfl := k4; exact mclo_Par k1 k2 k3 _ _ _ k5)).mono ?_
  rintro e w2 hL
  rw [HO1.out] at hL
  rcases hL.cases with ⟨t1, rfl, rfl, hw1, ht1⟩ | ⟨rfl, rfl, ht1⟩
  rotate_left
  · have HRR := Lib.hid (HP1.out.out ht1)
    clear hL ht1
    go_wp2_with fail
    exact ⟨rfl, HRR.out⟩
  have HP2 := Lib.hid (HP1.out.more HR.out HS.out (by decide) (by decide) hw1 ht1)
  have HT1 : Hid (t1.length ≤ (10 + 8 * 21)) := Lib.hid (AtMost.list (K := 21) (M := 8) _ (fun x _ => AtMost.par x) rfl (by omega) t1 HO1.out)
  clear hL hw1 ht1 HP1
  have c0 : w2.cell? ⟨bn, 0, none⟩ = some (.slice A1 n1 q1) := HP2.out.n.cell 0
  have c1 : w2.cell? ⟨bn, 1, none⟩ = some (.slice A2 n2 q2) := HP2.out.n.cell 1
  have c2 : w2.cell? ⟨bn, 2, none⟩ = some (.slice A3 n3 q3) := HP2.out.n.cell 2
  have cb : w2.cell? ⟨bp, 0, none⟩ = some (.pointer (some ⟨g, 0, none⟩)) := HP2.out.p.cell 0
  go_wp2_with fail
  clear c0 c1 c2 cb
  refine (mall_Ins HP2.out.pm.wt HP2.out.z HS.out _ _ HP2.out.r.2 HP2.out.p 1 128 (by omega) (K := 500) (by have := HL.out; have := HT1.out; simp only [List.length_append, List.length_nil]; omega) (fun x hx => AtMost.ins x (HA.out x hx)) (fun x W bs' cs hm k1 k2 k3 k4 k5 => by obtain ⟨lv, rfl, hlv⟩ := k4; obtain ⟨A, c, rfl, _⟩ := id hlv; exact mclo_Ins k1 k2 HS.out k3 x _ _ _ hlv (HA.out x hm) k5)).mono ?_
  rintro e w3 hL
  rw [HO2.out] at hL
  have HRR := Lib.hid (HP2.out.pm.then_ hL)
  rcases hL.cases with ⟨t, rfl, rfl, hw1, ht1⟩ | ⟨rfl, rfl, ht1⟩
  · clear hL hw1 ht1
    go_wp2_with fail
    go_end0
    exact HRR.out.eq (by simp [cat])
  · clear hL ht1
    go_wp2_with fail
    exact ⟨rfl, HRR.out⟩
set_option maxRecDepth 100000 in
set_option maxHeartbeats 4000000 in
theorem mclo_Sta {bp : Nat} {S : Nat → Prop} (h : Wtr B w g bs) (hB : B ≤ w.heap.size) (hS : ∀ b, S b → b < B) (hbp : Blk w bp 79 #[.pointer (some ⟨g, 0, none⟩)]) (tp : Int) (l : List Arg) (A1 : Option Addr) (n1 q1 : Nat) (hx : (fun W => ListA ArgE 3 S W (.slice A1 n1 q1) l) w) (ha : ∀ x ∈ l, Whole x.word) (hl : bs.length + 100000 ≤ 1099511627776) :
    Calls Tryz.prog 80 #[.agg #[.int .i64 tp, .slice A1 n1 q1], .pointer (some ⟨bp, 0, none⟩)] w (LaidR B g w bs (cat (numO tp 15) (listO argO 0 8 l))) := by
  obtain ⟨o1, ho1⟩ : ∃ o, numO tp 15 = o := ⟨_, rfl⟩
  rw [ho1]
  have HO1 := Lib.hid ho1
  clear ho1
  obtain ⟨o2, ho2⟩ : ∃ o, listO argO 0 8 l = o := ⟨_, rfl⟩
  rw [ho2]
  have HO2 := Lib.hid ho2
  clear ho2
  have hg0 : w.grownBy (w.alloc (.cells #[.int .i64 tp, .slice A1 n1 q1] 74)) none := only_alloc (only_refl _ _) _
  have HR : Hid (∀ W W', (fun W => ListA ArgE 3 S W (.slice A1 n1 q1) l) W → KeptS S W W' → (fun W => ListA ArgE 3 S W (.slice A1 n1 q1) l) W') := Lib.hid fun _ _ h1 h2 => h1.kept arg_ok h2
  have HP : Hid (PS B g w bs bp w.heap.size 74 #[.int .i64 tp, .slice A1 n1 q1] (fun W => ListA ArgE 3 S W (.slice A1 n1 q1) l) [] (w.alloc (.cells #[.int .i64 tp, .slice A1 n1 q1] 74))) :=
    Lib.hid ⟨PM.start h hg0, hbp.kept hg0, Blk.new _ _ _, by have := hg0.size; omega, HR.out _ _ hx (KeptS.none_ hg0)⟩
  have HL : Hid (bs.length + 100000 ≤ 1099511627776) := Lib.hid hl
  have HS := Lib.hid hS
  have HA := Lib.hid ha
  clear ha
  clear h hB hl hg0 hx hS hbp
  go_enter Tryz.func80, Tryz.ntmps80
  go_upto_region 1 with fail
  generalize (w.alloc (.cells #[.int .i64 tp, .slice A1 n1 q1] 74)) = W1 at *
  generalize w.heap.size = bn at *
  have c0 : W1.cell? ⟨bn, 0, none⟩ = some (.int .i64 tp) := HP.out.n.cell 0
  have c1 : W1.cell? ⟨bn, 1, none⟩ = some (.slice A1 n1 q1) := HP.out.n.cell 1
  have cb : W1.cell? ⟨bp, 0, none⟩ = some (.pointer (some ⟨g, 0, none⟩)) := HP.out.p.cell 0
  go_wp2_with fail
  clear c0 c1 cb
  have HP1 := Lib.hid HP.out
  clear HP
  refine (mnum_any HP1.out.pm.wt HP1.out.z _ 15 (by omega) (by have := HL.out; simp only [List.length_append, List.length_nil]; omega)).mono ?_
  rintro e w2 hL
  rw [HO1.out] at hL
  rcases hL.cases with ⟨t1, rfl, rfl, hw1, ht1⟩ | ⟨rfl, rfl, ht1⟩
  rotate_left
  · have HRR := Lib.hid (HP1.out.out ht1)
    clear hL ht1
    go_wp2_with fail
    exact ⟨rfl, HRR.out⟩
  have HP2 := Lib.hid (HP1.out.more HR.out HS.out (by decide) (by decide) hw1 ht1)
  have HT1 : Hid (t1.length ≤ 10) := Lib.hid (AtMost.num (by omega) t1 HO1.out)
  clear hL hw1 ht1 HP1
  have c0 : w2.cell? ⟨bn, 0, none⟩ = some (.int .i64 tp) := HP2.out.n.cell 0
  have c1 : w2.cell? ⟨bn, 1, none⟩ = some (.slice A1 n1 q1) := HP2.out.n.cell 1
  have cb : w2.cell? ⟨bp, 0, none⟩ = some (.pointer (some ⟨g, 0, none⟩)) := HP2.out.p.cell 0
  go_wp2_with fail
  clear c0 c1 cb
  refine (mall_Arg HP2.out.pm.wt HP2.out.z HS.out _ _ HP2.out.r HP2.out.p 0 8 (by omega) (K := 30) (by have := HL.out; have := HT1.out; simp only [List.length_append, List.length_nil]; omega) (fun x hx => (AtMost.arg x (HA.out x hx)).le (by omega)) (fun x W bs' cs hm k1 k2 k3 k4 k5 => by obtain rfl := k4; exact mclo_Arg k1 k2 k3 _ _ _ (HA.out x hm) k5)).mono ?_
  rintro e w3 hL
  rw [HO2.out] at hL
  have HRR := Lib.hid (HP2.out.pm.then_ hL)
  rcases hL.cases with ⟨t, rfl, rfl, hw1, ht1⟩ | ⟨rfl, rfl, ht1⟩
  · clear hL hw1 ht1
    go_wp2_with fail
    go_end0
    exact HRR.out.eq (by simp [cat])
  · clear hL ht1
    go_wp2_with fail
    exact ⟨rfl, HRR.out⟩
set_option maxRecDepth 100000 in
set_option maxHeartbeats 4000000 in
theorem mclo_Nod {bp : Nat} {S : Nat → Prop} (h : Wtr B w g bs) (hB : B ≤ w.heap.size) (hS : ∀ b, S b → b < B) (hbp : Blk w bp 79 #[.pointer (some ⟨g, 0, none⟩)]) (x : Nod) (A1 : Option Addr) (n1 q1 : Nat) (hn : x.next.length = n1) (hx : (fun W => ListA EdgE 2 S W (.slice A1 n1 q1) x.next) w) (hl : bs.length + 30000 ≤ 1099511627776) :
    Calls Tryz.prog 65 #[.agg #[.int .i64 x.kind, .int .i64 x.prio, .bool x.ch, .int .i64 x.pay.to, .int .i64 x.pay.sh, .slice A1 n1 q1], .pointer (some ⟨bp, 0, none⟩)] w (LaidR B g w bs (nodO x)) := by
  obtain ⟨o1, ho1⟩ : ∃ o, nodO x = o := ⟨_, rfl⟩
  rw [ho1]
  have HO1 := Lib.hid ho1
  clear ho1
  have hg0 : w.grownBy (w.alloc (.cells #[.int .i64 x.kind, .int .i64 x.prio, .bool x.ch, .int .i64 x.pay.to, .int .i64 x.pay.sh, .slice A1 n1 q1] 65)) none := only_alloc (only_refl _ _) _
  have HR : Hid (∀ W W', (fun W => ListA EdgE 2 S W (.slice A1 n1 q1) x.next) W → KeptS S W W' → (fun W => ListA EdgE 2 S W (.slice A1 n1 q1) x.next) W') := Lib.hid fun _ _ h1 h2 => h1.kept edg_ok h2
  have HP : Hid (PS B g w bs bp w.heap.size 65 #[.int .i64 x.kind, .int .i64 x.prio, .bool x.ch, .int .i64 x.pay.to, .int .i64 x.pay.sh, .slice A1 n1 q1] (fun W => ListA EdgE 2 S W (.slice A1 n1 q1) x.next) [] (w.alloc (.cells #[.int .i64 x.kind, .int .i64 x.prio, .bool x.ch, .int .i64 x.pay.to, .int .i64 x.pay.sh, .slice A1 n1 q1] 65))) :=
    Lib.hid ⟨PM.start h hg0, hbp.kept hg0, Blk.new _ _ _, by have := hg0.size; omega, HR.out _ _ hx (KeptS.none_ hg0)⟩
  have HL : Hid (bs.length + 30000 ≤ 1099511627776) := Lib.hid hl
  have HS := Lib.hid hS
  have HNN := Lib.hid hn
  clear hn
  clear h hB hl hg0 hx hS hbp
  go_enter Tryz.func65, Tryz.ntmps65
  go_upto_region 1 with fail
  generalize (w.alloc (.cells #[.int .i64 x.kind, .int .i64 x.prio, .bool x.ch, .int .i64 x.pay.to, .int .i64 x.pay.sh, .slice A1 n1 q1] 65)) = W1 at *
  generalize w.heap.size = bn at *
  have c0 : W1.cell? ⟨bn, 0, none⟩ = some (.int .i64 x.kind) := HP.out.n.cell 0
  have c1 : W1.cell? ⟨bn, 1, none⟩ = some (.int .i64 x.prio) := HP.out.n.cell 1
  have c2 : W1.cell? ⟨bn, 2, none⟩ = some (.bool x.ch) := HP.out.n.cell 2
  have c3 : W1.cell? ⟨bn, 3, none⟩ = some (.int .i64 x.pay.to) := HP.out.n.cell 3
  have c4 : W1.cell? ⟨bn, 4, none⟩ = some (.int .i64 x.pay.sh) := HP.out.n.cell 4
  have c5 : W1.cell? ⟨bn, 5, none⟩ = some (.slice A1 n1 q1) := HP.out.n.cell 5
  have cb : W1.cell? ⟨bp, 0, none⟩ = some (.pointer (some ⟨g, 0, none⟩)) := HP.out.p.cell 0
  go_wp2_with fail
  clear c0 c1 c2 c3 c4 c5 cb
  have HP1 := Lib.hid HP.out
  clear HP
  refine (mnode_any HP1.out.pm.wt HP1.out.z HS.out x _ _ _ HNN.out HP1.out.r (by have := HL.out; simp only [List.length_append, List.length_nil]; omega)).mono ?_
  rintro e w2 hL
  rw [HO1.out] at hL
  have HRR := Lib.hid (HP1.out.pm.then_ hL)
  rcases hL.cases with ⟨t, rfl, rfl, hw1, ht1⟩ | ⟨rfl, rfl, ht1⟩
  · clear hL hw1 ht1
    go_wp2_with fail
    go_end0
    exact HRR.out.eq (by simp [cat])
  · clear hL ht1
    go_wp2_with fail
    exact ⟨rfl, HRR.out⟩
end
end Go.Proofs.YtohhojbeclbedaaGreatDoor

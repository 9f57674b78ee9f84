/- Texts joined for the claim's sake: IOpn, MPuC, MPuD, MSim. -/
import Derived.ProofKit
import Derived.RowKit
import Derived.ChangeSame
import Derived.Test.YtohhojbeclbedaaGreatDoorZMKnwRow0
import Derived.OpenShut
import Derived.Deep.SlicePairs
import Derived.Deep.Slices
import Derived.Deep.Fields
import Derived.Lib.SmallJoins
import Derived.Test.YtohhojbeclbedaaGreatDoorZMKnwRow25
import Derived.Test.YtohhojbeclbedaaGreatDoorZMKnwRow28
namespace Go.Proofs.YtohhojbeclbedaaGreatDoor
open Go.ChangeShapes Go.WideShapes Go.RowKit Go.Deep

section
variable {H : Type} {enc : TypeId × Value → H} {W : World} {sp : Nat → Bool} {fuel : Nat} {x : DataW H × List MemPlace}
instance : Inhabited (Int × Sg) := ⟨(0, ⟨0, 0, 0, 0, .slice none 0 0, []⟩)⟩
end
end Go.Proofs.YtohhojbeclbedaaGreatDoor

namespace Go.Proofs.YtohhojbeclbedaaGreatDoor
open Go.RowKit

section
variable {B g : Nat} {w : World} {bs : List UInt8}
set_option maxRecDepth 100000 in
set_option maxHeartbeats 1000000 in
theorem mmark_any (h : Wtr B w g bs) (hB : B ≤ w.heap.size) (b : Bool) (hl : bs.length + 10 ≤ 1099511627776) :
    Calls Tryz.prog 128 #[.pointer (some ⟨g, 0, none⟩), .bool b] w (LaidR B g w bs (markO b)) := by
  have e : markO b = numO (if b then 1 else 0) 1 := by cases b <;> simp [markO, numO, sev_lt]
  rw [e]
  have H := Lib.hid h
  have HB := Lib.hid hB
  have HL := Lib.hid hl
  clear h hB hl e
  cases b
  all_goals
    go_enter Tryz.func128, Tryz.ntmps128
    go_wp2_with fail
    refine (mnum_any H.out HB.out _ 1 (by omega) HL.out).mono ?_
    rintro e w1 hL
    rcases hL.cases with ⟨t, ho, rfl, hw1, ht1⟩ | ⟨ho, rfl, ht1⟩
    · have HR := Lib.hid hL
      clear hL hw1 ht1 ho
      go_wp2_with fail
      go_end0
      exact HR.out
    · have HR := Lib.hid hL
      clear hL ht1 ho
      go_wp2_with fail
      exact ⟨rfl, HR.out⟩
/-- One more call: it lays, or gives up. -/
theorem PM.more {t u : List UInt8} {W W1 : World} {k : Nat} {T : TypeId} {cs : Array Value} (hp : PM B g w bs t W) (hw : Wtr B W1 g ((bs ++ t) ++ u)) (ht : Turn (WS B W g) W W1) (hx : Blk W k T cs) (hz : B ≤ W.heap.size) (h1 : T ≠ 182) (h2 : T ≠ 5) :
    PM B g w bs (t ++ u) W1 ∧ Blk W1 k T cs ∧ B ≤ W1.heap.size := ⟨hp.next hw ht, hx.turn ht (not_ws hp.wt hx h1 h2), Nat.le_trans hz ht.size⟩
set_option maxRecDepth 100000 in
set_option maxHeartbeats 1000000 in
theorem medge_any (h : Wtr B w g bs) (hB : B ≤ w.heap.size) (n m : Int) (hl : bs.length + 20 ≤ 1099511627776) :
    Calls Tryz.prog 129 #[.pointer (some ⟨g, 0, none⟩), .agg #[.int .i64 n, .int .i64 m]] w (LaidR B g w bs (edgO ⟨n, m⟩)) := by
  unfold edgO
  dsimp only
  obtain ⟨o1, ho1⟩ : ∃ o, numO n 63 = o := ⟨_, rfl⟩
  rw [ho1]
  have HO1 := Lib.hid ho1
  clear ho1
  have hg0 : w.grownBy (w.alloc (.cells #[.int .i64 n, .int .i64 m] 62)) none := only_alloc (only_refl _ _) _
  have HP : Hid (PM B g w bs [] (w.alloc (.cells #[.int .i64 n, .int .i64 m] 62))) := Lib.hid (PM.start h hg0)
  have HX := Lib.hid (Blk.new w 62 #[.int .i64 n, .int .i64 m])
  have HZ : Hid (B ≤ (w.alloc (.cells #[.int .i64 n, .int .i64 m] 62)).heap.size) := Lib.hid (by have := hg0.size; omega)
  have HL : Hid (bs.length + 20 ≤ 1099511627776) := Lib.hid hl
  clear h hB hl hg0
  go_enter Tryz.func129, Tryz.ntmps129
  go_upto_region 1 with fail
  generalize w.alloc (.cells #[.int .i64 n, .int .i64 m] 62) = W1 at *
  generalize w.heap.size = bx at *
  have c0 : W1.cell? ⟨bx, 0, none⟩ = some (.int .i64 n) := HX.out.cell 0
  have c1 : W1.cell? ⟨bx, 1, none⟩ = some (.int .i64 m) := HX.out.cell 1
  go_wp2_with fail
  refine (mnum_any HP.out.wt HZ.out _ 63 (by omega) (by have := HL.out; simp; omega)).mono ?_
  rintro e w1 hL
  rw [HO1.out] at hL
  rcases hL.cases with ⟨t, rfl, rfl, hw1, ht1⟩ | ⟨rfl, rfl, ht1⟩
  rotate_left
  · have HR := Lib.hid (HP.out.out ht1)
    clear hL ht1
    go_wp2_with fail
    exact ⟨rfl, HR.out⟩
  obtain ⟨hp, hx, hz⟩ := HP.out.more hw1 ht1 HX.out HZ.out (by decide) (by decide)
  have ht := AtMost.num (by omega) t HO1.out
  have HP1 := Lib.hid hp
  have HX1 := Lib.hid hx
  have HZ1 := Lib.hid hz
  have HL1 : Hid ((bs ++ ([] ++ t)).length + 10 ≤ 1099511627776) := Lib.hid (by have := HL.out; simp; omega)
  clear hL hw1 ht1 hp hx hz ht c0 c1 HP HX HZ
  have c1 : w1.cell? ⟨bx, 1, none⟩ = some (.int .i64 m) := HX1.out.cell 1
  go_wp2_with fail
  refine (mnum_any HP1.out.wt HZ1.out _ 1000 (by omega) HL1.out).mono ?_
  rintro e w2 hL
  rcases hL.cases with ⟨t2, ho, rfl, hw1, ht1⟩ | ⟨ho, rfl, ht1⟩
  · have HR := Lib.hid (HP1.out.then_ hL)
    clear hL hw1 ht1 ho
    go_wp2_with fail
    go_end0
    exact HR.out
  · have HR := Lib.hid (HP1.out.then_ hL)
    clear hL ht1 ho
    go_wp2_with fail
    exact ⟨rfl, HR.out⟩
set_option maxRecDepth 100000 in
set_option maxHeartbeats 1000000 in
theorem mtype_any (h : Wtr B w g bs) (hB : B ≤ w.heap.size) (n m : Int) (hl : bs.length + 20 ≤ 1099511627776) :
    Calls Tryz.prog 78 #[.pointer (some ⟨g, 0, none⟩), .agg #[.int .i64 n, .int .i64 m]] w (LaidR B g w bs (edgO ⟨n, m⟩)) := by
  unfold edgO
  dsimp only
  obtain ⟨o1, ho1⟩ : ∃ o, numO n 63 = o := ⟨_, rfl⟩
  rw [ho1]
  have HO1 := Lib.hid ho1
  clear ho1
  have hg0 : w.grownBy (w.alloc (.cells #[.int .i64 n, .int .i64 m] 67)) none := only_alloc (only_refl _ _) _
  have HP : Hid (PM B g w bs [] (w.alloc (.cells #[.int .i64 n, .int .i64 m] 67))) := Lib.hid (PM.start h hg0)
  have HX := Lib.hid (Blk.new w 67 #[.int .i64 n, .int .i64 m])
  have HZ : Hid (B ≤ (w.alloc (.cells #[.int .i64 n, .int .i64 m] 67)).heap.size) := Lib.hid (by have := hg0.size; omega)
  have HL : Hid (bs.length + 20 ≤ 1099511627776) := Lib.hid hl
  clear h hB hl hg0
  go_enter Tryz.func78, Tryz.ntmps78
  go_upto_region 1 with fail
  generalize w.alloc (.cells #[.int .i64 n, .int .i64 m] 67) = W1 at *
  generalize w.heap.size = bx at *
  have c0 : W1.cell? ⟨bx, 0, none⟩ = some (.int .i64 n) := HX.out.cell 0
  have c1 : W1.cell? ⟨bx, 1, none⟩ = some (.int .i64 m) := HX.out.cell 1
  go_wp2_with fail
  refine (mnum_any HP.out.wt HZ.out _ 63 (by omega) (by have := HL.out; simp; omega)).mono ?_
  rintro e w1 hL
  rw [HO1.out] at hL
  rcases hL.cases with ⟨t, rfl, rfl, hw1, ht1⟩ | ⟨rfl, rfl, ht1⟩
  rotate_left
  · have HR := Lib.hid (HP.out.out ht1)
    clear hL ht1
    go_wp2_with fail
    exact ⟨rfl, HR.out⟩
  obtain ⟨hp, hx, hz⟩ := HP.out.more hw1 ht1 HX.out HZ.out (by decide) (by decide)
  have ht := AtMost.num (by omega) t HO1.out
  have HP1 := Lib.hid hp
  have HX1 := Lib.hid hx
  have HZ1 := Lib.hid hz
  have HL1 : Hid ((bs ++ ([] ++ t)).length + 10 ≤ 1099511627776) := Lib.hid (by have := HL.out; simp; omega)
  clear hL hw1 ht1 hp hx hz ht c0 c1 HP HX HZ
  have c1 : w1.cell? ⟨bx, 1, none⟩ = some (.int .i64 m) := HX1.out.cell 1
  go_wp2_with fail
  refine (mnum_any HP1.out.wt HZ1.out _ 1000 (by omega) HL1.out).mono ?_
  rintro e w2 hL
  rcases hL.cases with ⟨t2, ho, rfl, hw1, ht1⟩ | ⟨ho, rfl, ht1⟩
  · have HR := Lib.hid (HP1.out.then_ hL)
    clear hL hw1 ht1 ho
    go_wp2_with fail
    go_end0
    exact HR.out
  · have HR := Lib.hid (HP1.out.then_ hL)
    clear hL ht1 ho
    go_wp2_with fail
    exact ⟨rfl, HR.out⟩
end
end Go.Proofs.YtohhojbeclbedaaGreatDoor

namespace Go.Proofs.YtohhojbeclbedaaGreatDoor
open Go.RowKit

section
variable {B g : Nat} {w : World} {bs : List UInt8}
set_option maxRecDepth 100000 in
set_option maxHeartbeats 1000000 in
theorem monly_any {S : Nat → Prop} (h : Wtr B w g bs) (hB : B ≤ w.heap.size) (xs : List Edg) (v : Value) (hx : ListA EdgE 2 S w v xs) (hl : bs.length + 20 ≤ 1099511627776) :
    Calls Tryz.prog 127 #[.pointer (some ⟨g, 0, none⟩), v] w (LaidR B g w bs (onlyO xs)) := by
  obtain ⟨A, c, rfl, hc1, hc2⟩ := hx.slice
  have hc1I : (xs.length : Int) ≤ (c : Int) := by omega
  have hc2I : (c : Int) ≤ 9223372036854775807 := by omega
  have H := Lib.hid h
  have HB := Lib.hid hB
  have HL := Lib.hid hl
  have HX := Lib.hid hx
  clear h hB hl hx
  by_cases h1 : xs.length = 1
  · match xs, h1 with
    | [x], _ =>
      obtain ⟨b, off, cs, rfl, hSb, hE, hcs⟩ := HX.out.at_ (i := 0) rfl
      obtain rfl := hE
      have c0 : w.cell? ⟨b, off, none⟩ = some (.int .i64 x.to) := hcs 0 _ rfl
      have c1 : w.cell? ⟨b, off + 1, none⟩ = some (.int .i64 x.sh) := hcs 1 _ rfl
      show Calls _ _ _ _ (LaidR B g w bs (edgO x))
      clear hcs
      dsimp only [List.length_singleton] at *
      go_enter Tryz.func127, Tryz.ntmps127
      go_wp2_with fail
      refine (mrefuse_no _).mono ?_
      rintro e w1 ⟨rfl, rfl⟩
      go_wp2_with fail
      refine (medge_any H.out HB.out _ _ HL.out).mono ?_
      rintro e w1 hL
      have HR := Lib.hid hL
      rcases hL.cases with ⟨t, ho, rfl, hw1, ht1⟩ | ⟨ho, rfl, ht1⟩
      · clear hL hw1 ht1 ho
        go_wp2_with fail
        go_end0
        exact HR.out
      · clear hL ht1 ho
        go_wp2_with fail
        exact ⟨rfl, HR.out⟩
  · have e : onlyO xs = none := by
      match xs, h1 with
      | [], _ => rfl
      | [x], h => exact absurd rfl h
      | _ :: _ :: _, _ => rfl
    rw [e]
    have h1b : ((xs.length : Int) != 1) = true := by rw [bne_iff_ne]; omega
    clear e
    go_enter Tryz.func127, Tryz.ntmps127
    go_wp2_with fail
    refine (mrefuse_yes _).mono ?_
    rintro e w1 ⟨rfl, g1⟩
    go_wp2_with fail
    exact ⟨rfl, LaidR.out (Turn.none_ g1)⟩
set_option maxRecDepth 100000 in
set_option maxHeartbeats 1000000 in
theorem mparam_any (h : Wtr B w g bs) (hB : B ≤ w.heap.size) (b : Bool) (n m : Int) (hl : bs.length + 30 ≤ 1099511627776) :
    Calls Tryz.prog 71 #[.pointer (some ⟨g, 0, none⟩), .agg #[.bool b, .int .i64 n, .int .i64 m]] w (LaidR B g w bs (parO ⟨b, ⟨n, m⟩⟩)) := by
  unfold parO
  dsimp only
  cases b with
  | true =>
    show Calls _ _ _ _ (LaidR B g w bs (cat (some [1]) (edgO ⟨n, m⟩)))
    have hg0 : w.grownBy (w.alloc (.cells #[.bool true, .int .i64 n, .int .i64 m] 69)) none := only_alloc (only_refl _ _) _
    have HP : Hid (PM B g w bs [] (w.alloc (.cells #[.bool true, .int .i64 n, .int .i64 m] 69))) := Lib.hid (PM.start h hg0)
    have HX := Lib.hid (Blk.new w 69 #[.bool true, .int .i64 n, .int .i64 m])
    have HZ : Hid (B ≤ (w.alloc (.cells #[.bool true, .int .i64 n, .int .i64 m] 69)).heap.size) := Lib.hid (by have := hg0.size; omega)
    have HL : Hid (bs.length + 30 ≤ 1099511627776) := Lib.hid hl
    clear h hB hl hg0
    go_enter Tryz.func71, Tryz.ntmps71
    go_upto_region 1 with fail
    generalize w.alloc (.cells #[.bool true, .int .i64 n, .int .i64 m] 69) = W1 at *
    generalize w.heap.size = bx at *
    have c0 : W1.cell? ⟨bx, 0, none⟩ = some (.bool true) := HX.out.cell 0
    have c1 : W1.cell? ⟨bx, 1, none⟩ = some (.int .i64 n) := HX.out.cell 1
    have c2 : W1.cell? ⟨bx, 2, none⟩ = some (.int .i64 m) := HX.out.cell 2
    go_wp2_with fail
    refine (mmark_any HP.out.wt HZ.out _ (by have := HL.out; simp; omega)).mono ?_
    rintro e w1 hL
    unfold markO at hL
    rcases hL.cases with ⟨t, ho, rfl, hw1, ht1⟩ | ⟨ho, rfl, ht1⟩
    rotate_left
    · cases ho
    injection ho with ho
    subst ho
    obtain ⟨hp, hx, hz⟩ := HP.out.more hw1 ht1 HX.out HZ.out (by decide) (by decide)
    have HP1 := Lib.hid hp
    have HX1 := Lib.hid hx
    have HZ1 := Lib.hid hz
    have HL1 : Hid ((bs ++ ([] ++ [1])).length + 20 ≤ 1099511627776) := Lib.hid (by have := HL.out; simp; omega)
    clear hL hw1 ht1 hp hx hz c0 c1 c2 HP HX HZ
    have c0 : w1.cell? ⟨bx, 0, none⟩ = some (.bool true) := HX1.out.cell 0
    have c1 : w1.cell? ⟨bx, 1, none⟩ = some (.int .i64 n) := HX1.out.cell 1
    have c2 : w1.cell? ⟨bx, 2, none⟩ = some (.int .i64 m) := HX1.out.cell 2
    go_wp2_with fail
    refine (mtype_any HP1.out.wt HZ1.out _ _ HL1.out).mono ?_
    rintro e w2 hL
    have HR := Lib.hid (HP1.out.then_ hL)
    rcases hL.cases with ⟨t, ho, rfl, hw1, ht1⟩ | ⟨ho, rfl, ht1⟩
    · clear hL hw1 ht1 ho
      go_wp2_with fail
      go_end0
      exact HR.out
    · clear hL ht1 ho
      go_wp2_with fail
      exact ⟨rfl, HR.out⟩
  | false =>
    show Calls _ _ _ _ (LaidR B g w bs (cat (some [0]) (okO (n == 0 && m == 0))))
    have hg0 : w.grownBy (w.alloc (.cells #[.bool false, .int .i64 n, .int .i64 m] 69)) none := only_alloc (only_refl _ _) _
    have HP : Hid (PM B g w bs [] (w.alloc (.cells #[.bool false, .int .i64 n, .int .i64 m] 69))) := Lib.hid (PM.start h hg0)
    have HX := Lib.hid (Blk.new w 69 #[.bool false, .int .i64 n, .int .i64 m])
    have HZ : Hid (B ≤ (w.alloc (.cells #[.bool false, .int .i64 n, .int .i64 m] 69)).heap.size) := Lib.hid (by have := hg0.size; omega)
    have HL : Hid (bs.length + 30 ≤ 1099511627776) := Lib.hid hl
    clear h hB hl hg0
    go_enter Tryz.func71, Tryz.ntmps71
    go_upto_region 1 with fail
    generalize w.alloc (.cells #[.bool false, .int .i64 n, .int .i64 m] 69) = W1 at *
    generalize w.heap.size = bx at *
    have c0 : W1.cell? ⟨bx, 0, none⟩ = some (.bool false) := HX.out.cell 0
    have c1 : W1.cell? ⟨bx, 1, none⟩ = some (.int .i64 n) := HX.out.cell 1
    have c2 : W1.cell? ⟨bx, 2, none⟩ = some (.int .i64 m) := HX.out.cell 2
    go_wp2_with fail
    refine (mmark_any HP.out.wt HZ.out _ (by have := HL.out; simp; omega)).mono ?_
    rintro e w1 hL
    unfold markO at hL
    rcases hL.cases with ⟨t, ho, rfl, hw1, ht1⟩ | ⟨ho, rfl, ht1⟩
    rotate_left
    · cases ho
    injection ho with ho
    subst ho
    obtain ⟨hp, hx, hz⟩ := HP.out.more hw1 ht1 HX.out HZ.out (by decide) (by decide)
    have HP1 := Lib.hid hp
    have HX1 := Lib.hid hx
    have HZ1 := Lib.hid hz
    have HL1 : Hid ((bs ++ ([] ++ [0])).length + 20 ≤ 1099511627776) := Lib.hid (by have := HL.out; simp; omega)
    clear hL hw1 ht1 hp hx hz c0 c1 c2 HP HX HZ
    have c0 : w1.cell? ⟨bx, 0, none⟩ = some (.bool false) := HX1.out.cell 0
    have c1 : w1.cell? ⟨bx, 1, none⟩ = some (.int .i64 n) := HX1.out.cell 1
    have c2 : w1.cell? ⟨bx, 2, none⟩ = some (.int .i64 m) := HX1.out.cell 2
    by_cases h0 : n = 0 ∧ m = 0
    · obtain ⟨rfl, rfl⟩ := h0
      go_wp2_with fail
      refine (mrefuse_no _).mono ?_
      rintro e w1 ⟨rfl, rfl⟩
      go_wp2_with fail
      go_end0
      exact HP1.out.ret
    · have e : (n == 0 && m == 0) = false := by
        rw [Bool.and_eq_false_iff, beq_eq_false_iff_ne, beq_eq_false_iff_ne]
        omega
      rw [e]
      have HR9 : Hid (∀ W2, Turn (WS B w1 g) w1 W2 → LaidR B g w bs (cat (some [0]) (okO false)) gaveArg W2) := Lib.hid fun _ h => HP1.out.out h
      clear e
      by_cases hn : n = 0
      · subst hn
        have hm : m ≠ 0 := fun e => h0 ⟨rfl, e⟩
        have e1 : (m == 0) = false := beq_eq_false_iff_ne.2 hm
        have e2 : (m != 0) = true := bne_iff_ne.2 hm
        go_wp2_with fail
        refine (mrefuse_yes _).mono ?_
        rintro e w1 ⟨rfl, g1⟩
        go_wp2_with fail
        exact ⟨rfl, HR9.out _ (Turn.none_ g1)⟩
      · have e1 : (n == 0) = false := beq_eq_false_iff_ne.2 hn
        have e2 : (n != 0) = true := bne_iff_ne.2 hn
        go_wp2_with fail
        refine (mrefuse_yes _).mono ?_
        rintro e w1 ⟨rfl, g1⟩
        go_wp2_with fail
        exact ⟨rfl, HR9.out _ (Turn.none_ g1)⟩
set_option maxRecDepth 100000 in
set_option maxHeartbeats 1000000 in
theorem marg_any (h : Wtr B w g bs) (hB : B ≤ w.heap.size) (b : Bool) (z n : Int) (hz : Whole z) (hl : bs.length + 30 ≤ 1099511627776) :
    Calls Tryz.prog 84 #[.pointer (some ⟨g, 0, none⟩), .agg #[.bool b, .int .i64 z, .int .i64 n]] w (LaidR B g w bs (argO ⟨b, z, n⟩)) := by
  unfold argO
  dsimp only
  have HWH := Lib.hid hz
  clear hz
  cases b with
  | true =>
    show Calls _ _ _ _ (LaidR B g w bs (cat (some [1]) (cat (okO (z == 0)) (numO n 31))))
    have hg0 : w.grownBy (w.alloc (.cells #[.bool true, .int .i64 z, .int .i64 n] 71)) none := only_alloc (only_refl _ _) _
    have HP : Hid (PM B g w bs [] (w.alloc (.cells #[.bool true, .int .i64 z, .int .i64 n] 71))) := Lib.hid (PM.start h hg0)
    have HX := Lib.hid (Blk.new w 71 #[.bool true, .int .i64 z, .int .i64 n])
    have HZ : Hid (B ≤ (w.alloc (.cells #[.bool true, .int .i64 z, .int .i64 n] 71)).heap.size) := Lib.hid (by have := hg0.size; omega)
    have HL : Hid (bs.length + 30 ≤ 1099511627776) := Lib.hid hl
    clear h hB hl hg0
    go_enter Tryz.func84, Tryz.ntmps84
    go_upto_region 1 with fail
    generalize w.alloc (.cells #[.bool true, .int .i64 z, .int .i64 n] 71) = W1 at *
    generalize w.heap.size = bx at *
    have c0 : W1.cell? ⟨bx, 0, none⟩ = some (.bool true) := HX.out.cell 0
    have c1 : W1.cell? ⟨bx, 1, none⟩ = some (.int .i64 z) := HX.out.cell 1
    have c2 : W1.cell? ⟨bx, 2, none⟩ = some (.int .i64 n) := HX.out.cell 2
    go_wp2_with fail
    refine (mmark_any HP.out.wt HZ.out _ (by have := HL.out; simp; omega)).mono ?_
    rintro e w1 hL
    unfold markO at hL
    rcases hL.cases with ⟨t, ho, rfl, hw1, ht1⟩ | ⟨ho, rfl, ht1⟩
    rotate_left
    · cases ho
    injection ho with ho
    subst ho
    obtain ⟨hp, hx, hz⟩ := HP.out.more hw1 ht1 HX.out HZ.out (by decide) (by decide)
    have HP1 := Lib.hid hp
    have HX1 := Lib.hid hx
    have HZ1 := Lib.hid hz
    have HL1 : Hid ((bs ++ ([] ++ [1])).length + 20 ≤ 1099511627776) := Lib.hid (by have := HL.out; simp; omega)
    clear hL hw1 ht1 hp hx hz c0 c1 c2 HP HX HZ
    have c0 : w1.cell? ⟨bx, 0, none⟩ = some (.bool true) := HX1.out.cell 0
    have c1 : w1.cell? ⟨bx, 1, none⟩ = some (.int .i64 z) := HX1.out.cell 1
    have c2 : w1.cell? ⟨bx, 2, none⟩ = some (.int .i64 n) := HX1.out.cell 2
    by_cases h0 : z = 0
    · subst h0
      go_wp2_with fail
      refine (mrefuse_no _).mono ?_
      rintro e w1 ⟨rfl, rfl⟩
      go_wp2_with fail
      refine (mnum_any HP1.out.wt HZ1.out _ 31 (by omega) (by have := HL1.out; simp at this ⊢; omega)).mono ?_
      rintro e w2 hL
      have HR := Lib.hid (HP1.out.then_ (hL.eq (nil_cat _).symm))
      rcases hL.cases with ⟨t, ho, rfl, hw1, ht1⟩ | ⟨ho, rfl, ht1⟩
      · clear hL hw1 ht1 ho
        go_wp2_with fail
        go_end0
        exact HR.out
      · clear hL ht1 ho
        go_wp2_with fail
        exact ⟨rfl, HR.out⟩
    · have e : (z == 0) = false := beq_eq_false_iff_ne.2 h0
      have e2 : (z != 0) = true := bne_iff_ne.2 h0
      go_wp2_with fail
      refine (mrefuse_yes _).mono ?_
      rintro e w1 ⟨rfl, g1⟩
      go_wp2_with fail
      exact ⟨rfl, (HP1.out.out (Turn.none_ g1))⟩
  | false =>
    show Calls _ _ _ _ (LaidR B g w bs (cat (some [0]) (cat (okO (n == 0)) (some (sev (foldN z))))))
    have hg0 : w.grownBy (w.alloc (.cells #[.bool false, .int .i64 z, .int .i64 n] 71)) none := only_alloc (only_refl _ _) _
    have HP : Hid (PM B g w bs [] (w.alloc (.cells #[.bool false, .int .i64 z, .int .i64 n] 71))) := Lib.hid (PM.start h hg0)
    have HX := Lib.hid (Blk.new w 71 #[.bool false, .int .i64 z, .int .i64 n])
    have HZ : Hid (B ≤ (w.alloc (.cells #[.bool false, .int .i64 z, .int .i64 n] 71)).heap.size) := Lib.hid (by have := hg0.size; omega)
    have HL : Hid (bs.length + 30 ≤ 1099511627776) := Lib.hid hl
    clear h hB hl hg0
    go_enter Tryz.func84, Tryz.ntmps84
    go_upto_region 1 with fail
    generalize w.alloc (.cells #[.bool false, .int .i64 z, .int .i64 n] 71) = W1 at *
    generalize w.heap.size = bx at *
    have c0 : W1.cell? ⟨bx, 0, none⟩ = some (.bool false) := HX.out.cell 0
    have c1 : W1.cell? ⟨bx, 1, none⟩ = some (.int .i64 z) := HX.out.cell 1
    have c2 : W1.cell? ⟨bx, 2, none⟩ = some (.int .i64 n) := HX.out.cell 2
    go_wp2_with fail
    refine (mmark_any HP.out.wt HZ.out _ (by have := HL.out; simp; omega)).mono ?_
    rintro e w1 hL
    unfold markO at hL
    rcases hL.cases with ⟨t, ho, rfl, hw1, ht1⟩ | ⟨ho, rfl, ht1⟩
    rotate_left
    · cases ho
    injection ho with ho
    subst ho
    obtain ⟨hp, hx, hz⟩ := HP.out.more hw1 ht1 HX.out HZ.out (by decide) (by decide)
    have HP1 := Lib.hid hp
    have HX1 := Lib.hid hx
    have HZ1 := Lib.hid hz
    have HL1 : Hid ((bs ++ ([] ++ [0])).length + 20 ≤ 1099511627776) := Lib.hid (by have := HL.out; simp; omega)
    clear hL hw1 ht1 hp hx hz c0 c1 c2 HP HX HZ
    have c0 : w1.cell? ⟨bx, 0, none⟩ = some (.bool false) := HX1.out.cell 0
    have c1 : w1.cell? ⟨bx, 1, none⟩ = some (.int .i64 z) := HX1.out.cell 1
    have c2 : w1.cell? ⟨bx, 2, none⟩ = some (.int .i64 n) := HX1.out.cell 2
    by_cases h0 : n = 0
    · subst h0
      go_wp2_with fail
      refine (mrefuse_no _).mono ?_
      rintro e w1 ⟨rfl, rfl⟩
      go_wp2_with fail
      refine (putS_any HP1.out.wt HZ1.out z HWH.out (by have := HL1.out; simp at this ⊢; omega)).mono ?_
      rintro e w2 ⟨rfl, hw2, ht2⟩
      have HR : Hid (LaidR B g w bs (cat (some ([] ++ [0])) (cat (okO true) (some (sev (foldN z))))) (.returned (.tuple #[])) w2) := Lib.hid (HP1.out.next hw2 ht2).ret
      clear hw2 ht2
      go_wp2_with fail
      go_end0
      exact HR.out
    · have e : (n == 0) = false := beq_eq_false_iff_ne.2 h0
      have e2 : (n != 0) = true := bne_iff_ne.2 h0
      go_wp2_with fail
      refine (mrefuse_yes _).mono ?_
      rintro e w1 ⟨rfl, g1⟩
      go_wp2_with fail
      exact ⟨rfl, (HP1.out.out (Turn.none_ g1))⟩
end
end Go.Proofs.YtohhojbeclbedaaGreatDoor

namespace Go.Proofs.YtohhojbeclbedaaGreatDoor
open Go.RowKit

/-- Such a closure's box. -/
def MSI (α : Type) (bx g base : Nat) : Inv α := fun _ T W => (∀ k, T k ↔ k = g) ∧ Blk W bx 54 #[.pointer (some ⟨g, 0, none⟩)] ∧ bx < base ∧ bx ≠ g ∧ g < W.heap.size
theorem si_ok {α : Type} {bx g base : Nat} : (MSI α bx g base).Ok (fun _ => True) g base where
  jj := fun _ => trivial
  keep := fun {pre T W W' row} ⟨h1, h2, h3, h4, h5⟩ hg hr => ⟨h1, h2.grown hg (fun e => by have := (hr bx e.symm).1; omega), h3, h4, Nat.lt_of_lt_of_le h5 hg.size⟩
  mv := fun {pre T W W'} ⟨h1, h2, h3, h4, h5⟩ hg => ⟨h1, h2.grown hg (fun e => h4 (by injection e)), h3, h4, Nat.lt_of_lt_of_le h5 hg.size⟩
  lt := fun {pre T W k} ⟨h1, _, _, _, h5⟩ hk => by rw [(h1 k).1 hk]; exact h5
  rd := fun {pre T W} ⟨h1, _⟩ => (h1 g).2 rfl
theorem si_start {α : Type} {bx g : Nat} {W : World} (hb : Blk W bx 54 #[.pointer (some ⟨g, 0, none⟩)]) (hn : bx ≠ g) (hg : g < W.heap.size) : MSI α bx g W.heap.size [] (fun k => k = g) W := ⟨fun _ => Iff.rfl, hb, hb.lt, hn, hg⟩
theorem si_clo {α : Type} {E : Enc α} {sz : Nat} (hE : E.Ok sz) {bx g base bg b : Nat} {bs : List UInt8} {pre : List (α × Nat)} {T : Nat → Prop} {r : Rs α} {W W' : World} {e : Ending} (hi : MSI α bx g base pre T W) (h : RdsR (encV E) g bs bg r W e W') : CloR (encV E) (MSI α bx g base) (fun _ => True) g bs bg pre T b r W e W' := by
  obtain ⟨h1, h2, h3, h4, h5⟩ := hi
  rcases h.cases with ⟨x, c, v, rfl, rfl, ⟨cs, rfl, hv⟩, hr, hg⟩ | ⟨c, y, d, fb, rfl, rfl, hf, hge, hg⟩
  · refine ⟨_, T, rfl, hr, ⟨h1, h2.grown hg (fun e => h4 (by injection e)), h3, h4, Nat.lt_of_lt_of_le h5 hg.size⟩, ⟨cs, rfl, hE.more hv (fun k hk _ => ⟨hk, fun ht => ?_⟩)⟩, Turn.of_only hg (fun k e => by injection e with e; exact (h1 k).2 e.symm), fun _ _ h => h⟩
    have := (h1 k).1 ht
    omega
  · exact ⟨fb, rfl, hf, hge, Turn.of_only hg (fun k e => by injection e with e; exact (h1 k).2 e.symm), trivial⟩
/-- What such a list's reading leaves, plainly. -/
theorem si_list {α : Type} {E : Enc α} {sz : Nat} (hE : E.Ok sz) {bx g bg : Nat} {bs : List UInt8} {r : Rs (List (α × Nat))} {W W' : World} {e : Ending} (h : LstR E sz (MSI α bx g W.heap.size) (fun _ => True) g bs bg (fun k => k = g) r W e W') :
    (∃ l c v, r = .ok l c ∧ e = .returned v ∧ ListA E sz (fun k => W.heap.size ≤ k) W' v (l.map Prod.fst) ∧ Rdr W' g bs c bg ∧ W.grownBy W' (some g)) ∨ (∃ c y b fb, r = .flt c y b ∧ e = gaveF fb ∧ Flt W' fb c ((bg : Int) + (y : Int)) ∧ W.heap.size ≤ fb ∧ W.grownBy W' (some g)) := by
  have hgr : ∀ {X Y : World}, Turn (fun k => k = g) X Y → X.grownBy Y (some g) := fun {X Y} t => ⟨t.os, t.tape, t.output, t.size, fun k hk hn => t.block k hk (fun e => hn (by rw [e]))⟩
  cases r with
  | ok l c =>
    obtain ⟨v, T', e1, e2, _, e4, e5, _⟩ := h
    refine .inl ⟨l, c, v, rfl, e1, ?_, e2, hgr e5⟩
    obtain ⟨A, q, k1, k2, k3, k4⟩ := e4
    refine ⟨A, q, k1, k2, k3, fun hn => ?_⟩
    obtain ⟨b, off, k5, k6, k7⟩ := k4 hn
    refine ⟨b, off, k5, k6.1, fun i x hx => ?_⟩
    obtain ⟨cs, k8, k9⟩ := k7 i x hx
    exact ⟨cs, hE.more k8 (fun b hb _ => hb.1), k9⟩
  | flt c y b =>
    obtain ⟨fb, e1, e2, e3, e4, _⟩ := h
    exact .inr ⟨c, y, b, fb, rfl, e1, e2, e3, hgr e4⟩
end Go.Proofs.YtohhojbeclbedaaGreatDoor

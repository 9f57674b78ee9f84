/- Texts joined for the claim's sake: MPuN. -/
import Derived.Test.YtohhojbeclbedaaGreatDoorZMKnwRow25
namespace Go.Proofs.YtohhojbeclbedaaGreatDoor
open Go.RowKit

set_option maxRecDepth 100000 in
set_option maxHeartbeats 4000000 in
theorem mall_Typ {B g bx K : Nat} {S : Nat → Prop} {w : World} {bs : List UInt8} (h : Wtr B w g bs) (hB : B ≤ w.heap.size) (hS : ∀ b, S b → b < B) (xs : List Edg) (v : Value) (hx : ListA EdgE 2 S w v xs) (hbx : Blk w bx 79 #[.pointer (some ⟨g, 0, none⟩)]) (least most : Int) (hm : most ≤ 1000) (hl : bs.length + 10 + 1000 * K ≤ 1099511627776)
    (hK : ∀ x ∈ xs, AtMost K (edgO x))
    (HC : ∀ (x : Edg) (W : World) (bs' : List UInt8) (cs : Array Value), x ∈ xs → Wtr B W g bs' → B ≤ W.heap.size → Blk W bx 79 #[.pointer (some ⟨g, 0, none⟩)] → EdgE S W x cs → bs'.length + K ≤ 1099511627776 →
      Calls Tryz.prog 77 #[.agg cs, .pointer (some ⟨bx, 0, none⟩)] W (LaidR B g W bs' (edgO x))) :
    Calls Tryz.prog 76 #[.pointer (some ⟨g, 0, none⟩), v, .int .i64 least, .int .i64 most, .func (.func 77) #[] #[.pointer (some ⟨bx, 0, none⟩)]] w (LaidR B g w bs (listO edgO least most xs)) := by
  obtain ⟨A, c, rfl, hc1, hc2⟩ := hx.slice
  have hc1I : (xs.length : Int) ≤ (c : Int) := by omega
  have hc2I : (c : Int) ≤ 9223372036854775807 := by omega
  have H := Lib.hid h
  have HB := Lib.hid hB
  have HS := Lib.hid hS
  have HX := Lib.hid hx
  have HBX := Lib.hid hbx
  have HL := Lib.hid hl
  have HK := Lib.hid hK
  have HCC := Lib.hid HC
  clear h hB hS hx hbx hl hK HC
  by_cases h0 : (xs.length : Int) < least
  · have e : listO edgO least most xs = none := by unfold listO; rw [decide_eq_false (by omega)]; rfl
    rw [e]
    clear e
    go_enter Tryz.func76, Tryz.ntmps76
    go_wp2_with fail
    refine (mrefuse_yes _).mono ?_
    rintro e w1 ⟨rfl, g1⟩
    go_wp2_with fail
    exact ⟨rfl, LaidR.out (Turn.none_ g1)⟩
  · have e : listO edgO least most xs = cat (numO xs.length most) (allO edgO xs) := by unfold listO; rw [decide_eq_true (by omega)]; exact nil_cat _
    rw [e]
    clear e
    obtain ⟨o1, ho1⟩ : ∃ o, numO (xs.length : Int) most = o := ⟨_, rfl⟩
    rw [ho1]
    have HO1 := Lib.hid ho1
    clear ho1
    go_enter Tryz.func76, Tryz.ntmps76
    go_wp2_with fail
    refine (mrefuse_no _).mono ?_
    rintro e w1 ⟨rfl, rfl⟩
    go_wp2_with fail
    refine (mnum_any H.out HB.out _ most hm (by have := HL.out; omega)).mono ?_
    rintro e w1 hL
    rw [HO1.out] at hL
    rcases hL.cases with ⟨t, rfl, rfl, hw1, ht1⟩ | ⟨rfl, rfl, ht1⟩
    rotate_left
    · clear hL
      have HT := Lib.hid ht1
      clear ht1
      go_wp2_with fail
      exact ⟨rfl, LaidR.out HT.out⟩
    have ho := HO1.out
    have hn : xs.length ≤ 1000 := by
      unfold numO at ho
      split at ho
      · omega
      · cases ho
    have hnI : (xs.length : Int) ≤ 1000 := by omega
    have hkt := AtMost.num (by omega) t HO1.out
    have HKT := Lib.hid hkt
    have HP : Hid (PM B g w bs t w1) := Lib.hid ⟨hw1, ht1⟩
    clear hL hw1 ht1 ho hkt h0
    go_wp2_with fail
    go_loopw [24] (fun z wr => ∃ (i : Nat) (u : List UInt8), i ≤ xs.length ∧ z = .int .i64 (i : Int) ∧ allO edgO (xs.take i) = some u ∧ PM B g w bs (t ++ u) wr) (fun z _ => xs.length - (intOf z).toNat)
    case atStart => exact ⟨0, [], Nat.zero_le _, rfl, rfl, by rw [List.append_nil]; exact HP.out⟩
    case round =>
      obtain ⟨i, u, hi, rfl, hu, hp⟩ := hrel
      have hi0 : (0 : Int) ≤ (i : Int) := by omega
      have HU := Lib.hid hu
      have HPP := Lib.hid hp
      by_cases hlt : i < xs.length
      · have hi1 : (i : Int) < (xs.length : Int) := by omega
        obtain ⟨x, hxi⟩ : ∃ x, xs[i]? = some x := ⟨_, List.getElem?_eq_getElem hlt⟩
        have HXI := Lib.hid hxi
        have hul : u.length + K ≤ 1000 * K := by
          have h1 := AtMost.allM (xs.take i) (fun y hy => HK.out y (List.mem_of_mem_take hy)) u hu
          have h2 : (xs.take i).length ≤ 999 := by rw [List.length_take]; omega
          have h3 := Nat.mul_le_mul_right K h2
          omega
        have HUL : Hid ((bs ++ (t ++ u)).length + K ≤ 1099511627776) := Lib.hid (by have := HL.out; have := HKT.out; rw [List.length_append, List.length_append]; omega)
        have hX := HX.out.kept edg_ok (KeptS.turn H.out hp.tu HS.out)
        obtain ⟨b, off, cs, rfl, hSb, hE, hcs⟩ := hX.at_ hxi
        have HE0 := Lib.hid hE
        obtain rfl := hE
        have c0 : wr.cell? ⟨b, off + i * 2, none⟩ = some (.int .i64 x.to) := hcs 0 _ rfl
        have c1 : wr.cell? ⟨b, off + i * 2 + 1, none⟩ = some (.int .i64 x.sh) := hcs 1 _ rfl
        have HBW := Lib.hid (HBX.out.turn hp.tu (not_ws H.out HBX.out (by decide) (by decide)))
        have HZW : Hid (B ≤ wr.heap.size) := Lib.hid (Nat.le_trans HB.out hp.size)
        clear hp hu hul hX hcs
        have hal : wr.grownBy (wr.alloc (.cells #[.int .i64 x.to, .int .i64 x.sh] 67)) none := only_alloc (only_refl _ _) _
        go_wp2_with fail
        refine (HCC.out x _ _ _ (List.mem_of_getElem? hxi) (HPP.out.none_ hal).wt (Nat.le_trans HZW.out hal.size) (HBW.out.kept hal) (edg_ok.kept HE0.out (KeptS.none_ hal)) HUL.out).mono ?_
        rintro e w2 hL
        obtain ⟨o2, ho2⟩ : ∃ o, edgO x = o := ⟨_, rfl⟩
        rw [ho2] at hL
        rcases hL.cases with ⟨t2, rfl, rfl, hw2, ht2⟩ | ⟨rfl, rfl, ht2⟩
        · have HN : Hid (PM B g w bs (t ++ (u ++ t2)) w2) := Lib.hid (by rw [← List.append_assoc t]; exact (HPP.out.none_ hal).next hw2 ht2)
          have HA : Hid (allO edgO (xs.take (i + 1)) = some (u ++ t2)) := Lib.hid (by rw [allO_succ edgO hxi, HU.out, ho2]; rfl)
          clear hL hw2 ht2 hal
          go_wp2_with fail
          go_roundw
          case rel => exact ⟨i + 1, _, by omega, by go_num, HA.out, HN.out⟩
          case measure => simp [intOf]; omega
        · have HN : Hid (LaidR B g w bs (cat (some t) (allO edgO xs)) gaveArg w2) := Lib.hid (((HPP.out.none_ hal).out ht2).eq (by rw [allO_at edgO hxi, ho2, HU.out]; rfl))
          clear hL ht2 hal
          go_wp2_with fail
          exact ⟨rfl, HN.out⟩
      · obtain rfl : i = xs.length := by omega
        have hge : (xs.length : Int) ≤ (xs.length : Int) := by omega
        have HR : Hid (LaidR B g w bs (cat (some t) (allO edgO xs)) (.returned (.tuple #[])) wr) := Lib.hid (by rw [List.take_length] at hu; rw [hu]; exact hp.ret)
        clear hp hu HU HPP
        go_wp2_with fail
        go_end0
        exact HR.out
set_option maxRecDepth 100000 in
set_option maxHeartbeats 4000000 in
theorem mall_Nod {B g bx K : Nat} {S : Nat → Prop} {w : World} {bs : List UInt8} (h : Wtr B w g bs) (hB : B ≤ w.heap.size) (hS : ∀ b, S b → b < B) (xs : List Nod) (v : Value) (hx : ListA NodE 6 S w v xs) (hbx : Blk w bx 79 #[.pointer (some ⟨g, 0, none⟩)]) (least most : Int) (hm : most ≤ 1000) (hl : bs.length + 10 + 1000 * K ≤ 1099511627776)
    (hK : ∀ x ∈ xs, AtMost K (nodO x))
    (HC : ∀ (x : Nod) (W : World) (bs' : List UInt8) (cs : Array Value), x ∈ xs → Wtr B W g bs' → B ≤ W.heap.size → Blk W bx 79 #[.pointer (some ⟨g, 0, none⟩)] → NodE S W x cs → bs'.length + K ≤ 1099511627776 →
      Calls Tryz.prog 65 #[.agg cs, .pointer (some ⟨bx, 0, none⟩)] W (LaidR B g W bs' (nodO x))) :
    Calls Tryz.prog 64 #[.pointer (some ⟨g, 0, none⟩), v, .int .i64 least, .int .i64 most, .func (.func 65) #[] #[.pointer (some ⟨bx, 0, none⟩)]] w (LaidR B g w bs (listO nodO least most xs)) := by
  obtain ⟨A, c, rfl, hc1, hc2⟩ := hx.slice
  have hc1I : (xs.length : Int) ≤ (c : Int) := by omega
  have hc2I : (c : Int) ≤ 9223372036854775807 := by omega
  have H := Lib.hid h
  have HB := Lib.hid hB
  have HS := Lib.hid hS
  have HX := Lib.hid hx
  have HBX := Lib.hid hbx
  have HL := Lib.hid hl
  have HK := Lib.hid hK
  have HCC := Lib.hid HC
  clear h hB hS hx hbx hl hK HC
  by_cases h0 : (xs.length : Int) < least
  · have e : listO nodO least most xs = none := by unfold listO; rw [decide_eq_false (by omega)]; rfl
    rw [e]
    clear e
    go_enter Tryz.func64, Tryz.ntmps64
    go_wp2_with fail
    refine (mrefuse_yes _).mono ?_
    rintro e w1 ⟨rfl, g1⟩
    go_wp2_with fail
    exact ⟨rfl, LaidR.out (Turn.none_ g1)⟩
  · have e : listO nodO least most xs = cat (numO xs.length most) (allO nodO xs) := by unfold listO; rw [decide_eq_true (by omega)]; exact nil_cat _
    rw [e]
    clear e
    obtain ⟨o1, ho1⟩ : ∃ o, numO (xs.length : Int) most = o := ⟨_, rfl⟩
    rw [ho1]
    have HO1 := Lib.hid ho1
    clear ho1
    go_enter Tryz.func64, Tryz.ntmps64
    go_wp2_with fail
    refine (mrefuse_no _).mono ?_
    rintro e w1 ⟨rfl, rfl⟩
    go_wp2_with fail
    refine (mnum_any H.out HB.out _ most hm (by have := HL.out; omega)).mono ?_
    rintro e w1 hL
    rw [HO1.out] at hL
    rcases hL.cases with ⟨t, rfl, rfl, hw1, ht1⟩ | ⟨rfl, rfl, ht1⟩
    rotate_left
    · clear hL
      have HT := Lib.hid ht1
      clear ht1
      go_wp2_with fail
      exact ⟨rfl, LaidR.out HT.out⟩
    have ho := HO1.out
    have hn : xs.length ≤ 1000 := by
      unfold numO at ho
      split at ho
      · omega
      · cases ho
    have hnI : (xs.length : Int) ≤ 1000 := by omega
    have hkt := AtMost.num (by omega) t HO1.out
    have HKT := Lib.hid hkt
    have HP : Hid (PM B g w bs t w1) := Lib.hid ⟨hw1, ht1⟩
    clear hL hw1 ht1 ho hkt h0
    go_wp2_with fail
    go_loopw [24] (fun z wr => ∃ (i : Nat) (u : List UInt8), i ≤ xs.length ∧ z = .int .i64 (i : Int) ∧ allO nodO (xs.take i) = some u ∧ PM B g w bs (t ++ u) wr) (fun z _ => xs.length - (intOf z).toNat)
    case atStart => exact ⟨0, [], Nat.zero_le _, rfl, rfl, by rw [List.append_nil]; exact HP.out⟩
    case round =>
      obtain ⟨i, u, hi, rfl, hu, hp⟩ := hrel
      have hi0 : (0 : Int) ≤ (i : Int) := by omega
      have HU := Lib.hid hu
      have HPP := Lib.hid hp
      by_cases hlt : i < xs.length
      · have hi1 : (i : Int) < (xs.length : Int) := by omega
        obtain ⟨x, hxi⟩ : ∃ x, xs[i]? = some x := ⟨_, List.getElem?_eq_getElem hlt⟩
        have HXI := Lib.hid hxi
        have hul : u.length + K ≤ 1000 * K := by
          have h1 := AtMost.allM (xs.take i) (fun y hy => HK.out y (List.mem_of_mem_take hy)) u hu
          have h2 : (xs.take i).length ≤ 999 := by rw [List.length_take]; omega
          have h3 := Nat.mul_le_mul_right K h2
          omega
        have HUL : Hid ((bs ++ (t ++ u)).length + K ≤ 1099511627776) := Lib.hid (by have := HL.out; have := HKT.out; rw [List.length_append, List.length_append]; omega)
        have hX := HX.out.kept nod_ok (KeptS.turn H.out hp.tu HS.out)
        obtain ⟨b, off, cs, rfl, hSb, hE, hcs⟩ := hX.at_ hxi
        have HE0 := Lib.hid hE
        obtain ⟨lv, rfl, hlv⟩ := hE
        obtain ⟨A7, c7, rfl, _⟩ := hlv.slice
        have c0 : wr.cell? ⟨b, off + i * 6, none⟩ = some (.int .i64 x.kind) := hcs 0 _ rfl
        have c1 : wr.cell? ⟨b, off + i * 6 + 1, none⟩ = some (.int .i64 x.prio) := hcs 1 _ rfl
        have c2 : wr.cell? ⟨b, off + i * 6 + 2, none⟩ = some (.bool x.ch) := hcs 2 _ rfl
        have c3 : wr.cell? ⟨b, off + i * 6 + 3, none⟩ = some (.int .i64 x.pay.to) := hcs 3 _ rfl
        have c4 : wr.cell? ⟨b, off + i * 6 + 4, none⟩ = some (.int .i64 x.pay.sh) := hcs 4 _ rfl
        have c5 : wr.cell? ⟨b, off + i * 6 + 5, none⟩ = some (.slice A7 x.next.length c7) := hcs 5 _ rfl
        have HBW := Lib.hid (HBX.out.turn hp.tu (not_ws H.out HBX.out (by decide) (by decide)))
        have HZW : Hid (B ≤ wr.heap.size) := Lib.hid (Nat.le_trans HB.out hp.size)
        clear hp hu hul hX hcs
        have hal : wr.grownBy (wr.alloc (.cells #[.int .i64 x.kind, .int .i64 x.prio, .bool x.ch, .int .i64 x.pay.to, .int .i64 x.pay.sh, .slice A7 x.next.length c7] 65)) none := only_alloc (only_refl _ _) _
        go_wp2_with fail
        refine (HCC.out x _ _ _ (List.mem_of_getElem? hxi) (HPP.out.none_ hal).wt (Nat.le_trans HZW.out hal.size) (HBW.out.kept hal) (nod_ok.kept HE0.out (KeptS.none_ hal)) HUL.out).mono ?_
        rintro e w2 hL
        obtain ⟨o2, ho2⟩ : ∃ o, nodO x = o := ⟨_, rfl⟩
        rw [ho2] at hL
        rcases hL.cases with ⟨t2, rfl, rfl, hw2, ht2⟩ | ⟨rfl, rfl, ht2⟩
        · have HN : Hid (PM B g w bs (t ++ (u ++ t2)) w2) := Lib.hid (by rw [← List.append_assoc t]; exact (HPP.out.none_ hal).next hw2 ht2)
          have HA : Hid (allO nodO (xs.take (i + 1)) = some (u ++ t2)) := Lib.hid (by rw [allO_succ nodO hxi, HU.out, ho2]; rfl)
          clear hL hw2 ht2 hal
          go_wp2_with fail
          go_roundw
          case rel => exact ⟨i + 1, _, by omega, by go_num, HA.out, HN.out⟩
          case measure => simp [intOf]; omega
        · have HN : Hid (LaidR B g w bs (cat (some t) (allO nodO xs)) gaveArg w2) := Lib.hid (((HPP.out.none_ hal).out ht2).eq (by rw [allO_at nodO hxi, ho2, HU.out]; rfl))
          clear hL ht2 hal
          go_wp2_with fail
          exact ⟨rfl, HN.out⟩
      · obtain rfl : i = xs.length := by omega
        have hge : (xs.length : Int) ≤ (xs.length : Int) := by omega
        have HR : Hid (LaidR B g w bs (cat (some t) (allO nodO xs)) (.returned (.tuple #[])) wr) := Lib.hid (by rw [List.take_length] at hu; rw [hu]; exact hp.ret)
        clear hp hu HU HPP
        go_wp2_with fail
        go_end0
        exact HR.out
set_option maxRecDepth 100000 in
set_option maxHeartbeats 4000000 in
theorem mall_Tpl {B g bx K : Nat} {S : Nat → Prop} {w : World} {bs : List UInt8} (h : Wtr B w g bs) (hB : B ≤ w.heap.size) (hS : ∀ b, S b → b < B) (xs : List Tpl) (v : Value) (hx : ListA TplE 3 S w v xs) (hbx : Blk w bx 79 #[.pointer (some ⟨g, 0, none⟩)]) (least most : Int) (hm : most ≤ 1000) (hl : bs.length + 10 + 1000 * K ≤ 1099511627776)
    (hK : ∀ x ∈ xs, AtMost K (tplO x))
    (HC : ∀ (x : Tpl) (W : World) (bs' : List UInt8) (cs : Array Value), x ∈ xs → Wtr B W g bs' → B ≤ W.heap.size → Blk W bx 79 #[.pointer (some ⟨g, 0, none⟩)] → TplE S W x cs → bs'.length + K ≤ 1099511627776 →
      Calls Tryz.prog 68 #[.agg cs, .pointer (some ⟨bx, 0, none⟩)] W (LaidR B g W bs' (tplO x))) :
    Calls Tryz.prog 67 #[.pointer (some ⟨g, 0, none⟩), v, .int .i64 least, .int .i64 most, .func (.func 68) #[] #[.pointer (some ⟨bx, 0, none⟩)]] w (LaidR B g w bs (listO tplO least most xs)) := by
  obtain ⟨A, c, rfl, hc1, hc2⟩ := hx.slice
  have hc1I : (xs.length : Int) ≤ (c : Int) := by omega
  have hc2I : (c : Int) ≤ 9223372036854775807 := by omega
  have H := Lib.hid h
  have HB := Lib.hid hB
  have HS := Lib.hid hS
  have HX := Lib.hid hx
  have HBX := Lib.hid hbx
  have HL := Lib.hid hl
  have HK := Lib.hid hK
  have HCC := Lib.hid HC
  clear h hB hS hx hbx hl hK HC
  by_cases h0 : (xs.length : Int) < least
  · have e : listO tplO least most xs = none := by unfold listO; rw [decide_eq_false (by omega)]; rfl
    rw [e]
    clear e
    go_enter Tryz.func67, Tryz.ntmps67
    go_wp2_with fail
    refine (mrefuse_yes _).mono ?_
    rintro e w1 ⟨rfl, g1⟩
    go_wp2_with fail
    exact ⟨rfl, LaidR.out (Turn.none_ g1)⟩
  · have e : listO tplO least most xs = cat (numO xs.length most) (allO tplO xs) := by unfold listO; rw [decide_eq_true (by omega)]; exact nil_cat _
    rw [e]
    clear e
    obtain ⟨o1, ho1⟩ : ∃ o, numO (xs.length : Int) most = o := ⟨_, rfl⟩
    rw [ho1]
    have HO1 := Lib.hid ho1
    clear ho1
    go_enter Tryz.func67, Tryz.ntmps67
    go_wp2_with fail
    refine (mrefuse_no _).mono ?_
    rintro e w1 ⟨rfl, rfl⟩
    go_wp2_with fail
    refine (mnum_any H.out HB.out _ most hm (by have := HL.out; omega)).mono ?_
    rintro e w1 hL
    rw [HO1.out] at hL
    rcases hL.cases with ⟨t, rfl, rfl, hw1, ht1⟩ | ⟨rfl, rfl, ht1⟩
    rotate_left
    · clear hL
      have HT := Lib.hid ht1
      clear ht1
      go_wp2_with fail
      exact ⟨rfl, LaidR.out HT.out⟩
    have ho := HO1.out
    have hn : xs.length ≤ 1000 := by
      unfold numO at ho
      split at ho
      · omega
      · cases ho
    have hnI : (xs.length : Int) ≤ 1000 := by omega
    have hkt := AtMost.num (by omega) t HO1.out
    have HKT := Lib.hid hkt
    have HP : Hid (PM B g w bs t w1) := Lib.hid ⟨hw1, ht1⟩
    clear hL hw1 ht1 ho hkt h0
    go_wp2_with fail
    go_loopw [24] (fun z wr => ∃ (i : Nat) (u : List UInt8), i ≤ xs.length ∧ z = .int .i64 (i : Int) ∧ allO tplO (xs.take i) = some u ∧ PM B g w bs (t ++ u) wr) (fun z _ => xs.length - (intOf z).toNat)
    case atStart => exact ⟨0, [], Nat.zero_le _, rfl, rfl, by rw [List.append_nil]; exact HP.out⟩
    case round =>
      obtain ⟨i, u, hi, rfl, hu, hp⟩ := hrel
      have hi0 : (0 : Int) ≤ (i : Int) := by omega
      have HU := Lib.hid hu
      have HPP := Lib.hid hp
      by_cases hlt : i < xs.length
      · have hi1 : (i : Int) < (xs.length : Int) := by omega
        obtain ⟨x, hxi⟩ : ∃ x, xs[i]? = some x := ⟨_, List.getElem?_eq_getElem hlt⟩
        have HXI := Lib.hid hxi
        have hul : u.length + K ≤ 1000 * K := by
          have h1 := AtMost.allM (xs.take i) (fun y hy => HK.out y (List.mem_of_mem_take hy)) u hu
          have h2 : (xs.take i).length ≤ 999 := by rw [List.length_take]; omega
          have h3 := Nat.mul_le_mul_right K h2
          omega
        have HUL : Hid ((bs ++ (t ++ u)).length + K ≤ 1099511627776) := Lib.hid (by have := HL.out; have := HKT.out; rw [List.length_append, List.length_append]; omega)
        have hX := HX.out.kept tpl_ok (KeptS.turn H.out hp.tu HS.out)
        obtain ⟨b, off, cs, rfl, hSb, hE, hcs⟩ := hX.at_ hxi
        have HE0 := Lib.hid hE
        obtain ⟨lv, lv2, lv3, rfl, hlv, hlv2, hlv3⟩ := hE
        obtain ⟨A7, c7, rfl, _⟩ := hlv.slice
        obtain ⟨A8, c8, rfl, _⟩ := hlv2.slice
        obtain ⟨A9, c9, rfl, _⟩ := hlv3.slice
        have c0 : wr.cell? ⟨b, off + i * 3, none⟩ = some (.slice A7 x.params.length c7) := hcs 0 _ rfl
        have c1 : wr.cell? ⟨b, off + i * 3 + 1, none⟩ = some (.slice A8 x.code.length c8) := hcs 1 _ rfl
        have c2 : wr.cell? ⟨b, off + i * 3 + 2, none⟩ = some (.slice A9 x.at_.length c9) := hcs 2 _ rfl
        have HBW := Lib.hid (HBX.out.turn hp.tu (not_ws H.out HBX.out (by decide) (by decide)))
        have HZW : Hid (B ≤ wr.heap.size) := Lib.hid (Nat.le_trans HB.out hp.size)
        clear hp hu hul hX hcs
        have hal : wr.grownBy (wr.alloc (.cells #[.slice A7 x.params.length c7, .slice A8 x.code.length c8, .slice A9 x.at_.length c9] 50)) none := only_alloc (only_refl _ _) _
        go_wp2_with fail
        refine (HCC.out x _ _ _ (List.mem_of_getElem? hxi) (HPP.out.none_ hal).wt (Nat.le_trans HZW.out hal.size) (HBW.out.kept hal) (tpl_ok.kept HE0.out (KeptS.none_ hal)) HUL.out).mono ?_
        rintro e w2 hL
        obtain ⟨o2, ho2⟩ : ∃ o, tplO x = o := ⟨_, rfl⟩
        rw [ho2] at hL
        rcases hL.cases with ⟨t2, rfl, rfl, hw2, ht2⟩ | ⟨rfl, rfl, ht2⟩
        · have HN : Hid (PM B g w bs (t ++ (u ++ t2)) w2) := Lib.hid (by rw [← List.append_assoc t]; exact (HPP.out.none_ hal).next hw2 ht2)
          have HA : Hid (allO tplO (xs.take (i + 1)) = some (u ++ t2)) := Lib.hid (by rw [allO_succ tplO hxi, HU.out, ho2]; rfl)
          clear hL hw2 ht2 hal
          go_wp2_with fail
          go_roundw
          case rel => exact ⟨i + 1, _, by omega, by go_num, HA.out, HN.out⟩
          case measure => simp [intOf]; omega
        · have HN : Hid (LaidR B g w bs (cat (some t) (allO tplO xs)) gaveArg w2) := Lib.hid (((HPP.out.none_ hal).out ht2).eq (by rw [allO_at tplO hxi, ho2, HU.out]; rfl))
          clear hL ht2 hal
          go_wp2_with fail
          exact ⟨rfl, HN.out⟩
      · obtain rfl : i = xs.length := by omega
        have hge : (xs.length : Int) ≤ (xs.length : Int) := by omega
        have HR : Hid (LaidR B g w bs (cat (some t) (allO tplO xs)) (.returned (.tuple #[])) wr) := Lib.hid (by rw [List.take_length] at hu; rw [hu]; exact hp.ret)
        clear hp hu HU HPP
        go_wp2_with fail
        go_end0
        exact HR.out
set_option maxRecDepth 100000 in
set_option maxHeartbeats 4000000 in
theorem mall_Sta {B g bx K : Nat} {S : Nat → Prop} {w : World} {bs : List UInt8} (h : Wtr B w g bs) (hB : B ≤ w.heap.size) (hS : ∀ b, S b → b < B) (xs : List Sta) (v : Value) (hx : ListA StaE 2 S w v xs) (hbx : Blk w bx 79 #[.pointer (some ⟨g, 0, none⟩)]) (least most : Int) (hm : most ≤ 1000) (hl : bs.length + 10 + 1000 * K ≤ 1099511627776)
    (hK : ∀ x ∈ xs, AtMost K (staO x))
    (HC : ∀ (x : Sta) (W : World) (bs' : List UInt8) (cs : Array Value), x ∈ xs → Wtr B W g bs' → B ≤ W.heap.size → Blk W bx 79 #[.pointer (some ⟨g, 0, none⟩)] → StaE S W x cs → bs'.length + K ≤ 1099511627776 →
      Calls Tryz.prog 80 #[.agg cs, .pointer (some ⟨bx, 0, none⟩)] W (LaidR B g W bs' (staO x))) :
    Calls Tryz.prog 79 #[.pointer (some ⟨g, 0, none⟩), v, .int .i64 least, .int .i64 most, .func (.func 80) #[] #[.pointer (some ⟨bx, 0, none⟩)]] w (LaidR B g w bs (listO staO least most xs)) := by
  obtain ⟨A, c, rfl, hc1, hc2⟩ := hx.slice
  have hc1I : (xs.length : Int) ≤ (c : Int) := by omega
  have hc2I : (c : Int) ≤ 9223372036854775807 := by omega
  have H := Lib.hid h
  have HB := Lib.hid hB
  have HS := Lib.hid hS
  have HX := Lib.hid hx
  have HBX := Lib.hid hbx
  have HL := Lib.hid hl
  have HK := Lib.hid hK
  have HCC := Lib.hid HC
  clear h hB hS hx hbx hl hK HC
  by_cases h0 : (xs.length : Int) < least
  · have e : listO staO least most xs = none := by unfold listO; rw [decide_eq_false (by omega)]; rfl
    rw [e]
    clear e
    go_enter Tryz.func79, Tryz.ntmps79
    go_wp2_with fail
    refine (mrefuse_yes _).mono ?_
    rintro e w1 ⟨rfl, g1⟩
    go_wp2_with fail
    exact ⟨rfl, LaidR.out (Turn.none_ g1)⟩
  · have e : listO staO least most xs = cat (numO xs.length most) (allO staO xs) := by unfold listO; rw [decide_eq_true (by omega)]; exact nil_cat _
    rw [e]
    clear e
    obtain ⟨o1, ho1⟩ : ∃ o, numO (xs.length : Int) most = o := ⟨_, rfl⟩
    rw [ho1]
    have HO1 := Lib.hid ho1
    clear ho1
    go_enter Tryz.func79, Tryz.ntmps79
    go_wp2_with fail
    refine (mrefuse_no _).mono ?_
    rintro e w1 ⟨rfl, rfl⟩
    go_wp2_with fail
    refine (mnum_any H.out HB.out _ most hm (by have := HL.out; omega)).mono ?_
    rintro e w1 hL
    rw [HO1.out] at hL
    rcases hL.cases with ⟨t, rfl, rfl, hw1, ht1⟩ | ⟨rfl, rfl, ht1⟩
    rotate_left
    · clear hL
      have HT := Lib.hid ht1
      clear ht1
      go_wp2_with fail
      exact ⟨rfl, LaidR.out HT.out⟩
    have ho := HO1.out
    have hn : xs.length ≤ 1000 := by
      unfold numO at ho
      split at ho
      · omega
      · cases ho
    have hnI : (xs.length : Int) ≤ 1000 := by omega
    have hkt := AtMost.num (by omega) t HO1.out
    have HKT := Lib.hid hkt
    have HP : Hid (PM B g w bs t w1) := Lib.hid ⟨hw1, ht1⟩
    clear hL hw1 ht1 ho hkt h0
    go_wp2_with fail
    go_loopw [24] (fun z wr => ∃ (i : Nat) (u : List UInt8), i ≤ xs.length ∧ z = .int .i64 (i : Int) ∧ allO staO (xs.take i) = some u ∧ PM B g w bs (t ++ u) wr) (fun z _ => xs.length - (intOf z).toNat)
    case atStart => exact ⟨0, [], Nat.zero_le _, rfl, rfl, by rw [List.append_nil]; exact HP.out⟩
    case round =>
      obtain ⟨i, u, hi, rfl, hu, hp⟩ := hrel
      have hi0 : (0 : Int) ≤ (i : Int) := by omega
      have HU := Lib.hid hu
      have HPP := Lib.hid hp
      by_cases hlt : i < xs.length
      · have hi1 : (i : Int) < (xs.length : Int) := by omega
        obtain ⟨x, hxi⟩ : ∃ x, xs[i]? = some x := ⟨_, List.getElem?_eq_getElem hlt⟩
        have HXI := Lib.hid hxi
        have hul : u.length + K ≤ 1000 * K := by
          have h1 := AtMost.allM (xs.take i) (fun y hy => HK.out y (List.mem_of_mem_take hy)) u hu
          have h2 : (xs.take i).length ≤ 999 := by rw [List.length_take]; omega
          have h3 := Nat.mul_le_mul_right K h2
          omega
        have HUL : Hid ((bs ++ (t ++ u)).length + K ≤ 1099511627776) := Lib.hid (by have := HL.out; have := HKT.out; rw [List.length_append, List.length_append]; omega)
        have hX := HX.out.kept sta_ok (KeptS.turn H.out hp.tu HS.out)
        obtain ⟨b, off, cs, rfl, hSb, hE, hcs⟩ := hX.at_ hxi
        have HE0 := Lib.hid hE
        obtain ⟨lv, rfl, hlv⟩ := hE
        obtain ⟨A7, c7, rfl, _⟩ := hlv.slice
        have c0 : wr.cell? ⟨b, off + i * 2, none⟩ = some (.int .i64 x.tpl) := hcs 0 _ rfl
        have c1 : wr.cell? ⟨b, off + i * 2 + 1, none⟩ = some (.slice A7 x.args.length c7) := hcs 1 _ rfl
        have HBW := Lib.hid (HBX.out.turn hp.tu (not_ws H.out HBX.out (by decide) (by decide)))
        have HZW : Hid (B ≤ wr.heap.size) := Lib.hid (Nat.le_trans HB.out hp.size)
        clear hp hu hul hX hcs
        have hal : wr.grownBy (wr.alloc (.cells #[.int .i64 x.tpl, .slice A7 x.args.length c7] 74)) none := only_alloc (only_refl _ _) _
        go_wp2_with fail
        refine (HCC.out x _ _ _ (List.mem_of_getElem? hxi) (HPP.out.none_ hal).wt (Nat.le_trans HZW.out hal.size) (HBW.out.kept hal) (sta_ok.kept HE0.out (KeptS.none_ hal)) HUL.out).mono ?_
        rintro e w2 hL
        obtain ⟨o2, ho2⟩ : ∃ o, staO x = o := ⟨_, rfl⟩
        rw [ho2] at hL
        rcases hL.cases with ⟨t2, rfl, rfl, hw2, ht2⟩ | ⟨rfl, rfl, ht2⟩
        · have HN : Hid (PM B g w bs (t ++ (u ++ t2)) w2) := Lib.hid (by rw [← List.append_assoc t]; exact (HPP.out.none_ hal).next hw2 ht2)
          have HA : Hid (allO staO (xs.take (i + 1)) = some (u ++ t2)) := Lib.hid (by rw [allO_succ staO hxi, HU.out, ho2]; rfl)
          clear hL hw2 ht2 hal
          go_wp2_with fail
          go_roundw
          case rel => exact ⟨i + 1, _, by omega, by go_num, HA.out, HN.out⟩
          case measure => simp [intOf]; omega
        · have HN : Hid (LaidR B g w bs (cat (some t) (allO staO xs)) gaveArg w2) := Lib.hid (((HPP.out.none_ hal).out ht2).eq (by rw [allO_at staO hxi, ho2, HU.out]; rfl))
          clear hL ht2 hal
          go_wp2_with fail
          exact ⟨rfl, HN.out⟩
      · obtain rfl : i = xs.length := by omega
        have hge : (xs.length : Int) ≤ (xs.length : Int) := by omega
        have HR : Hid (LaidR B g w bs (cat (some t) (allO staO xs)) (.returned (.tuple #[])) wr) := Lib.hid (by rw [List.take_length] at hu; rw [hu]; exact hp.ret)
        clear hp hu HU HPP
        go_wp2_with fail
        go_end0
        exact HR.out
end Go.Proofs.YtohhojbeclbedaaGreatDoor

/- Texts joined for the claim's sake: LebT, LebE. -/
import Derived.Test.YtohhojbeclbedaaGreatDoorZMKnwRow4
import Derived.Test.YtohhojbeclbedaaGreatDoorZMKnwRow0
import Derived.LoopTactic
import Derived.Deep.LoopGhost
import Derived.Lib.Hide
import Derived.Laws.CopyRow
import Derived.Laws.Tables
namespace Go.Proofs.YtohhojbeclbedaaGreatDoor
open Go.RowKit

/-- The byte at i, or 0. -/
def tb (l : List UInt8) (i : Nat) : Int := ((l[i]?.getD 0).toNat : Int)
/-- The bytes that were taken, and how many they are: as cells, as a value. -/
def tcells (l : List UInt8) : Array Value := #[.int .u8 (tb l 0), .int .u8 (tb l 1), .int .u8 (tb l 2), .int .u8 (tb l 3), .int .u8 (tb l 4), .int .u8 (tb l 5), .int .u8 (tb l 6), .int .u8 (tb l 7), .int .u8 (tb l 8), .int .u8 (tb l 9), .int .i64 (l.length : Int)]
def tval (l : List UInt8) : Value := .agg (tcells l)
theorem tb_snoc (l : List UInt8) (u : UInt8) (i : Nat) : tb (l ++ [u]) i = if i = l.length then (u.toNat : Int) else tb l i := by
  unfold tb
  split
  · rename_i h; subst h; simp
  · rename_i h
    rcases Nat.lt_or_ge i l.length with h1 | h1
    · rw [List.getElem?_append_left h1]
    · rw [List.getElem?_append_right h1, List.getElem?_eq_none h1, List.getElem?_eq_none (by simp; omega)]
theorem ten {c : Nat} (h : c < 10) : c = 0 ∨ c = 1 ∨ c = 2 ∨ c = 3 ∨ c = 4 ∨ c = 5 ∨ c = 6 ∨ c = 7 ∨ c = 8 ∨ c = 9 := by omega
theorem tcells_at (l : List UInt8) {c : Nat} (h : c < 10) : (tcells l)[c]? = some (.int .u8 (tb l c)) := by
  rcases ten h with rfl | rfl | rfl | rfl | rfl | rfl | rfl | rfl | rfl | rfl <;> rfl
theorem tcells_snoc (l : List UInt8) (u : UInt8) (h : l.length < 10) : ((tcells l).setIfInBounds l.length (.int .u8 (u.toNat : Int))).setIfInBounds 10 (.int .i64 ((l.length : Int) + 1)) = tcells (l ++ [u]) := by
  have e := tb_snoc l u
  generalize hl : l.length = c at *
  unfold tcells
  simp only [e, List.length_append, List.length_cons, List.length_nil, hl]
  rcases ten h with rfl | rfl | rfl | rfl | rfl | rfl | rfl | rfl | rfl | rfl <;> simp
theorem tcells_size (l : List UInt8) : (tcells l).size = 11 := rfl
theorem tcells_one (l : List UInt8) : (tcells l).all (·.oneCell') = true := by simp [tcells, Value.oneCell']

theorem taken_size : (Tryz.prog.info? 298).map (·.size) = some 11 := by kernel_rfl
section
variable {w : World} {b : Nat} {t : TypeId} {old : Array Value}
theorem blk_row (h : Blk w b t old) (cs : Array Value) : Blk (w.setRow b cs) b t cs := setRow_heap w b old cs t _ h
theorem row_only (w : World) (b : Nat) (cs : Array Value) : w.grownBy (w.setRow b cs) (some b) := ⟨rfl, rfl, rfl, by simp, fun k _ hk => setRow_other w b k cs (fun e => hk (by rw [e]))⟩
theorem wpList_load_blk {ops : Array Oper} {rest : List Oper} {o : Oper} {a : Act} {Q : Exit → Act → World → Prop} (hgd : o.guard = none) (x : Operand) (ho : o.op = .load 298 x)
    (hx : a.eval x = .pointer (some ⟨b, 0, none⟩)) {l : List UInt8} (hg : Blk w b 298 (tcells l))
    (h : wpList Tryz.prog ops Q rest (a.put o.dst (tval l)) w) : wpList Tryz.prog ops Q (o :: rest) a w :=
  wpList_load_row hgd 298 x ho b hx _ _ _ _ hg Tryz.underlying298 rfl (by rw [tcells_size]; exact taken_size) h
theorem wpList_store_blk {ops : Array Oper} {rest : List Oper} {o : Oper} {a : Act} {Q : Exit → Act → World → Prop} (hgd : o.guard = none) (x y : Operand) (ho : o.op = .store 298 x y)
    (hx : a.eval x = .pointer (some ⟨b, 0, none⟩)) {l l' : List UInt8} (hy : a.eval y = tval l) (hg : Blk w b 298 (tcells l'))
    (h : wpList Tryz.prog ops Q rest (a.put o.dst undef) (w.setRow b (tcells l))) : wpList Tryz.prog ops Q (o :: rest) a w :=
  wpList_plain hgd fun _ hK => wp_store_row 298 x y ho b (tcells l) hx hy _ _ hg (by rw [tcells_size]; exact taken_size) rfl (tcells_one l) (hK _ _ h)
end

/-- How many are still to be taken, read off the count's cell. -/
def toCome : Option Value → Nat
  | some (.int _ c) => 10 - c.toNat
  | _ => 0

/-- What stands where bytes are taken, one by one. -/
def TI (w : World) (g : Nat) (bs : List UInt8) (a bg c : Nat) (wr : World) : Prop :=
  Rdr wr g bs (a + c) bg ∧ w.grownBy wr (some g) ∧ Blk wr (w.heap.size + 1) 298 (tcells ((bs.drop a).take c)) ∧ Blk wr w.heap.size 298 (tcells [])

theorem ti_start {w : World} {g a bg : Nat} {bs : List UInt8} (h : Rdr w g bs a bg) : TI w g bs a bg 0 ((w.alloc (.cells (tcells []) 298)).alloc (.cells (tcells []) 298)) := by
  have h1 : w.grownBy ((w.alloc (.cells (tcells []) 298)).alloc (.cells (tcells []) 298)) none := only_alloc (only_alloc (only_refl _ _) _) _
  have h2 := Blk.new (w.alloc (.cells (tcells []) 298)) 298 (tcells [])
  rw [show (w.alloc (.cells (tcells []) 298)).heap.size = w.heap.size + 1 by simp] at h2
  exact ⟨h.kept h1, only_weak h1 _, by rw [List.take_zero]; exact h2, (Blk.new w _ _).alloc _⟩

theorem ti_end {w wr : World} {g A bg : Nat} {bs : List UInt8} {old : Array Value} (hgl : g < w.heap.size) (hR : Rdr wr g bs A bg) (hg : w.grownBy wr (some g)) (hB0 : Blk wr w.heap.size 298 old) (cs : Array Value) :
    Blk (wr.setRow w.heap.size cs) w.heap.size 298 cs ∧ w.grownBy (wr.setRow w.heap.size cs) (some g) ∧ Rdr (wr.setRow w.heap.size cs) g bs A bg := by
  have hs : wr.grownBy (wr.setRow w.heap.size cs) (some w.heap.size) := row_only wr _ cs
  refine ⟨blk_row hB0 cs, only_new' hg hs (Nat.le_refl _), hR.grown hs (fun e => by injection e with e; omega) (fun j e => ?_)⟩
  injection e with e
  subst e
  exact ⟨_, _, hB0, by decide⟩
theorem ti_next {w w1 : World} {g A bg c : Nat} {bs l : List UInt8} {u : UInt8} (hgl : g < w.heap.size) (hR : Rdr w1 g bs A bg) (hg : w.grownBy w1 (some g)) (hB : Blk w1 (w.heap.size + 1) 298 (tcells l)) (hB0 : Blk w1 w.heap.size 298 (tcells []))
    (hlen : l.length = c) (hc : c < 10) :
    Rdr ((w1.setCell ⟨w.heap.size + 1, c, none⟩ (.int .u8 (u.toNat : Int))).setCell ⟨w.heap.size + 1, 10, none⟩ (.int .i64 ((c : Int) + 1))) g bs A bg ∧
    w.grownBy ((w1.setCell ⟨w.heap.size + 1, c, none⟩ (.int .u8 (u.toNat : Int))).setCell ⟨w.heap.size + 1, 10, none⟩ (.int .i64 ((c : Int) + 1))) (some g) ∧
    Blk ((w1.setCell ⟨w.heap.size + 1, c, none⟩ (.int .u8 (u.toNat : Int))).setCell ⟨w.heap.size + 1, 10, none⟩ (.int .i64 ((c : Int) + 1))) (w.heap.size + 1) 298 (tcells (l ++ [u])) ∧
    Blk ((w1.setCell ⟨w.heap.size + 1, c, none⟩ (.int .u8 (u.toNat : Int))).setCell ⟨w.heap.size + 1, 10, none⟩ (.int .i64 ((c : Int) + 1))) w.heap.size 298 (tcells []) := by
  have hs : w1.grownBy ((w1.setCell ⟨w.heap.size + 1, c, none⟩ (.int .u8 (u.toNat : Int))).setCell ⟨w.heap.size + 1, 10, none⟩ (.int .i64 ((c : Int) + 1))) (some (w.heap.size + 1)) := only_setCell (only_setCell (only_refl w1 (some (w.heap.size + 1))) (p := ⟨w.heap.size + 1, c, none⟩) rfl _) (p := ⟨w.heap.size + 1, 10, none⟩) rfl _
  have hb := (hB.set_ c (.int .u8 (u.toNat : Int))).set_ 10 (.int .i64 ((c : Int) + 1))
  subst hlen
  rw [tcells_snoc l u hc] at hb
  refine ⟨hR.grown hs (fun e => by injection e with e; omega) (fun j e => ?_), only_new' hg hs (by omega), hb, hB0.grown hs (fun e => by injection e with e; omega)⟩
  injection e with e
  subst e
  exact ⟨_, _, hB, by decide⟩
theorem take_results {tmps : Array Value} {W : World} {b : Nat} {l : List UInt8} {v : Value} (hp : tmps.getD 2 undef = .pointer (some ⟨b, 0, none⟩)) (h3 : tmps.getD 3 undef = v) (hb : Blk W b 298 (tcells l)) :
    (results Tryz.f206 tmps).run Tryz.prog W = .ok (.tuple #[tval l, v]) W := by
  have hp' : tmps[2]?.getD undef = .pointer (some ⟨b, 0, none⟩) := by simpa using hp
  have h3' : tmps[3]?.getD undef = v := by simpa using h3
  simp [results, Tryz.results206, hp', h3', asAddr, tval, run_loadVar_row W b _ 298 _ _ _ hb Tryz.underlying298 rfl (by rw [tcells_size]; exact taken_size)]

set_option maxRecDepth 100000 in
set_option maxHeartbeats 4000000 in
theorem take_taken {w : World} {g : Nat} {bs : List UInt8} {a bg : Nat} (h : Rdr w g bs a bg) (k : Nat) (hk : Taken (bs.drop a) k) :
    Calls Tryz.prog 206 #[.pointer (some ⟨g, 0, none⟩)] w fun e w' => e = .returned (.tuple #[tval ((bs.drop a).take k), .nilIface]) ∧ w.grownBy w' (some g) ∧ Rdr w' g bs (a + k) bg := by
  have H0 := Lib.hid (ti_start h)
  go_enter Tryz.func206, Tryz.ntmps206
  go_wp2_with fail
  go_loopw [5] (fun _ wr => ∃ c, c ≤ k ∧ (c = k → k = 10) ∧ TI w g bs a bg c wr) (fun _ wr => toCome (wr.cell? ⟨w.heap.size + 1, 10, none⟩))
  case atStart => exact ⟨0, by omega, by have := hk.pos; omega, H0.out⟩
  case round =>
    obtain ⟨c, hck, hc10, hR, hg, hB, hB0⟩ := hrel
    have hgl := h.lt
    have hkl := hk.len
    have hlen : ((bs.drop a).take c).length = c := by rw [List.length_take]; omega
    have HK := Lib.hid hk
    have HL := Lib.hid hkl
    have hk10 := hk.le
    have hbs : c < k → ∃ u, (bs.drop a)[c]? = some u ∧ bs[a + c]? = some u ∧ (bs.drop a).take (c + 1) = (bs.drop a).take c ++ [u] := fun hlt => by
      have h1 : c < (bs.drop a).length := by omega
      refine ⟨(bs.drop a)[c], List.getElem?_eq_getElem h1, ?_, ?_⟩
      · rw [← List.getElem?_drop]; exact List.getElem?_eq_getElem h1
      · exact List.take_succ_eq_append_getElem h1
    clear hk hkl H0 h
    generalize hl : (bs.drop a).take c = l at *
    have k10 : wr.cell? ⟨w.heap.size + 1, 10, none⟩ = some (.int .i64 (c : Int)) := by rw [← hlen]; exact hB.cell 10
    by_cases hcc : c = 10
    · have hk2 : k = 10 := by omega
      have HE := Lib.hid (ti_end hgl hR hg hB0 (tcells l))
      clear hck hc10 hbs
      go_wp2_with (first | (refine wpList_load_blk rfl (.tmp 4) rfl rfl hB ?_) | (refine wpList_store_blk rfl (.tmp 2) (.tmp 30) rfl rfl rfl hB0 ?_))
      obtain ⟨h1, h2, h3⟩ := HE.out
      refine bodyPost_ret (take_results rfl rfl h1) rfl ⟨?_, h2, ?_⟩
      · rw [← hl, hcc, hk2]; rfl
      · rw [hk2, ← hcc]; exact h3
    · have hcl : c < 10 := by omega
      have hlt : c < k := by omega
      obtain ⟨u, hu, hu2, hsn⟩ := hbs hlt
      have hcl' : (c : Int) < 10 := by omega
      have HS := Lib.hid hsn
      have HC := Lib.hid hc10
      have hlow : (c + 1 < k ∧ 128 ≤ (u.toNat : Int)) ∨ (c + 1 = k ∧ (u.toNat : Int) < 128) ∨ (c + 1 = k ∧ k = 10 ∧ 128 ≤ (u.toNat : Int)) := by
        by_cases h1 : c + 1 < k
        · have := HK.out.high c u h1 hu
          omega
        · have h2 : c + 1 = k := by omega
          have := HK.out.last u (by rw [← h2, Nat.add_sub_cancel]; exact hu)
          omega
      clear hbs hsn hu hc10 hck
      have H1 := byte_ok hR u hu2
      clear hu2
      go_wp2_with fail
      refine H1.mono ?_
      clear H1
      rintro e w1 ⟨rfl, hg1, hR1⟩
      have hB1 := hB.grown hg1 (fun e => by injection e with e; omega)
      have hB01 := hB0.grown hg1 (fun e => by injection e with e; omega)
      have hgw := only_trans hg hg1
      have q10 : w1.cell? ⟨w.heap.size + 1, 10, none⟩ = some (.int .i64 (c : Int)) := by rw [← hlen]; exact hB1.cell 10
      have qc : w1.cell? ⟨w.heap.size + 1, c, none⟩ = some (.int .u8 (tb l c)) := by rw [hB1.cell c]; exact tcells_at l hcl
      have fc := hB1.frozen c
      have f10 := hB1.frozen 10
      obtain ⟨n1, n2, n3, n4⟩ := ti_next (u := u) hgl hR1 hgw hB1 hB01 hlen hcl
      rcases hlow with ⟨d1, d2⟩ | ⟨d1, d2⟩ | ⟨d1, d2, d3⟩
      · go_wp2_with fail
        go_roundw
        case rel => exact ⟨c + 1, by omega, by omega, n1, n2, by rw [HS.out]; exact n3, n4⟩
        case measure =>
          have h5 := n3.cell 10
          rw [h5]
          simp [toCome, tcells, hlen, k10]; omega
      · have HE := Lib.hid (ti_end hgl n1 n2 n4 (tcells (l ++ [u])))
        go_wp2_with (first | (refine wpList_load_blk rfl (.tmp 4) rfl rfl n3 ?_) | (refine wpList_store_blk rfl (.tmp 2) (.tmp 30) rfl rfl rfl n4 ?_))
        obtain ⟨h1, h2, h3⟩ := HE.out
        refine bodyPost_ret (take_results rfl rfl h1) rfl ⟨?_, h2, ?_⟩
        · rw [← HS.out, d1]; rfl
        · rw [← d1]; exact h3
      · go_wp2_with fail
        go_roundw
        case rel => exact ⟨c + 1, by omega, by omega, n1, n2, by rw [HS.out]; exact n3, n4⟩
        case measure =>
          have h5 := n3.cell 10
          rw [h5]
          simp [toCome, tcells, hlen, k10]; omega
end Go.Proofs.YtohhojbeclbedaaGreatDoor

namespace Go.Proofs.YtohhojbeclbedaaGreatDoor
open Go.RowKit

set_option maxRecDepth 100000 in
set_option maxHeartbeats 4000000 in
theorem take_ends {w : World} {g : Nat} {bs : List UInt8} {a bg : Nat} (h : Rdr w g bs a bg) (hs : Short (bs.drop a)) :
    Calls Tryz.prog 206 #[.pointer (some ⟨g, 0, none⟩)] w fun e w' => ∃ fb, e = .returned (.tuple #[tval [], .iface 94 (.pointer (some ⟨fb, 0, none⟩))]) ∧ Flt w' fb 3 ((bg : Int) + (bs.length : Int)) ∧ w.heap.size ≤ fb ∧ w.grownBy w' (some g) ∧ Rdr w' g bs bs.length bg := by
  have H0 := Lib.hid (ti_start h)
  have hal := h.le
  have hdl : (bs.drop a).length = bs.length - a := by simp
  go_enter Tryz.func206, Tryz.ntmps206
  go_wp2_with fail
  go_loopw [5] (fun _ wr => ∃ c, c ≤ (bs.drop a).length ∧ TI w g bs a bg c wr) (fun _ wr => toCome (wr.cell? ⟨w.heap.size + 1, 10, none⟩))
  case atStart => exact ⟨0, by omega, H0.out⟩
  case round =>
    obtain ⟨c, hck, hR, hg, hB, hB0⟩ := hrel
    have hgl := h.lt
    have hlen : ((bs.drop a).take c).length = c := by rw [List.length_take]; omega
    have hbs : c < (bs.drop a).length → ∃ u, (bs.drop a)[c]? = some u ∧ bs[a + c]? = some u ∧ (bs.drop a).take (c + 1) = (bs.drop a).take c ++ [u] := fun h1 => by
      refine ⟨(bs.drop a)[c], List.getElem?_eq_getElem h1, ?_, ?_⟩
      · rw [← List.getElem?_drop]; exact List.getElem?_eq_getElem h1
      · exact List.take_succ_eq_append_getElem h1
    have hcl : c < 10 := by have := hs.1; omega
    have hcl' : (c : Int) < 10 := by omega
    have HS := Lib.hid hs
    clear hs H0 h
    generalize hl : (bs.drop a).take c = l at *
    have k10 : wr.cell? ⟨w.heap.size + 1, 10, none⟩ = some (.int .i64 (c : Int)) := by rw [← hlen]; exact hB.cell 10
    by_cases hlt : c < (bs.drop a).length
    · obtain ⟨u, hu, hu2, hsn⟩ := hbs hlt
      have hhigh : 128 ≤ (u.toNat : Int) := by have := HS.out.2 c u hu; omega
      have HSN := Lib.hid hsn
      clear hbs hsn hu
      have H1 := byte_ok hR u hu2
      clear hu2
      go_wp2_with fail
      refine H1.mono ?_
      clear H1
      rintro e w1 ⟨rfl, hg1, hR1⟩
      have hB1 := hB.grown hg1 (fun e => by injection e with e; omega)
      have hB01 := hB0.grown hg1 (fun e => by injection e with e; omega)
      have hgw := only_trans hg hg1
      have q10 : w1.cell? ⟨w.heap.size + 1, 10, none⟩ = some (.int .i64 (c : Int)) := by rw [← hlen]; exact hB1.cell 10
      have qc : w1.cell? ⟨w.heap.size + 1, c, none⟩ = some (.int .u8 (tb l c)) := by rw [hB1.cell c]; exact tcells_at l hcl
      have fc := hB1.frozen c
      have f10 := hB1.frozen 10
      obtain ⟨n1, n2, n3, n4⟩ := ti_next (u := u) hgl hR1 hgw hB1 hB01 hlen hcl
      go_wp2_with fail
      go_roundw
      case rel => exact ⟨c + 1, by omega, n1, n2, by rw [HSN.out]; exact n3, n4⟩
      case measure =>
        have h5 := n3.cell 10
        rw [h5]
        simp [toCome, tcells, hlen, k10]; omega
    · have hend : a + c = bs.length := by omega
      have H1 := byte_short hR hend
      have hpl : (bg : Int) + ((a + c : Nat) : Int) = (bg : Int) + (bs.length : Int) := by omega
      rw [hpl] at H1
      rw [hend] at hR
      clear hbs hend hpl hck hlt
      go_wp2_with fail
      refine H1.mono ?_
      clear H1
      rintro e w1 ⟨fb, rfl, hf, hfb, hg1⟩
      have hB01 := hB0.kept hg1
      have hR1 := hR.kept hg1
      have hgw := only_trans hg (only_weak hg1 (some g))
      have hne : w.heap.size ≠ fb := by have := hB0.lt; omega
      obtain ⟨h1, h2, h3⟩ := ti_end hgl hR1 hgw hB01 (tcells [])
      have hf2 : Flt (w1.setRow w.heap.size (tcells [])) fb 3 ((bg : Int) + (bs.length : Int)) := Blk.grown hf (row_only w1 _ _) (fun e => hne (by injection e with e; omega))
      have hsz := hg.size
      have HF := Lib.hid hf2
      clear hf hf2
      go_wp2_with (first | (refine wpList_store_blk (l := []) rfl (.tmp 2) (.tmp 17) rfl rfl rfl hB01 ?_))
      refine bodyPost_ret (take_results rfl rfl h1) rfl ⟨fb, rfl, HF.out, by omega, h2, h3⟩

end Go.Proofs.YtohhojbeclbedaaGreatDoor

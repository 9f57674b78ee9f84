/- Texts joined for the claim's sake: LebT, LebE, LebN, LebM, LebU, LebS, LebV. -/
import Derived.Test.YtmbdaenjeeklfaaDoorZIbB
import Derived.Test.YtmbdaenjeeklfaaDoorZIbC
import Derived.LoopTactic
import Derived.Deep.LoopGhost
import Derived.Lib.Hide
import Derived.Laws.CopyRow
import Derived.Laws.Tables
import Derived.LoopN
/- leb: bytes are taken for a number: what take answers, and what it leaves. -/
namespace Go.Proofs.YtmbdaenjeeklfaaDoor
open Go.RowKit

/-- The byte at i, or 0. -/
def tb (l : List UInt8) (i : Nat) : Int := ((l[i]?.getD 0).toNat : Int)
/-- The bytes that were taken, and how many they are: as cells, as a value. -/
def tcells (l : List UInt8) : Array Value := #[.int .u8 (tb l 0), .int .u8 (tb l 1), .int .u8 (tb l 2), .int .u8 (tb l 3), .int .u8 (tb l 4), .int .u8 (tb l 5), .int .u8 (tb l 6), .int .u8 (tb l 7), .int .u8 (tb l 8), .int .u8 (tb l 9), .int .i64 (l.length : Int)]
def tval (l : List UInt8) : Value := .agg (tcells l)
theorem tb_snoc (l : List UInt8) (u : UInt8) (i : Nat) : tb (l ++ [u]) i = if i = l.length then (u.toNat : Int) else tb l i := by
  unfold tb
  split
  · rename_i h; subst h; simp
  · rename_i h
    rcases Nat.lt_or_ge i l.length with h1 | h1
    · rw [List.getElem?_append_left h1]
    · rw [List.getElem?_append_right h1, List.getElem?_eq_none h1, List.getElem?_eq_none (by simp; omega)]
theorem ten {c : Nat} (h : c < 10) : c = 0 ∨ c = 1 ∨ c = 2 ∨ c = 3 ∨ c = 4 ∨ c = 5 ∨ c = 6 ∨ c = 7 ∨ c = 8 ∨ c = 9 := by omega
theorem tcells_at (l : List UInt8) {c : Nat} (h : c < 10) : (tcells l)[c]? = some (.int .u8 (tb l c)) := by
  rcases ten h with rfl | rfl | rfl | rfl | rfl | rfl | rfl | rfl | rfl | rfl <;> rfl
theorem tcells_snoc (l : List UInt8) (u : UInt8) (h : l.length < 10) : ((tcells l).setIfInBounds l.length (.int .u8 (u.toNat : Int))).setIfInBounds 10 (.int .i64 ((l.length : Int) + 1)) = tcells (l ++ [u]) := by
  have e := tb_snoc l u
  generalize hl : l.length = c at *
  unfold tcells
  simp only [e, List.length_append, List.length_cons, List.length_nil, hl]
  rcases ten h with rfl | rfl | rfl | rfl | rfl | rfl | rfl | rfl | rfl | rfl <;> simp
theorem tval_eq (l : List UInt8) : tval l = .agg (tcells l) := rfl
theorem tcells_size (l : List UInt8) : (tcells l).size = 11 := rfl
theorem tcells_len (l : List UInt8) : (tcells l).toList.length = 11 := rfl
theorem tcells_one (l : List UInt8) : (tcells l).all (·.oneCell') = true := by simp [tcells, Value.oneCell']

theorem taken_size : (Tryd.prog.info? 162).map (·.size) = some 11 := by kernel_rfl
section
variable {w : World} {b : Nat} {t : TypeId} {old : Array Value}
theorem blk_row (h : Blk w b t old) (cs : Array Value) : Blk (w.setRow b cs) b t cs := setRow_heap w b old cs t _ h
theorem row_only (w : World) (b : Nat) (cs : Array Value) : w.grownBy (w.setRow b cs) (some b) := ⟨rfl, rfl, rfl, by simp, fun k _ hk => setRow_other w b k cs (fun e => hk (by rw [e]))⟩
theorem wpList_load_blk {ops : Array Oper} {rest : List Oper} {o : Oper} {a : Act} {Q : Exit → Act → World → Prop} (hgd : o.guard = none) (x : Operand) (ho : o.op = .load 162 x)
    (hx : a.eval x = .pointer (some ⟨b, 0, none⟩)) {l : List UInt8} (hg : Blk w b 162 (tcells l))
    (h : wpList Tryd.prog ops Q rest (a.put o.dst (tval l)) w) : wpList Tryd.prog ops Q (o :: rest) a w :=
  wpList_load_row hgd 162 x ho b hx _ _ _ _ hg Tryd.underlying162 rfl (by rw [tcells_size]; exact taken_size) h
theorem wpList_store_blk {ops : Array Oper} {rest : List Oper} {o : Oper} {a : Act} {Q : Exit → Act → World → Prop} (hgd : o.guard = none) (x y : Operand) (ho : o.op = .store 162 x y)
    (hx : a.eval x = .pointer (some ⟨b, 0, none⟩)) {l l' : List UInt8} (hy : a.eval y = tval l) (hg : Blk w b 162 (tcells l'))
    (h : wpList Tryd.prog ops Q rest (a.put o.dst undef) (w.setRow b (tcells l))) : wpList Tryd.prog ops Q (o :: rest) a w :=
  wpList_plain hgd fun _ hK => wp_store_row 162 x y ho b (tcells l) hx hy _ _ hg (by rw [tcells_size]; exact taken_size) rfl (tcells_one l) (hK _ _ h)
end

/-- How many are still to be taken, read off the count's cell. -/
def toCome : Option Value → Nat
  | some (.int _ c) => 10 - c.toNat
  | _ => 0

/-- What stands where bytes are taken, one by one. -/
def TI (w : World) (g : Nat) (bs : List UInt8) (a bg c : Nat) (wr : World) : Prop :=
  Rdr wr g bs (a + c) bg ∧ w.grownBy wr (some g) ∧ Blk wr (w.heap.size + 1) 162 (tcells ((bs.drop a).take c)) ∧ Blk wr w.heap.size 162 (tcells [])

theorem ti_start {w : World} {g a bg : Nat} {bs : List UInt8} (h : Rdr w g bs a bg) : TI w g bs a bg 0 ((w.alloc (.cells (tcells []) 162)).alloc (.cells (tcells []) 162)) := by
  have h1 : w.grownBy ((w.alloc (.cells (tcells []) 162)).alloc (.cells (tcells []) 162)) none := only_alloc (only_alloc (only_refl _ _) _) _
  have h2 := Blk.new (w.alloc (.cells (tcells []) 162)) 162 (tcells [])
  rw [show (w.alloc (.cells (tcells []) 162)).heap.size = w.heap.size + 1 by simp] at h2
  exact ⟨h.kept h1, only_weak h1 _, by rw [List.take_zero]; exact h2, (Blk.new w _ _).alloc _⟩

theorem ti_end {w wr : World} {g A bg : Nat} {bs : List UInt8} {old : Array Value} (hgl : g < w.heap.size) (hR : Rdr wr g bs A bg) (hg : w.grownBy wr (some g)) (hB0 : Blk wr w.heap.size 162 old) (cs : Array Value) :
    Blk (wr.setRow w.heap.size cs) w.heap.size 162 cs ∧ w.grownBy (wr.setRow w.heap.size cs) (some g) ∧ Rdr (wr.setRow w.heap.size cs) g bs A bg := by
  have hs : wr.grownBy (wr.setRow w.heap.size cs) (some w.heap.size) := row_only wr _ cs
  refine ⟨blk_row hB0 cs, only_new' hg hs (Nat.le_refl _), hR.grown hs (fun e => by injection e with e; omega) (fun j e => ?_)⟩
  injection e with e
  subst e
  exact ⟨_, _, hB0, by decide⟩
theorem ti_next {w w1 : World} {g A bg c : Nat} {bs l : List UInt8} {u : UInt8} (hgl : g < w.heap.size) (hR : Rdr w1 g bs A bg) (hg : w.grownBy w1 (some g)) (hB : Blk w1 (w.heap.size + 1) 162 (tcells l)) (hB0 : Blk w1 w.heap.size 162 (tcells []))
    (hlen : l.length = c) (hc : c < 10) :
    Rdr ((w1.setCell ⟨w.heap.size + 1, c, none⟩ (.int .u8 (u.toNat : Int))).setCell ⟨w.heap.size + 1, 10, none⟩ (.int .i64 ((c : Int) + 1))) g bs A bg ∧
    w.grownBy ((w1.setCell ⟨w.heap.size + 1, c, none⟩ (.int .u8 (u.toNat : Int))).setCell ⟨w.heap.size + 1, 10, none⟩ (.int .i64 ((c : Int) + 1))) (some g) ∧
    Blk ((w1.setCell ⟨w.heap.size + 1, c, none⟩ (.int .u8 (u.toNat : Int))).setCell ⟨w.heap.size + 1, 10, none⟩ (.int .i64 ((c : Int) + 1))) (w.heap.size + 1) 162 (tcells (l ++ [u])) ∧
    Blk ((w1.setCell ⟨w.heap.size + 1, c, none⟩ (.int .u8 (u.toNat : Int))).setCell ⟨w.heap.size + 1, 10, none⟩ (.int .i64 ((c : Int) + 1))) w.heap.size 162 (tcells []) := by
  have hs : w1.grownBy ((w1.setCell ⟨w.heap.size + 1, c, none⟩ (.int .u8 (u.toNat : Int))).setCell ⟨w.heap.size + 1, 10, none⟩ (.int .i64 ((c : Int) + 1))) (some (w.heap.size + 1)) := only_setCell (only_setCell (only_refl w1 (some (w.heap.size + 1))) (p := ⟨w.heap.size + 1, c, none⟩) rfl _) (p := ⟨w.heap.size + 1, 10, none⟩) rfl _
  have hb := (hB.set_ c (.int .u8 (u.toNat : Int))).set_ 10 (.int .i64 ((c : Int) + 1))
  subst hlen
  rw [tcells_snoc l u hc] at hb
  refine ⟨hR.grown hs (fun e => by injection e with e; omega) (fun j e => ?_), only_new' hg hs (by omega), hb, hB0.grown hs (fun e => by injection e with e; omega)⟩
  injection e with e
  subst e
  exact ⟨_, _, hB, by decide⟩
theorem take_results {tmps : Array Value} {W : World} {b : Nat} {l : List UInt8} {v : Value} (hp : tmps.getD 2 undef = .pointer (some ⟨b, 0, none⟩)) (h3 : tmps.getD 3 undef = v) (hb : Blk W b 162 (tcells l)) :
    (results Tryd.f85 tmps).run Tryd.prog W = .ok (.tuple #[tval l, v]) W := by
  have hp' : tmps[2]?.getD undef = .pointer (some ⟨b, 0, none⟩) := by simpa using hp
  have h3' : tmps[3]?.getD undef = v := by simpa using h3
  simp [results, Tryd.results85, hp', h3', asAddr, tval, run_loadVar_row W b _ 162 _ _ _ hb Tryd.underlying162 rfl (by rw [tcells_size]; exact taken_size)]

set_option maxRecDepth 100000 in
set_option maxHeartbeats 4000000 in
theorem take_taken {w : World} {g : Nat} {bs : List UInt8} {a bg : Nat} (h : Rdr w g bs a bg) (k : Nat) (hk : Taken (bs.drop a) k) :
    Calls Tryd.prog 85 #[.pointer (some ⟨g, 0, none⟩)] w fun e w' => e = .returned (.tuple #[tval ((bs.drop a).take k), .nilIface]) ∧ w.grownBy w' (some g) ∧ Rdr w' g bs (a + k) bg := by
  have H0 := Lib.hid (ti_start h)
  go_enter Tryd.func85, Tryd.ntmps85
  go_wp2_with fail
  go_loopw [5] (fun _ wr => ∃ c, c ≤ k ∧ (c = k → k = 10) ∧ TI w g bs a bg c wr) (fun _ wr => toCome (wr.cell? ⟨w.heap.size + 1, 10, none⟩))
  case atStart => exact ⟨0, by omega, by have := hk.pos; omega, H0.out⟩
  case round =>
    obtain ⟨c, hck, hc10, hR, hg, hB, hB0⟩ := hrel
    have hgl := h.lt
    have hkl := hk.len
    have hlen : ((bs.drop a).take c).length = c := by rw [List.length_take]; omega
    have HK := Lib.hid hk
    have HL := Lib.hid hkl
    have hk10 := hk.le
    have hbs : c < k → ∃ u, (bs.drop a)[c]? = some u ∧ bs[a + c]? = some u ∧ (bs.drop a).take (c + 1) = (bs.drop a).take c ++ [u] := fun hlt => by
      have h1 : c < (bs.drop a).length := by omega
      refine ⟨(bs.drop a)[c], List.getElem?_eq_getElem h1, ?_, ?_⟩
      · rw [← List.getElem?_drop]; exact List.getElem?_eq_getElem h1
      · exact List.take_succ_eq_append_getElem h1
    clear hk hkl H0 h
    generalize hl : (bs.drop a).take c = l at *
    have k10 : wr.cell? ⟨w.heap.size + 1, 10, none⟩ = some (.int .i64 (c : Int)) := by rw [← hlen]; exact hB.cell 10
    by_cases hcc : c = 10
    · have hk2 : k = 10 := by omega
      have HE := Lib.hid (ti_end hgl hR hg hB0 (tcells l))
      clear hck hc10 hbs
      go_wp2_with (first | (refine wpList_load_blk rfl (.tmp 4) rfl rfl hB ?_) | (refine wpList_store_blk rfl (.tmp 2) (.tmp 30) rfl rfl rfl hB0 ?_))
      obtain ⟨h1, h2, h3⟩ := HE.out
      refine bodyPost_ret (take_results rfl rfl h1) rfl ⟨?_, h2, ?_⟩
      · rw [← hl, hcc, hk2]; rfl
      · rw [hk2, ← hcc]; exact h3
    · have hcl : c < 10 := by omega
      have hlt : c < k := by omega
      obtain ⟨u, hu, hu2, hsn⟩ := hbs hlt
      have hcl' : (c : Int) < 10 := by omega
      have HS := Lib.hid hsn
      have HC := Lib.hid hc10
      have hlow : (c + 1 < k ∧ 128 ≤ (u.toNat : Int)) ∨ (c + 1 = k ∧ (u.toNat : Int) < 128) ∨ (c + 1 = k ∧ k = 10 ∧ 128 ≤ (u.toNat : Int)) := by
        by_cases h1 : c + 1 < k
        · have := HK.out.high c u h1 hu
          omega
        · have h2 : c + 1 = k := by omega
          have := HK.out.last u (by rw [← h2, Nat.add_sub_cancel]; exact hu)
          omega
      clear hbs hsn hu hc10 hck
      have H1 := byte_ok hR u hu2
      clear hu2
      go_wp2_with fail
      refine H1.mono ?_
      clear H1
      rintro e w1 ⟨rfl, hg1, hR1⟩
      have hB1 := hB.grown hg1 (fun e => by injection e with e; omega)
      have hB01 := hB0.grown hg1 (fun e => by injection e with e; omega)
      have hgw := only_trans hg hg1
      have q10 : w1.cell? ⟨w.heap.size + 1, 10, none⟩ = some (.int .i64 (c : Int)) := by rw [← hlen]; exact hB1.cell 10
      have qc : w1.cell? ⟨w.heap.size + 1, c, none⟩ = some (.int .u8 (tb l c)) := by rw [hB1.cell c]; exact tcells_at l hcl
      have fc := hB1.frozen c
      have f10 := hB1.frozen 10
      obtain ⟨n1, n2, n3, n4⟩ := ti_next (u := u) hgl hR1 hgw hB1 hB01 hlen hcl
      rcases hlow with ⟨d1, d2⟩ | ⟨d1, d2⟩ | ⟨d1, d2, d3⟩
      · go_wp2_with fail
        go_roundw
        case rel => exact ⟨c + 1, by omega, by omega, n1, n2, by rw [HS.out]; exact n3, n4⟩
        case measure =>
          have h5 := n3.cell 10
          rw [h5]
          simp [toCome, tcells, hlen, k10]; omega
      · have HE := Lib.hid (ti_end hgl n1 n2 n4 (tcells (l ++ [u])))
        go_wp2_with (first | (refine wpList_load_blk rfl (.tmp 4) rfl rfl n3 ?_) | (refine wpList_store_blk rfl (.tmp 2) (.tmp 30) rfl rfl rfl n4 ?_))
        obtain ⟨h1, h2, h3⟩ := HE.out
        refine bodyPost_ret (take_results rfl rfl h1) rfl ⟨?_, h2, ?_⟩
        · rw [← HS.out, d1]; rfl
        · rw [← d1]; exact h3
      · go_wp2_with fail
        go_roundw
        case rel => exact ⟨c + 1, by omega, by omega, n1, n2, by rw [HS.out]; exact n3, n4⟩
        case measure =>
          have h5 := n3.cell 10
          rw [h5]
          simp [toCome, tcells, hlen, k10]; omega
end Go.Proofs.YtmbdaenjeeklfaaDoor

/- leb: bytes end before the number does; a reader that is none: what take answers, and what it leaves. -/
namespace Go.Proofs.YtmbdaenjeeklfaaDoor
open Go.RowKit

set_option maxRecDepth 100000 in
set_option maxHeartbeats 4000000 in
theorem take_ends {w : World} {g : Nat} {bs : List UInt8} {a bg : Nat} (h : Rdr w g bs a bg) (hs : Short (bs.drop a)) :
    Calls Tryd.prog 85 #[.pointer (some ⟨g, 0, none⟩)] w fun e w' => ∃ fb, e = .returned (.tuple #[tval [], .iface 91 (.pointer (some ⟨fb, 0, none⟩))]) ∧ Flt w' fb 3 ((bg : Int) + (bs.length : Int)) ∧ w.heap.size ≤ fb ∧ w.grownBy w' (some g) ∧ Rdr w' g bs bs.length bg := by
  have H0 := Lib.hid (ti_start h)
  have hal := h.le
  have hdl : (bs.drop a).length = bs.length - a := by simp
  go_enter Tryd.func85, Tryd.ntmps85
  go_wp2_with fail
  go_loopw [5] (fun _ wr => ∃ c, c ≤ (bs.drop a).length ∧ TI w g bs a bg c wr) (fun _ wr => toCome (wr.cell? ⟨w.heap.size + 1, 10, none⟩))
  case atStart => exact ⟨0, by omega, H0.out⟩
  case round =>
    obtain ⟨c, hck, hR, hg, hB, hB0⟩ := hrel
    have hgl := h.lt
    have hlen : ((bs.drop a).take c).length = c := by rw [List.length_take]; omega
    have hbs : c < (bs.drop a).length → ∃ u, (bs.drop a)[c]? = some u ∧ bs[a + c]? = some u ∧ (bs.drop a).take (c + 1) = (bs.drop a).take c ++ [u] := fun h1 => by
      refine ⟨(bs.drop a)[c], List.getElem?_eq_getElem h1, ?_, ?_⟩
      · rw [← List.getElem?_drop]; exact List.getElem?_eq_getElem h1
      · exact List.take_succ_eq_append_getElem h1
    have hcl : c < 10 := by have := hs.1; omega
    have hcl' : (c : Int) < 10 := by omega
    have HS := Lib.hid hs
    clear hs H0 h
    generalize hl : (bs.drop a).take c = l at *
    have k10 : wr.cell? ⟨w.heap.size + 1, 10, none⟩ = some (.int .i64 (c : Int)) := by rw [← hlen]; exact hB.cell 10
    by_cases hlt : c < (bs.drop a).length
    · obtain ⟨u, hu, hu2, hsn⟩ := hbs hlt
      have hhigh : 128 ≤ (u.toNat : Int) := by have := HS.out.2 c u hu; omega
      have HSN := Lib.hid hsn
      clear hbs hsn hu
      have H1 := byte_ok hR u hu2
      clear hu2
      go_wp2_with fail
      refine H1.mono ?_
      clear H1
      rintro e w1 ⟨rfl, hg1, hR1⟩
      have hB1 := hB.grown hg1 (fun e => by injection e with e; omega)
      have hB01 := hB0.grown hg1 (fun e => by injection e with e; omega)
      have hgw := only_trans hg hg1
      have q10 : w1.cell? ⟨w.heap.size + 1, 10, none⟩ = some (.int .i64 (c : Int)) := by rw [← hlen]; exact hB1.cell 10
      have qc : w1.cell? ⟨w.heap.size + 1, c, none⟩ = some (.int .u8 (tb l c)) := by rw [hB1.cell c]; exact tcells_at l hcl
      have fc := hB1.frozen c
      have f10 := hB1.frozen 10
      obtain ⟨n1, n2, n3, n4⟩ := ti_next (u := u) hgl hR1 hgw hB1 hB01 hlen hcl
      go_wp2_with fail
      go_roundw
      case rel => exact ⟨c + 1, by omega, n1, n2, by rw [HSN.out]; exact n3, n4⟩
      case measure =>
        have h5 := n3.cell 10
        rw [h5]
        simp [toCome, tcells, hlen, k10]; omega
    · have hend : a + c = bs.length := by omega
      have H1 := byte_short hR hend
      have hpl : (bg : Int) + ((a + c : Nat) : Int) = (bg : Int) + (bs.length : Int) := by omega
      rw [hpl] at H1
      rw [hend] at hR
      clear hbs hend hpl hck hlt
      go_wp2_with fail
      refine H1.mono ?_
      clear H1
      rintro e w1 ⟨fb, rfl, hf, hfb, hg1⟩
      have hB01 := hB0.kept hg1
      have hR1 := hR.kept hg1
      have hgw := only_trans hg (only_weak hg1 (some g))
      have hne : w.heap.size ≠ fb := by have := hB0.lt; omega
      obtain ⟨h1, h2, h3⟩ := ti_end hgl hR1 hgw hB01 (tcells [])
      have hf2 : Flt (w1.setRow w.heap.size (tcells [])) fb 3 ((bg : Int) + (bs.length : Int)) := Blk.grown hf (row_only w1 _ _) (fun e => hne (by injection e with e; omega))
      have hsz := hg.size
      have HF := Lib.hid hf2
      clear hf hf2
      go_wp2_with (first | (refine wpList_store_blk (l := []) rfl (.tmp 2) (.tmp 17) rfl rfl rfl hB01 ?_))
      refine bodyPost_ret (take_results rfl rfl h1) rfl ⟨fb, rfl, HF.out, by omega, h2, h3⟩

set_option maxRecDepth 100000 in
set_option maxHeartbeats 4000000 in
theorem take_nothing (w : World) :
    Calls Tryd.prog 85 #[.pointer none] w fun e w' => ∃ fb, e = .returned (.tuple #[tval [], .iface 91 (.pointer (some ⟨fb, 0, none⟩))]) ∧ Flt w' fb 1 0 ∧ w.heap.size ≤ fb ∧ w.grownBy w' none := by
  have hB := Blk.new (w.alloc (.cells (tcells []) 162)) 162 (tcells [])
  rw [show (w.alloc (.cells (tcells []) 162)).heap.size = w.heap.size + 1 by simp] at hB
  have hB0 := (Blk.new w 162 (tcells [])).alloc (.cells (tcells []) 162)
  have hg : w.grownBy ((w.alloc (.cells (tcells []) 162)).alloc (.cells (tcells []) 162)) none := only_alloc (only_alloc (only_refl _ _) _) _
  have hz : ((w.alloc (.cells (tcells []) 162)).alloc (.cells (tcells []) 162)).heap.size = w.heap.size + 2 := by simp
  go_enter Tryd.func85, Tryd.ntmps85
  go_wp2_with fail
  refine wp_loop_rounds 1 ?_
  rw [rounds_succ]
  have H1 := byte_none ((w.alloc (.cells (tcells []) 162)).alloc (.cells (tcells []) 162))
  go_wp2_with fail
  refine H1.mono ?_
  clear H1
  rintro e w1 ⟨fb, rfl, hf, hfb, hg1⟩
  have hB01 := hB0.kept hg1
  have hgw := only_trans hg hg1
  have hne : w.heap.size ≠ fb := by omega
  have h1 := blk_row hB01 (tcells [])
  have h2 := only_new hgw (row_only w1 _ (tcells [])) (Nat.le_refl _)
  have hf2 : Flt (w1.setRow w.heap.size (tcells [])) fb 1 0 := Blk.grown hf (row_only w1 _ _) (fun e => hne (by injection e with e; omega))
  have HF := Lib.hid hf2
  clear hf hf2
  go_wp2_with (first | (refine wpList_store_blk (l := []) rfl (.tmp 2) (.tmp 17) rfl rfl rfl hB01 ?_))
  refine bodyPost_ret (take_results rfl rfl h1) rfl ⟨fb, rfl, HF.out, by omega, h2⟩
end Go.Proofs.YtmbdaenjeeklfaaDoor

/- leb: what is wrong with the bytes that were taken, and the number that they are. -/
namespace Go.Proofs.YtmbdaenjeeklfaaDoor
open Go.RowKit

section
variable {w : World} {b q : Nat} {l : List UInt8} {x : Int}
theorem wrong1 (hq : w.cell? ⟨q, 0, none⟩ = some (.int .u8 x)) :
    Calls Tryd.prog 89 #[.pointer (some ⟨q, 0, none⟩)] w fun e w' => e = .returned (.bool (decide (128 ≤ x))) ∧ w = w' := by
  go_enter Tryd.func89, Tryd.ntmps89
  go_wp2
  go_ret
  exact ⟨rfl, rfl⟩
theorem wrong2 (hq : w.cell? ⟨q, 0, none⟩ = some (.int .u8 x)) (n : Int) (hb : w.cell? ⟨b, 10, none⟩ = some (.int .i64 n)) :
    Calls Tryd.prog 90 #[.pointer (some ⟨b, 0, none⟩), .pointer (some ⟨q, 0, none⟩)] w fun e w' => e = .returned (.bool (decide (n = 10 ∧ 1 < x))) ∧ w = w' := by
  by_cases h : n = 10
  · have t1 : (n == 10) = true := by simpa using h
    have e : decide (n = 10 ∧ 1 < x) = decide (1 < x) := by simp [h]
    rw [e]
    clear h e
    go_enter Tryd.func90, Tryd.ntmps90
    go_wp2
    all_goals (go_ret; exact ⟨rfl, rfl⟩)
  · have t1 : (n == 10) = false := by simpa using h
    have e : decide (n = 10 ∧ 1 < x) = false := by simp [h]
    rw [e]
    clear h e
    go_enter Tryd.func90, Tryd.ntmps90
    go_wp2
    all_goals (go_ret; exact ⟨rfl, rfl⟩)
theorem wrong3 (hq : w.cell? ⟨q, 0, none⟩ = some (.int .u8 x)) (n : Int) (hb : w.cell? ⟨b, 10, none⟩ = some (.int .i64 n)) :
    Calls Tryd.prog 91 #[.pointer (some ⟨b, 0, none⟩), .pointer (some ⟨q, 0, none⟩)] w fun e w' => e = .returned (.bool (decide (1 < n ∧ x = 0))) ∧ w = w' := by
  by_cases h : 1 < n
  · have e : decide (1 < n ∧ x = 0) = (x == 0) := by rw [Bool.eq_iff_iff]; simp [h]
    rw [e]
    go_enter Tryd.func91, Tryd.ntmps91
    go_wp2
    all_goals (go_ret; exact ⟨rfl, rfl⟩)
  · have e : decide (1 < n ∧ x = 0) = false := by simp [h]
    rw [e]
    go_enter Tryd.func91, Tryd.ntmps91
    go_wp2
    all_goals (go_ret; exact ⟨rfl, rfl⟩)

set_option maxRecDepth 100000 in
set_option maxHeartbeats 2000000 in
/-- Whether one of the three holds. -/
theorem any_of (s : Nat) (n : Int) (hq : w.cell? ⟨q, 0, none⟩ = some (.int .u8 x)) (hb : w.cell? ⟨b, 10, none⟩ = some (.int .i64 n))
    (s0 : w.cell? ⟨s, 0, none⟩ = some (.func (.func 89) #[] #[.pointer (some ⟨q, 0, none⟩)]))
    (s1 : w.cell? ⟨s, 1, none⟩ = some (.func (.func 90) #[] #[.pointer (some ⟨b, 0, none⟩), .pointer (some ⟨q, 0, none⟩)]))
    (s2 : w.cell? ⟨s, 2, none⟩ = some (.func (.func 91) #[] #[.pointer (some ⟨b, 0, none⟩), .pointer (some ⟨q, 0, none⟩)])) :
    Calls Tryd.prog 88 #[.slice (some ⟨s, 0, none⟩) 3 3] w fun e w' => e = .returned (.bool (decide (128 ≤ x ∨ (n = 10 ∧ 1 < x) ∨ (1 < n ∧ x = 0)))) ∧ w = w' := by
  have H1 := wrong1 hq
  have H2 := wrong2 hq n hb
  have H3 := wrong3 hq n hb
  by_cases h1 : 128 ≤ x
  · have e : decide (128 ≤ x ∨ (n = 10 ∧ 1 < x) ∨ (1 < n ∧ x = 0)) = true := by simp [h1]
    have e1 : decide (128 ≤ x) = true := by simpa using h1
    rw [e]
    rw [e1] at H1
    clear e e1 h1 H2 H3
    go_enter Tryd.func88, Tryd.ntmps88
    go_wp2_with fail
    refine wp_loop_rounds 4 ?_
    rw [rounds_succ]
    go_wp2_with (go_at_call 89; refine H1.mono ?_; rintro e w' ⟨rfl, rfl⟩)
    go_ret
    exact ⟨rfl, rfl⟩
  · have e1 : decide (128 ≤ x) = false := by simpa using h1
    rw [e1] at H1
    by_cases h2 : n = 10 ∧ 1 < x
    · have e : decide (128 ≤ x ∨ (n = 10 ∧ 1 < x) ∨ (1 < n ∧ x = 0)) = true := by simp [h2]
      have e2 : decide (n = 10 ∧ 1 < x) = true := by simpa using h2
      rw [e]
      rw [e2] at H2
      clear e e1 h1 e2 h2 H3
      go_enter Tryd.func88, Tryd.ntmps88
      go_wp2_with fail
      refine wp_loop_rounds 4 ?_
      rw [rounds_succ]
      go_wp2_with (go_at_call 89; refine H1.mono ?_; rintro e w' ⟨rfl, rfl⟩)
      rw [rounds_succ]
      go_wp2_with (go_at_call 90; refine H2.mono ?_; rintro e w' ⟨rfl, rfl⟩)
      go_ret
      exact ⟨rfl, rfl⟩
    · have e : decide (128 ≤ x ∨ (n = 10 ∧ 1 < x) ∨ (1 < n ∧ x = 0)) = decide (1 < n ∧ x = 0) := by
        rw [decide_eq_decide]
        exact ⟨fun h => h.elim (fun h => absurd h h1) (fun h => h.elim (fun h => absurd h h2) id), fun h => .inr (.inr h)⟩
      have e2 : decide (n = 10 ∧ 1 < x) = false := by rw [decide_eq_false_iff_not]; exact h2
      rw [e]
      rw [e2] at H2
      clear e e1 h1 e2 h2
      generalize decide (1 < n ∧ x = 0) = y at *
      go_enter Tryd.func88, Tryd.ntmps88
      go_wp2_with fail
      refine wp_loop_rounds 4 ?_
      rw [rounds_succ]
      go_wp2_with (go_at_call 89; refine H1.mono ?_; rintro e w' ⟨rfl, rfl⟩)
      rw [rounds_succ]
      go_wp2_with (go_at_call 90; refine H2.mono ?_; rintro e w' ⟨rfl, rfl⟩)
      rw [rounds_succ]
      cases y with
      | true =>
        go_wp2_with (go_at_call 91; refine H3.mono ?_; rintro e w' ⟨rfl, rfl⟩)
        go_ret
        exact ⟨rfl, rfl⟩
      | false =>
        go_wp2_with (go_at_call 91; refine H3.mono ?_; rintro e w' ⟨rfl, rfl⟩)
        rw [rounds_succ]
        go_wp2_with fail
        go_ret
        exact ⟨rfl, rfl⟩
end
end Go.Proofs.YtmbdaenjeeklfaaDoor

/- leb: isWrong and number of the bytes that were taken. -/
namespace Go.Proofs.YtmbdaenjeeklfaaDoor
open Go.RowKit

/-- The last byte. -/
theorem bad_iff {l : List UInt8} {m : Nat} (hm : l.length = m + 1) : Bad l ↔ (128 ≤ tb l m ∨ (((m : Int) + 1) = 10 ∧ 1 < tb l m) ∨ (1 < ((m : Int) + 1) ∧ tb l m = 0)) := by
  have hlt : m < l.length := by omega
  have he : l[l.length - 1]? = some l[m] := by rw [hm, Nat.add_sub_cancel]; exact List.getElem?_eq_getElem hlt
  have ht : tb l m = (l[m].toNat : Int) := by unfold tb; rw [List.getElem?_eq_getElem hlt]; rfl
  rw [ht]
  unfold Bad
  constructor
  · rintro ⟨u, hu, h⟩
    rw [he] at hu
    injection hu with hu
    subst hu
    omega
  · intro h
    exact ⟨_, he, by omega⟩

set_option maxRecDepth 100000 in
set_option maxHeartbeats 2000000 in
theorem isWrong_any (l : List UInt8) (m : Nat) (hm : l.length = m + 1) (hm10 : m < 10) (r : Bool) (hr : r = true ↔ Bad l) (w : World) :
    Calls Tryd.prog 86 #[tval l] w fun e w' => e = .returned (.bool r) ∧ w.grownBy w' none := by
  have hmf : ∀ (fn : Fn) (first cap : Array Value) (w : World), (Instr.makeFunc fn first cap).run Tryd.prog w = .ok (.func fn first cap) w := fun _ _ _ _ => rfl
  have hB := Blk.new w 162 (tcells l)
  have c10 : (w.alloc (.cells (tcells l) 162)).cell? ⟨w.heap.size, 10, none⟩ = some (.int .i64 ((m : Int) + 1)) := by
    have := hB.cell 10
    rw [this]
    simp [tcells, hm]
  have cm : (w.alloc (.cells (tcells l) 162)).cell? ⟨w.heap.size, m, none⟩ = some (.int .u8 (tb l m)) := by rw [hB.cell m]; exact tcells_at l hm10
  have hrr : r = decide (128 ≤ tb l m ∨ (((m : Int) + 1) = 10 ∧ 1 < tb l m) ∨ (1 < ((m : Int) + 1) ∧ tb l m = 0)) := by
    rw [Bool.eq_iff_iff, hr, bad_iff hm]; simp
  rw [hrr]
  clear hr hrr
  generalize tb l m = x at *
  have hsz : (tcells l).size = 11 := tcells_size l
  unfold tval
  generalize tcells l = cs at *
  have hm10' : (m : Int) < 10 := by omega
  go_enter Tryd.func86, Tryd.ntmps86
  go_wp2_with fail
  have B2 := Blk.new (w.alloc (.cells cs 162)) 5 #[.int .u8 x]
  rw [show (w.alloc (.cells cs 162)).heap.size = w.heap.size + 1 by simp] at B2
  have hg : w.grownBy ((w.alloc (.cells cs 162)).alloc (.cells #[.int .u8 x] 5)) none := only_alloc (only_alloc (only_refl _ _) _) _
  have B1 := hB.alloc (.cells #[.int .u8 x] 5)
  have k10 : ((w.alloc (.cells cs 162)).alloc (.cells #[.int .u8 x] 5)).cell? ⟨w.heap.size, 10, none⟩ = some (.int .i64 ((m : Int) + 1)) := (B1.cell 10).trans ((hB.cell 10).symm.trans c10)
  have hz : ((w.alloc (.cells cs 162)).alloc (.cells #[.int .u8 x] 5)).heap.size = w.heap.size + 1 + 1 := by simp
  generalize (w.alloc (.cells cs 162)).alloc (.cells #[.int .u8 x] 5) = W at *
  have F := Blk.new W 36 #[.func (.func 89) #[] #[.pointer (some ⟨w.heap.size + 1, 0, none⟩)], .func (.func 90) #[] #[.pointer (some ⟨w.heap.size, 0, none⟩), .pointer (some ⟨w.heap.size + 1, 0, none⟩)], .func (.func 91) #[] #[.pointer (some ⟨w.heap.size, 0, none⟩), .pointer (some ⟨w.heap.size + 1, 0, none⟩)]]
  rw [hz] at F
  have hg3 := only_alloc hg (.cells #[.func (.func 89) #[] #[.pointer (some ⟨w.heap.size + 1, 0, none⟩)], .func (.func 90) #[] #[.pointer (some ⟨w.heap.size, 0, none⟩), .pointer (some ⟨w.heap.size + 1, 0, none⟩)], .func (.func 91) #[] #[.pointer (some ⟨w.heap.size, 0, none⟩), .pointer (some ⟨w.heap.size + 1, 0, none⟩)]] 36)
  have k103 := (World.cell?_of_block ((only_alloc (only_refl W none) (.cells #[.func (.func 89) #[] #[.pointer (some ⟨w.heap.size + 1, 0, none⟩)], .func (.func 90) #[] #[.pointer (some ⟨w.heap.size, 0, none⟩), .pointer (some ⟨w.heap.size + 1, 0, none⟩)], .func (.func 91) #[] #[.pointer (some ⟨w.heap.size, 0, none⟩), .pointer (some ⟨w.heap.size + 1, 0, none⟩)]] 36)).block w.heap.size B1.lt (fun e => by cases e))).trans k10
  refine (any_of (x := x) (q := w.heap.size + 1) (b := w.heap.size) (w.heap.size + 1 + 1) ((m : Int) + 1) ((B2.alloc _).cell 0) k103 (F.cell 0) (F.cell 1) (F.cell 2)).mono ?_
  rintro e w' ⟨rfl, rfl⟩
  go_wp2_with fail
  go_ret
  exact ⟨by simp, hg3⟩

theorem num_drop (l : List UInt8) (j : Nat) (h : j < l.length) : num (l.drop j) = num (l.drop (j + 1)) * 128 + l[j].toNat % 128 := by
  rw [List.drop_eq_getElem_cons h, num_cons]
theorem num_drop_le (l : List UInt8) (j : Nat) : num (l.drop j) ≤ num l := by
  induction j with
  | zero => rw [List.drop_zero]; exact Nat.le_refl _
  | succ j ih =>
    rcases Nat.lt_or_ge j l.length with h | h
    · have := num_drop l j h
      omega
    · rw [List.drop_eq_nil_of_le (by omega), num_nil]; omega

set_option maxRecDepth 100000 in
set_option maxHeartbeats 2000000 in
/-- The number that good bytes are. -/
theorem number_any (l : List UInt8) (m : Nat) (hm : l.length = m + 1) (hm10 : m < 10) (hn : num l < 18446744073709551616) (w : World) :
    Calls Tryd.prog 87 #[tval l] w fun e w' => e = .returned (.int .u64 (num l : Int)) ∧ w.grownBy w' none := by
  have hB := Blk.new w 162 (tcells l)
  have hg : w.grownBy (w.alloc (.cells (tcells l) 162)) none := only_alloc (only_refl _ _) _
  have c10 : (w.alloc (.cells (tcells l) 162)).cell? ⟨w.heap.size, 10, none⟩ = some (.int .i64 ((m : Int) + 1)) := by
    have := hB.cell 10
    rw [this]
    simp [tcells, hm]
  have cj : Hid (∀ j, j < l.length → ∃ x : Nat, x < 256 ∧ (w.alloc (.cells (tcells l) 162)).cell? ⟨w.heap.size, j, none⟩ = some (.int .u8 (x : Int)) ∧ num (l.drop j) = num (l.drop (j + 1)) * 128 + x % 128) := by
    intro j hj
    refine ⟨l[j].toNat, l[j].toNat_lt, ?_, num_drop l j hj⟩
    rw [hB.cell j, tcells_at l (by omega)]
    unfold tb
    rw [List.getElem?_eq_getElem hj]; rfl
  have hle := Lib.hid (num_drop_le l)
  have hn' := Lib.hid hn
  have hm' := Lib.hid hm
  clear hn hm hB
  unfold tval
  have hsz : (tcells l).size = 11 := tcells_size l
  generalize tcells l = cs at *
  have hm10' : (m : Int) < 10 := by omega
  go_enter Tryd.func87, Tryd.ntmps87
  go_wp2_with fail
  generalize hW : w.alloc (.cells cs 162) = W at *
  go_loopw [3, 4] (fun vn vi wr => ∃ j : Nat, j ≤ l.length ∧ vi = .int .i64 ((j : Int) - 1) ∧ vn = .int .u64 (num (l.drop j) : Int) ∧ W = wr) (fun _ vi _ => (intOf vi + 1).toNat)
  case atStart => exact ⟨m + 1, by rw [hm'.out]; omega, by go_num, by rw [List.drop_eq_nil_of_le (by rw [hm'.out]; omega), num_nil]; rfl, rfl⟩
  case round =>
    obtain ⟨j, hj, rfl, rfl, rfl⟩ := hrel
    have hjm : (j : Int) ≤ 10 := by have := hm'.out; omega
    cases j with
    | zero =>
      rw [List.drop_zero]
      go_wp2_with fail
      go_ret
      exact ⟨rfl, hg⟩
    | succ j =>
      obtain ⟨x, hx, hc, hnum⟩ := cj.out j (by omega)
      have h1 := hle.out (j + 1)
      have h2 := hle.out j
      have h3 := hn'.out
      have e1 : ((j + 1 : Nat) : Int) - 1 = (j : Int) := by omega
      have hj10 : (j : Int) < 10 := by omega
      have HN := Lib.hid hnum
      have HJ := Lib.hid hj
      have hb : (num (l.drop (j + 1)) : Int) * 128 + (x : Int) % 128 < 18446744073709551616 := by omega
      have hb0 : (0 : Int) ≤ (num (l.drop (j + 1)) : Int) := by omega
      have hx0 : (0 : Int) ≤ (x : Int) := by omega
      have hx1 : (x : Int) < 256 := by omega
      have HE : Hid ((num (l.drop j) : Int) = (num (l.drop (j + 1)) : Int) * 128 + (x : Int) % 128) := by show _ = _; rw [hnum]; omega
      clear hnum h1 h2 h3 hj
      rw [e1]
      clear e1
      generalize (num (l.drop (j + 1)) : Int) = y at *
      generalize (x : Int) = z at *
      go_wp2_with fail
      go_roundw
      case rel => exact ⟨j, by have := HJ.out; omega, rfl, by rw [HE.out], trivial⟩
      case measure => simp [intOf]
end Go.Proofs.YtmbdaenjeeklfaaDoor

/- leb: U of a reader: what it answers, and what it leaves. -/
namespace Go.Proofs.YtmbdaenjeeklfaaDoor
open Go.RowKit

theorem u_mid {w w1 : World} {g A bg : Nat} {bs : List UInt8} (l : List UInt8) (hg : w.grownBy w1 (some g)) (hR : Rdr w1 g bs A bg) :
    Blk (w1.alloc (.cells (tcells []) 162)) w1.heap.size 162 (tcells []) ∧
    Blk ((w1.alloc (.cells (tcells []) 162)).setRow w1.heap.size (tcells l)) w1.heap.size 162 (tcells l) ∧
    w.grownBy ((w1.alloc (.cells (tcells []) 162)).setRow w1.heap.size (tcells l)) (some g) ∧
    Rdr ((w1.alloc (.cells (tcells []) 162)).setRow w1.heap.size (tcells l)) g bs A bg ∧
    (∀ fb c x, fb < w1.heap.size → Flt w1 fb c x → Flt ((w1.alloc (.cells (tcells []) 162)).setRow w1.heap.size (tcells l)) fb c x) := by
  have hB := Blk.new w1 162 (tcells [])
  have h1 : w1.grownBy (w1.alloc (.cells (tcells []) 162)) none := only_alloc (only_refl _ _) _
  have hs : (w1.alloc (.cells (tcells []) 162)).grownBy ((w1.alloc (.cells (tcells []) 162)).setRow w1.heap.size (tcells l)) (some w1.heap.size) := row_only _ _ _
  refine ⟨hB, blk_row hB _, only_new' (only_trans hg (only_weak h1 (some g))) hs hg.size, (hR.kept h1).grown hs (fun e => by have := hR.lt; injection e with e; omega) (fun j e => ?_), fun fb c x hlt hf => ?_⟩
  · injection e with e
    subst e
    exact ⟨_, _, hB, by decide⟩
  · exact Blk.grown (Blk.kept hf h1) hs (fun e => by injection e with e; omega)

set_option maxRecDepth 100000 in
set_option maxHeartbeats 4000000 in
theorem u_ok {w : World} {g : Nat} {bs : List UInt8} {a bg : Nat} (h : Rdr w g bs a bg) (k : Nat) (hk : Taken (bs.drop a) k) (hb : ¬ Bad ((bs.drop a).take k)) :
    Calls Tryd.prog 76 #[.pointer (some ⟨g, 0, none⟩)] w fun e w' => e = .returned (.tuple #[.int .u64 (num ((bs.drop a).take k) : Int), .nilIface]) ∧ w.grownBy w' (some g) ∧ Rdr w' g bs (a + k) bg := by
  have HT := fun (w1 : World) (h : Rdr w1 g bs a bg) => take_taken h k hk
  obtain ⟨m, hm⟩ : ∃ m, k = m + 1 := ⟨k - 1, by have := hk.pos; omega⟩
  have hml : ((bs.drop a).take k).length = m + 1 := by rw [List.length_take]; have := hk.len; omega
  have hm10 : m < 10 := by have := hk.le; omega
  have HW := isWrong_any ((bs.drop a).take k) m hml hm10 false (by simp [hb])
  have HN := number_any ((bs.drop a).take k) m hml hm10 (sev_of_taken hk hb).2
  clear hk hb hml hm10 hm
  generalize (bs.drop a).take k = l at *
  have HP := place_step h
  go_enter Tryd.func76, Tryd.ntmps76
  go_wp2_with fail
  refine HP.mono ?_
  clear HP
  rintro e w0 ⟨rfl, hg0⟩
  have h0 := h.kept hg0
  have hgl := h.lt
  go_wp2_with fail
  refine (HT _ h0).mono ?_
  rintro e w1 ⟨rfl, hg1, hR1⟩
  obtain ⟨b0, b1, hg2, hR2, _⟩ := u_mid l (only_trans (only_weak hg0 _) hg1) hR1
  clear HT h h0
  go_wp2_with (first | (refine wpList_store_blk (l := l) rfl (.tmp 5) (.tmp 12) rfl rfl rfl b0 ?_) | (refine wpList_load_blk rfl (.tmp 5) rfl rfl b1 ?_))
  refine (HW _).mono ?_
  rintro e w3 ⟨rfl, hg3⟩
  have b3 := b1.kept hg3
  have hg4 := only_trans hg2 (only_weak hg3 (some g))
  have hR3 := hR2.kept hg3
  clear hg2 hR2 b1 hg3
  go_wp2_with (refine wpList_load_blk rfl (.tmp 5) rfl rfl b3 ?_)
  refine (HN _).mono ?_
  rintro e w4 ⟨rfl, hg5⟩
  go_wp2_with fail
  go_ret2
  exact ⟨rfl, only_trans hg4 (only_weak hg5 _), hR3.kept hg5⟩

set_option maxRecDepth 100000 in
set_option maxHeartbeats 4000000 in
theorem u_bad {w : World} {g : Nat} {bs : List UInt8} {a bg : Nat} (h : Rdr w g bs a bg) (k : Nat) (hk : Taken (bs.drop a) k) (hb : Bad ((bs.drop a).take k)) :
    Calls Tryd.prog 76 #[.pointer (some ⟨g, 0, none⟩)] w fun e w' => ∃ fb, e = .returned (.tuple #[.int .u64 0, .iface 91 (.pointer (some ⟨fb, 0, none⟩))]) ∧ Flt w' fb 5 ((bg : Int) + (a : Int)) ∧ w.heap.size ≤ fb ∧ w.grownBy w' (some g) ∧ Rdr w' g bs (a + k) bg := by
  have HT := fun (w1 : World) (h : Rdr w1 g bs a bg) => take_taken h k hk
  obtain ⟨m, hm⟩ : ∃ m, k = m + 1 := ⟨k - 1, by have := hk.pos; omega⟩
  have hml : ((bs.drop a).take k).length = m + 1 := by rw [List.length_take]; have := hk.len; omega
  have hm10 : m < 10 := by have := hk.le; omega
  have HW := isWrong_any ((bs.drop a).take k) m hml hm10 true (by simp [hb])
  clear hk hb hml hm10 hm
  generalize (bs.drop a).take k = l at *
  have HP := place_step h
  generalize hpl : (bg : Int) + (a : Int) = pl at *
  go_enter Tryd.func76, Tryd.ntmps76
  go_wp2_with fail
  refine HP.mono ?_
  clear HP
  rintro e w0 ⟨rfl, hg0⟩
  have h0 := h.kept hg0
  have hgl := h.lt
  go_wp2_with fail
  refine (HT _ h0).mono ?_
  rintro e w1 ⟨rfl, hg1, hR1⟩
  obtain ⟨b0, b1, hg2, hR2, _⟩ := u_mid l (only_trans (only_weak hg0 _) hg1) hR1
  clear HT h h0
  go_wp2_with (first | (refine wpList_store_blk (l := l) rfl (.tmp 5) (.tmp 12) rfl rfl rfl b0 ?_) | (refine wpList_load_blk rfl (.tmp 5) rfl rfl b1 ?_))
  refine (HW _).mono ?_
  rintro e w3 ⟨rfl, hg3⟩
  have hg4 := only_trans hg2 (only_weak hg3 (some g))
  have hR3 := hR2.kept hg3
  clear hg2 hR2 b1 hg3
  go_wp2_with fail
  go_ret2
  exact ⟨w3.heap.size, rfl, Blk.new w3 _ _, hg4.size, only_alloc hg4 _, hR3.kept (only_alloc (only_refl _ _) _)⟩

set_option maxRecDepth 100000 in
set_option maxHeartbeats 4000000 in
theorem u_ends {w : World} {g : Nat} {bs : List UInt8} {a bg : Nat} (h : Rdr w g bs a bg) (hs : Short (bs.drop a)) :
    Calls Tryd.prog 76 #[.pointer (some ⟨g, 0, none⟩)] w fun e w' => ∃ fb, e = .returned (.tuple #[.int .u64 0, .iface 91 (.pointer (some ⟨fb, 0, none⟩))]) ∧ Flt w' fb 3 ((bg : Int) + (bs.length : Int)) ∧ w.heap.size ≤ fb ∧ w.grownBy w' (some g) ∧ Rdr w' g bs bs.length bg := by
  have HT := fun (w1 : World) (h : Rdr w1 g bs a bg) => take_ends h hs
  clear hs
  have HP := place_step h
  go_enter Tryd.func76, Tryd.ntmps76
  go_wp2_with fail
  refine HP.mono ?_
  clear HP
  rintro e w0 ⟨rfl, hg0⟩
  have h0 := h.kept hg0
  have hgl := h.lt
  go_wp2_with fail
  refine (HT _ h0).mono ?_
  rintro e w1 ⟨fb, rfl, hf, hfb, hg1, hR1⟩
  obtain ⟨b0, _, hg2, hR2, hfl⟩ := u_mid [] (only_trans (only_weak hg0 _) hg1) hR1
  have hf2 := hfl _ _ _ hf.lt hf
  have hsz := hg0.size
  have HF := Lib.hid hf2
  clear HT h h0 hf hf2 hfl
  go_wp2_with (refine wpList_store_blk (l := []) rfl (.tmp 5) (.tmp 12) rfl rfl rfl b0 ?_)
  go_ret2
  exact ⟨fb, rfl, HF.out, by omega, hg2, hR2⟩

set_option maxRecDepth 100000 in
set_option maxHeartbeats 4000000 in
theorem u_none (w : World) :
    Calls Tryd.prog 76 #[.pointer none] w fun e w' => ∃ fb, e = .returned (.tuple #[.int .u64 0, .iface 91 (.pointer (some ⟨fb, 0, none⟩))]) ∧ Flt w' fb 1 0 ∧ w.heap.size ≤ fb ∧ w.grownBy w' none := by
  go_enter Tryd.func76, Tryd.ntmps76
  go_wp2_with fail
  refine (place_none _).mono ?_
  rintro e w0 ⟨rfl, rfl⟩
  go_wp2_with fail
  refine (take_nothing _).mono ?_
  rintro e w1 ⟨fb, rfl, hf, hfb, hg1⟩
  have b0 := Blk.new w1 162 (tcells [])
  have h1 : w1.grownBy (w1.alloc (.cells (tcells []) 162)) none := only_alloc (only_refl _ _) _
  have hs : (w1.alloc (.cells (tcells []) 162)).grownBy ((w1.alloc (.cells (tcells []) 162)).setRow w1.heap.size (tcells [])) (some w1.heap.size) := row_only _ _ _
  have hf2 := Blk.grown (Blk.kept hf h1) hs (fun e => by have := hf.lt; injection e with e; omega)
  have hg2 := only_new (only_trans hg1 h1) hs hg1.size
  have HF := Lib.hid hf2
  clear hf hf2
  go_wp2_with (refine wpList_store_blk (l := []) rfl (.tmp 5) (.tmp 12) rfl rfl rfl b0 ?_)
  go_ret2
  exact ⟨fb, rfl, HF.out, hfb, hg2⟩
end Go.Proofs.YtmbdaenjeeklfaaDoor

/- leb: S and Small of a reader; and U, S and Small at a state: what each answers, and the state behind it. -/
namespace Go.Proofs.YtmbdaenjeeklfaaDoor
open Go.RowKit

/-- A fault beside the number 0 of the kind k. -/
def FaultBeside (k : IntKind) (R : Nat → World → Prop) (e : Ending) (w' : World) : Prop :=
  ∃ fb, e = .returned (.tuple #[.int k 0, .iface 91 (.pointer (some ⟨fb, 0, none⟩))]) ∧ R fb w'

set_option maxHeartbeats 400000 in
/-- S hands on what U could not take. -/
theorem s_fault {p : Value} {w : World} {R : Nat → World → Prop} (HU : Calls Tryd.prog 76 #[p] w (FaultBeside .u64 R)) :
    Calls Tryd.prog 61 #[p] w (FaultBeside .i64 R) := by
  go_enter Tryd.func61, Tryd.ntmps61
  go_wp2_with fail
  refine HU.mono ?_
  rintro e w1 ⟨fb, rfl, hr⟩
  go_wp2_with fail
  go_ret2
  exact ⟨fb, rfl, hr⟩

set_option maxHeartbeats 400000 in
theorem s_ok {w : World} {g : Nat} {bs : List UInt8} {a bg : Nat} (h : Rdr w g bs a bg) (k : Nat) (hk : Taken (bs.drop a) k) (hb : ¬ Bad ((bs.drop a).take k)) :
    Calls Tryd.prog 61 #[.pointer (some ⟨g, 0, none⟩)] w fun e w' => e = .returned (.tuple #[.int .i64 (unfoldZ (num ((bs.drop a).take k))), .nilIface]) ∧ w.grownBy w' (some g) ∧ Rdr w' g bs (a + k) bg := by
  have HU := u_ok h k hk hb
  have HF := unfold_any (num ((bs.drop a).take k)) (sev_of_taken hk hb).2
  clear hk hb
  generalize num ((bs.drop a).take k) = n at *
  go_enter Tryd.func61, Tryd.ntmps61
  go_wp2_with fail
  refine HU.mono ?_
  rintro e w1 ⟨rfl, hg, hr⟩
  go_wp2_with fail
  refine (HF _).mono ?_
  rintro e w2 ⟨rfl, hg2⟩
  go_wp2_with fail
  go_ret2
  exact ⟨rfl, only_trans hg (only_weak hg2 _), hr.kept hg2⟩

set_option maxHeartbeats 400000 in
/-- Small hands on what U could not take. -/
theorem small_fault {p : Value} {most pl : Int} {w : World} {R : Nat → World → Prop} (HP : Calls Tryd.prog 25 #[p] w fun e w' => e = .returned (.int .i64 pl) ∧ w.grownBy w' none)
    (HU : ∀ w1, w.grownBy w1 none → Calls Tryd.prog 76 #[p] w1 (FaultBeside .u64 R)) :
    Calls Tryd.prog 62 #[p, .int .i64 most] w (FaultBeside .i64 R) := by
  go_enter Tryd.func62, Tryd.ntmps62
  go_wp2_with fail
  refine HP.mono ?_
  rintro e w0 ⟨rfl, hg0⟩
  go_wp2_with fail
  refine (HU _ hg0).mono ?_
  rintro e w1 ⟨fb, rfl, hr⟩
  go_wp2_with fail
  go_ret2
  exact ⟨fb, rfl, hr⟩

set_option maxHeartbeats 1000000 in
theorem small_ok {w : World} {g : Nat} {bs : List UInt8} {a bg : Nat} (h : Rdr w g bs a bg) (k : Nat) (hk : Taken (bs.drop a) k) (hb : ¬ Bad ((bs.drop a).take k)) (most : Int) (hw : Whole most) (hm : (num ((bs.drop a).take k) : Int) ≤ most) :
    Calls Tryd.prog 62 #[.pointer (some ⟨g, 0, none⟩), .int .i64 most] w fun e w' => e = .returned (.tuple #[.int .i64 (num ((bs.drop a).take k) : Int), .nilIface]) ∧ w.grownBy w' (some g) ∧ Rdr w' g bs (a + k) bg := by
  have HU := fun (w1 : World) (h : Rdr w1 g bs a bg) => u_ok h k hk hb
  have HP := place_step h
  clear hk hb
  have h0 : (0 : Int) ≤ (num ((bs.drop a).take k) : Int) := by omega
  obtain ⟨hw1, hw2⟩ := hw
  generalize (num ((bs.drop a).take k) : Int) = n at *
  go_enter Tryd.func62, Tryd.ntmps62
  go_wp2_with fail
  refine HP.mono ?_
  rintro e w0 ⟨rfl, hg0⟩
  go_wp2_with fail
  refine (HU _ (h.kept hg0)).mono ?_
  rintro e w1 ⟨rfl, hg, hr⟩
  go_wp2_with fail
  go_ret2
  exact ⟨rfl, only_trans (only_weak hg0 _) hg, hr⟩

set_option maxHeartbeats 1000000 in
theorem small_long {w : World} {g : Nat} {bs : List UInt8} {a bg : Nat} (h : Rdr w g bs a bg) (k : Nat) (hk : Taken (bs.drop a) k) (hb : ¬ Bad ((bs.drop a).take k)) (most : Int) (hw : Whole most) (hm : most < (num ((bs.drop a).take k) : Int)) :
    Calls Tryd.prog 62 #[.pointer (some ⟨g, 0, none⟩), .int .i64 most] w (FaultBeside .i64 fun fb w' => Flt w' fb 4 ((bg : Int) + (a : Int)) ∧ w.heap.size ≤ fb ∧ w.grownBy w' (some g) ∧ Rdr w' g bs (a + k) bg) := by
  have HU := fun (w1 : World) (h : Rdr w1 g bs a bg) => u_ok h k hk hb
  have HP := place_step h
  have hn := (sev_of_taken hk hb).2
  clear hk hb
  have h0 : (0 : Int) ≤ (num ((bs.drop a).take k) : Int) := by omega
  have h1 : (num ((bs.drop a).take k) : Int) < 18446744073709551616 := by omega
  clear hn
  obtain ⟨hw1, hw2⟩ := hw
  generalize (num ((bs.drop a).take k) : Int) = n at *
  generalize hpl : (bg : Int) + (a : Int) = pl at *
  by_cases hm0 : most < 0
  · go_enter Tryd.func62, Tryd.ntmps62
    go_wp2_with fail
    refine HP.mono ?_
    rintro e w0 ⟨rfl, hg0⟩
    go_wp2_with fail
    refine (HU _ (h.kept hg0)).mono ?_
    rintro e w1 ⟨rfl, hg, hr⟩
    have hg4 := only_trans (only_weak hg0 (some g)) hg
    go_wp2_with fail
    go_ret2
    exact ⟨w1.heap.size, rfl, Blk.new w1 _ _, hg4.size, only_alloc hg4 _, hr.kept (only_alloc (only_refl _ _) _)⟩
  · have hm1 : 0 ≤ most := by omega
    go_enter Tryd.func62, Tryd.ntmps62
    go_wp2_with fail
    refine HP.mono ?_
    rintro e w0 ⟨rfl, hg0⟩
    go_wp2_with fail
    refine (HU _ (h.kept hg0)).mono ?_
    rintro e w1 ⟨rfl, hg, hr⟩
    have hg4 := only_trans (only_weak hg0 (some g)) hg
    go_wp2_with fail
    go_ret2
    exact ⟨w1.heap.size, rfl, Blk.new w1 _ _, hg4.size, only_alloc hg4 _, hr.kept (only_alloc (only_refl _ _) _)⟩

/-! ### AT A STATE -/
theorem St.moveFault {w0 w w' : World} {rs : List RD} {fs : List FD} {g at_ at' bg fb : Nat} {bs : List UInt8} {c x : Int} (h : St w0 w (⟨g, bs, at_, bg⟩ :: rs) fs) (hg : w.grownBy w' (some g)) (hr : Rdr w' g bs at' bg) (hf : Flt w' fb c x) :
    St w0 w' (⟨g, bs, at', bg⟩ :: rs) (⟨fb, c, x⟩ :: fs) := by
  have h' := h.move hg hr
  exact h'.fault (only_refl _ _) hf

section
variable {w0 w : World} {rs : List RD} {fs : List FD} {g a bg : Nat} {bs : List UInt8}
theorem u_st_ok (s : St w0 w (⟨g, bs, a, bg⟩ :: rs) fs) (k n : Nat) (hk : Taken (bs.drop a) k) (hb : ¬ Bad ((bs.drop a).take k)) (hn : num ((bs.drop a).take k) = n) :
    Calls Tryd.prog 76 #[.pointer (some ⟨g, 0, none⟩)] w fun e w' => e = .returned (.tuple #[.int .u64 (n : Int), .nilIface]) ∧ St w0 w' (⟨g, bs, a + k, bg⟩ :: rs) fs := by
  subst hn
  exact (u_ok s.head k hk hb).mono fun _ _ ⟨h1, h2, h3⟩ => ⟨h1, s.move h2 h3⟩
theorem u_st_bad (s : St w0 w (⟨g, bs, a, bg⟩ :: rs) fs) (k : Nat) (p : Int) (hk : Taken (bs.drop a) k) (hb : Bad ((bs.drop a).take k)) (hp : (bg : Int) + (a : Int) = p) :
    Calls Tryd.prog 76 #[.pointer (some ⟨g, 0, none⟩)] w (FaultBeside .u64 fun fb w' => St w0 w' (⟨g, bs, a + k, bg⟩ :: rs) (⟨fb, 5, p⟩ :: fs)) := by
  subst hp
  exact (u_bad s.head k hk hb).mono fun _ _ ⟨fb, h1, h2, _, h4, h5⟩ => ⟨fb, h1, s.moveFault h4 h5 h2⟩
theorem u_st_ends (s : St w0 w (⟨g, bs, a, bg⟩ :: rs) fs) (p : Int) (hs : Short (bs.drop a)) (hp : (bg : Int) + (bs.length : Int) = p) :
    Calls Tryd.prog 76 #[.pointer (some ⟨g, 0, none⟩)] w (FaultBeside .u64 fun fb w' => St w0 w' (⟨g, bs, bs.length, bg⟩ :: rs) (⟨fb, 3, p⟩ :: fs)) := by
  subst hp
  exact (u_ends s.head hs).mono fun _ _ ⟨fb, h1, h2, _, h4, h5⟩ => ⟨fb, h1, s.moveFault h4 h5 h2⟩
theorem s_st_ok (s : St w0 w (⟨g, bs, a, bg⟩ :: rs) fs) (k : Nat) (z : Int) (hk : Taken (bs.drop a) k) (hb : ¬ Bad ((bs.drop a).take k)) (hn : unfoldZ (num ((bs.drop a).take k)) = z) :
    Calls Tryd.prog 61 #[.pointer (some ⟨g, 0, none⟩)] w fun e w' => e = .returned (.tuple #[.int .i64 z, .nilIface]) ∧ St w0 w' (⟨g, bs, a + k, bg⟩ :: rs) fs := by
  subst hn
  exact (s_ok s.head k hk hb).mono fun _ _ ⟨h1, h2, h3⟩ => ⟨h1, s.move h2 h3⟩
theorem s_st_bad (s : St w0 w (⟨g, bs, a, bg⟩ :: rs) fs) (k : Nat) (p : Int) (hk : Taken (bs.drop a) k) (hb : Bad ((bs.drop a).take k)) (hp : (bg : Int) + (a : Int) = p) :
    Calls Tryd.prog 61 #[.pointer (some ⟨g, 0, none⟩)] w (FaultBeside .i64 fun fb w' => St w0 w' (⟨g, bs, a + k, bg⟩ :: rs) (⟨fb, 5, p⟩ :: fs)) :=
  s_fault (u_st_bad s k p hk hb hp)
theorem s_st_ends (s : St w0 w (⟨g, bs, a, bg⟩ :: rs) fs) (p : Int) (hs : Short (bs.drop a)) (hp : (bg : Int) + (bs.length : Int) = p) :
    Calls Tryd.prog 61 #[.pointer (some ⟨g, 0, none⟩)] w (FaultBeside .i64 fun fb w' => St w0 w' (⟨g, bs, bs.length, bg⟩ :: rs) (⟨fb, 3, p⟩ :: fs)) :=
  s_fault (u_st_ends s p hs hp)
theorem small_st_ok (s : St w0 w (⟨g, bs, a, bg⟩ :: rs) fs) (k n : Nat) (most : Int) (hw : Whole most) (hk : Taken (bs.drop a) k) (hb : ¬ Bad ((bs.drop a).take k)) (hn : num ((bs.drop a).take k) = n) (hm : (n : Int) ≤ most) :
    Calls Tryd.prog 62 #[.pointer (some ⟨g, 0, none⟩), .int .i64 most] w fun e w' => e = .returned (.tuple #[.int .i64 (n : Int), .nilIface]) ∧ St w0 w' (⟨g, bs, a + k, bg⟩ :: rs) fs := by
  subst hn
  exact (small_ok s.head k hk hb most hw hm).mono fun _ _ ⟨h1, h2, h3⟩ => ⟨h1, s.move h2 h3⟩
theorem small_st_long (s : St w0 w (⟨g, bs, a, bg⟩ :: rs) fs) (k n : Nat) (most p : Int) (hw : Whole most) (hk : Taken (bs.drop a) k) (hb : ¬ Bad ((bs.drop a).take k)) (hn : num ((bs.drop a).take k) = n) (hm : most < (n : Int)) (hp : (bg : Int) + (a : Int) = p) :
    Calls Tryd.prog 62 #[.pointer (some ⟨g, 0, none⟩), .int .i64 most] w (FaultBeside .i64 fun fb w' => St w0 w' (⟨g, bs, a + k, bg⟩ :: rs) (⟨fb, 4, p⟩ :: fs)) := by
  subst hn hp
  exact (small_long s.head k hk hb most hw hm).mono fun _ _ ⟨fb, h1, h2, _, h4, h5⟩ => ⟨fb, h1, s.moveFault h4 h5 h2⟩
theorem small_st_bad (s : St w0 w (⟨g, bs, a, bg⟩ :: rs) fs) (k : Nat) (most p : Int) (hk : Taken (bs.drop a) k) (hb : Bad ((bs.drop a).take k)) (hp : (bg : Int) + (a : Int) = p) :
    Calls Tryd.prog 62 #[.pointer (some ⟨g, 0, none⟩), .int .i64 most] w (FaultBeside .i64 fun fb w' => St w0 w' (⟨g, bs, a + k, bg⟩ :: rs) (⟨fb, 5, p⟩ :: fs)) :=
  small_fault (place_step s.head) fun _ hg => u_st_bad (s.none_ hg) k p hk hb hp
theorem small_st_ends (s : St w0 w (⟨g, bs, a, bg⟩ :: rs) fs) (most p : Int) (hs : Short (bs.drop a)) (hp : (bg : Int) + (bs.length : Int) = p) :
    Calls Tryd.prog 62 #[.pointer (some ⟨g, 0, none⟩), .int .i64 most] w (FaultBeside .i64 fun fb w' => St w0 w' (⟨g, bs, bs.length, bg⟩ :: rs) (⟨fb, 3, p⟩ :: fs)) :=
  small_fault (place_step s.head) fun _ hg => u_st_ends (s.none_ hg) p hs hp
theorem s_st_none (s : St w0 w rs fs) :
    Calls Tryd.prog 61 #[.pointer none] w (FaultBeside .i64 fun fb w' => St w0 w' rs (⟨fb, 1, 0⟩ :: fs)) :=
  s_fault ((u_none w).mono fun _ _ ⟨fb, h1, h2, _, h4⟩ => ⟨fb, h1, s.fault h4 h2⟩)
end
end Go.Proofs.YtmbdaenjeeklfaaDoor

/- leb: a number is read from the bytes that were laid for it; works: some numbers, there and back. -/
namespace Go.Proofs.YtmbdaenjeeklfaaDoor
open Go.RowKit

theorem taken_laid {l rest : List UInt8} {n : Nat} (hn : n < 18446744073709551616) (he : l = sev n ++ rest) : Taken l (sev n).length ∧ ¬ Bad (l.take (sev n).length) ∧ num (l.take (sev n).length) = n := by
  subst he
  rw [List.take_left]
  exact ⟨taken_sev hn rest, good_sev hn, num_sev n⟩
section
variable {w0 w : World} {rs : List RD} {fs : List FD} {g a bg : Nat} {bs rest : List UInt8}
theorem u_laid (s : St w0 w (⟨g, bs, a, bg⟩ :: rs) fs) (n b : Nat) (hn : n < 18446744073709551616) (he : bs.drop a = sev n ++ rest) (hb : a + (sev n).length = b) :
    Calls Tryd.prog 76 #[.pointer (some ⟨g, 0, none⟩)] w fun e w' => e = .returned (.tuple #[.int .u64 (n : Int), .nilIface]) ∧ St w0 w' (⟨g, bs, b, bg⟩ :: rs) fs := by
  obtain ⟨h1, h2, h3⟩ := taken_laid hn he
  subst hb
  exact u_st_ok s _ n h1 h2 h3
theorem s_laid (s : St w0 w (⟨g, bs, a, bg⟩ :: rs) fs) (z : Int) (b : Nat) (hz : Whole z) (he : bs.drop a = sev (foldN z) ++ rest) (hb : a + (sev (foldN z)).length = b) :
    Calls Tryd.prog 61 #[.pointer (some ⟨g, 0, none⟩)] w fun e w' => e = .returned (.tuple #[.int .i64 z, .nilIface]) ∧ St w0 w' (⟨g, bs, b, bg⟩ :: rs) fs := by
  obtain ⟨h1, h2, h3⟩ := taken_laid (foldN_lt hz) he
  subst hb
  exact s_st_ok s _ z h1 h2 (by rw [h3]; exact unfold_fold)
theorem small_laid (s : St w0 w (⟨g, bs, a, bg⟩ :: rs) fs) (n b : Nat) (most : Int) (hn : n < 18446744073709551616) (hw : Whole most) (hm : (n : Int) ≤ most) (he : bs.drop a = sev n ++ rest) (hb : a + (sev n).length = b) :
    Calls Tryd.prog 62 #[.pointer (some ⟨g, 0, none⟩), .int .i64 most] w fun e w' => e = .returned (.tuple #[.int .i64 (n : Int), .nilIface]) ∧ St w0 w' (⟨g, bs, b, bg⟩ :: rs) fs := by
  obtain ⟨h1, h2, h3⟩ := taken_laid hn he
  subst hb
  exact small_st_ok s _ n most hw h1 h2 h3 hm
theorem small_above (s : St w0 w (⟨g, bs, a, bg⟩ :: rs) fs) (n b : Nat) (most p : Int) (hn : n < 18446744073709551616) (hw : Whole most) (hm : most < (n : Int)) (he : bs.drop a = sev n ++ rest) (hb : a + (sev n).length = b) (hp : (bg : Int) + (a : Int) = p) :
    Calls Tryd.prog 62 #[.pointer (some ⟨g, 0, none⟩), .int .i64 most] w (FaultBeside .i64 fun fb w' => St w0 w' (⟨g, bs, b, bg⟩ :: rs) (⟨fb, 4, p⟩ :: fs)) := by
  obtain ⟨h1, h2, h3⟩ := taken_laid hn he
  subst hb
  exact small_st_long s _ n most p hw h1 h2 h3 hm hp
theorem told_st {fb : Nat} {c x : Int} (s : St w0 w rs (⟨fb, c, x⟩ :: fs)) (hc : (c == 0) = false) :
    Calls Tryd.prog 24 #[.iface 91 (.pointer (some ⟨fb, 0, none⟩)), .agg #[.int .i64 c, .int .i64 x]] w fun e w' => e = .returned (.bool true) ∧ St w0 w' rs fs :=
  (told_hit fb c x w s.err (s.flt ⟨fb, c, x⟩ (List.mem_cons_self)) hc).mono fun _ _ ⟨h1, h2⟩ => ⟨h1, by
    have h := s.none_ h2
    exact ⟨h.err, h.err0, h.step, h.rdr, h.apart, fun f hf => h.flt f (List.mem_cons_of_mem _ hf)⟩⟩
theorem reader_st (s : St w0 w rs fs) (t : ByteArray) (ht : t.size ≤ 4611686018427387904) :
    Calls Tryd.prog 20 #[.string t] w fun e w' => ∃ g, e = .returned (.pointer (some ⟨g, 0, none⟩)) ∧ St w0 w' (⟨g, t.data.toList, 0, 0⟩ :: rs) fs :=
  (newReader_any t w ht).mono fun _ _ ⟨g, h1, h2, h3, h4⟩ => ⟨g, h1, s.new h2 h3 h4⟩
end

theorem foldN_eq (z : Int) (n : Nat) (h : 0 ≤ z ∧ 2 * z.toNat = n ∨ z < 0 ∧ 2 * (-z).toNat - 1 = n) : foldN z = n := by
  unfold foldN
  rcases h with ⟨h, e⟩ | ⟨h, e⟩
  · rw [if_pos h, e]
  · rw [if_neg (by omega), e]
theorem sev_128 : sev 128 = [128, 1] := by rw [sev_ge (by omega), sev_lt (by omega)]; rfl
theorem sev_3 : sev (foldN (-2)) = [3] := by rw [foldN_eq (-2) 3 (by decide), sev_lt (by omega)]; rfl
theorem sev_4 : sev (foldN 2) = [4] := by rw [foldN_eq 2 4 (by decide), sev_lt (by omega)]; rfl
theorem sev_5 : sev 5 = [5] := by rw [sev_lt (by omega)]; rfl

end Go.Proofs.YtmbdaenjeeklfaaDoor

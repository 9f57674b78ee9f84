/- leb: bytes end before the number does; a reader that is none: what take answers, and what it leaves. -/
import Derived.Test.YtmbdaenjeeklfaaDoorLebT
namespace Go.Proofs.YtmbdaenjeeklfaaDoor
open Go.RowKit

set_option maxRecDepth 100000 in
set_option maxHeartbeats 4000000 in
theorem take_ends {w : World} {g : Nat} {bs : List UInt8} {a bg : Nat} (h : Rdr w g bs a bg) (hs : Short (bs.drop a)) :
    Calls Tryd.prog 85 #[.pointer (some ⟨g, 0, none⟩)] w fun e w' => ∃ fb, e = .returned (.tuple #[tval [], .iface 91 (.pointer (some ⟨fb, 0, none⟩))]) ∧ Flt w' fb 3 ((bg : Int) + (bs.length : Int)) ∧ w.heap.size ≤ fb ∧ w.grownBy w' (some g) ∧ Rdr w' g bs bs.length bg := by
  have H0 := Lib.hid (ti_start h)
  have hal := h.le
  have hdl : (bs.drop a).length = bs.length - a := by simp
  go_enter Tryd.func85, Tryd.ntmps85
  go_wp2_with fail
  go_loopw [5] (fun _ wr => ∃ c, c ≤ (bs.drop a).length ∧ TI w g bs a bg c wr) (fun _ wr => toCome (wr.cell? ⟨w.heap.size + 1, 10, none⟩))
  case atStart => exact ⟨0, by omega, H0.out⟩
  case round =>
    obtain ⟨c, hck, hR, hg, hB, hB0⟩ := hrel
    have hgl := h.lt
    have hlen : ((bs.drop a).take c).length = c := by rw [List.length_take]; omega
    have hbs : c < (bs.drop a).length → ∃ u, (bs.drop a)[c]? = some u ∧ bs[a + c]? = some u ∧ (bs.drop a).take (c + 1) = (bs.drop a).take c ++ [u] := fun h1 => by
      refine ⟨(bs.drop a)[c], List.getElem?_eq_getElem h1, ?_, ?_⟩
      · rw [← List.getElem?_drop]; exact List.getElem?_eq_getElem h1
      · exact List.take_succ_eq_append_getElem h1
    have hcl : c < 10 := by have := hs.1; omega
    have hcl' : (c : Int) < 10 := by omega
    have HS := Lib.hid hs
    clear hs H0 h
    generalize hl : (bs.drop a).take c = l at *
    have k10 : wr.cell? ⟨w.heap.size + 1, 10, none⟩ = some (.int .i64 (c : Int)) := by rw [← hlen]; exact hB.cell 10
    by_cases hlt : c < (bs.drop a).length
    · obtain ⟨u, hu, hu2, hsn⟩ := hbs hlt
      have hhigh : 128 ≤ (u.toNat : Int) := by have := HS.out.2 c u hu; omega
      have HSN := Lib.hid hsn
      clear hbs hsn hu
      have H1 := byte_ok hR u hu2
      clear hu2
      go_wp2_with fail
      refine H1.mono ?_
      clear H1
      rintro e w1 ⟨rfl, hg1, hR1⟩
      have hB1 := hB.grown hg1 (fun e => by injection e with e; omega)
      have hB01 := hB0.grown hg1 (fun e => by injection e with e; omega)
      have hgw := only_trans hg hg1
      have q10 : w1.cell? ⟨w.heap.size + 1, 10, none⟩ = some (.int .i64 (c : Int)) := by rw [← hlen]; exact hB1.cell 10
      have qc : w1.cell? ⟨w.heap.size + 1, c, none⟩ = some (.int .u8 (tb l c)) := by rw [hB1.cell c]; exact tcells_at l hcl
      have fc := hB1.frozen c
      have f10 := hB1.frozen 10
      obtain ⟨n1, n2, n3, n4⟩ := ti_next (u := u) hgl hR1 hgw hB1 hB01 hlen hcl
      go_wp2_with fail
      go_roundw
      case rel => exact ⟨c + 1, by omega, n1, n2, by rw [HSN.out]; exact n3, n4⟩
      case measure =>
        have h5 := n3.cell 10
        rw [h5]
        simp [toCome, tcells, hlen, k10]; omega
    · have hend : a + c = bs.length := by omega
      have H1 := byte_short hR hend
      have hpl : (bg : Int) + ((a + c : Nat) : Int) = (bg : Int) + (bs.length : Int) := by omega
      rw [hpl] at H1
      rw [hend] at hR
      clear hbs hend hpl hck hlt
      go_wp2_with fail
      refine H1.mono ?_
      clear H1
      rintro e w1 ⟨fb, rfl, hf, hfb, hg1⟩
      have hB01 := hB0.kept hg1
      have hR1 := hR.kept hg1
      have hgw := only_trans hg (only_weak hg1 (some g))
      have hne : w.heap.size ≠ fb := by have := hB0.lt; omega
      obtain ⟨h1, h2, h3⟩ := ti_end hgl hR1 hgw hB01 (tcells [])
      have hf2 : Flt (w1.setRow w.heap.size (tcells [])) fb 3 ((bg : Int) + (bs.length : Int)) := Blk.grown hf (row_only w1 _ _) (fun e => hne (by injection e with e; omega))
      have hsz := hg.size
      have HF := Lib.hid hf2
      clear hf hf2
      go_wp2_with (first | (refine wpList_store_blk (l := []) rfl (.tmp 2) (.tmp 17) rfl rfl rfl hB01 ?_))
      refine bodyPost_ret (take_results rfl rfl h1) rfl ⟨fb, rfl, HF.out, by omega, h2, h3⟩

set_option maxRecDepth 100000 in
set_option maxHeartbeats 4000000 in
theorem take_nothing (w : World) :
    Calls Tryd.prog 85 #[.pointer none] w fun e w' => ∃ fb, e = .returned (.tuple #[tval [], .iface 91 (.pointer (some ⟨fb, 0, none⟩))]) ∧ Flt w' fb 1 0 ∧ w.heap.size ≤ fb ∧ w.grownBy w' none := by
  have hB := Blk.new (w.alloc (.cells (tcells []) 162)) 162 (tcells [])
  rw [show (w.alloc (.cells (tcells []) 162)).heap.size = w.heap.size + 1 by simp] at hB
  have hB0 := (Blk.new w 162 (tcells [])).alloc (.cells (tcells []) 162)
  have hg : w.grownBy ((w.alloc (.cells (tcells []) 162)).alloc (.cells (tcells []) 162)) none := only_alloc (only_alloc (only_refl _ _) _) _
  have hz : ((w.alloc (.cells (tcells []) 162)).alloc (.cells (tcells []) 162)).heap.size = w.heap.size + 2 := by simp
  go_enter Tryd.func85, Tryd.ntmps85
  go_wp2_with fail
  refine wp_loop_rounds 1 ?_
  rw [rounds_succ]
  have H1 := byte_none ((w.alloc (.cells (tcells []) 162)).alloc (.cells (tcells []) 162))
  go_wp2_with fail
  refine H1.mono ?_
  clear H1
  rintro e w1 ⟨fb, rfl, hf, hfb, hg1⟩
  have hB01 := hB0.kept hg1
  have hgw := only_trans hg hg1
  have hne : w.heap.size ≠ fb := by omega
  have h1 := blk_row hB01 (tcells [])
  have h2 := only_new hgw (row_only w1 _ (tcells [])) (Nat.le_refl _)
  have hf2 : Flt (w1.setRow w.heap.size (tcells [])) fb 1 0 := Blk.grown hf (row_only w1 _ _) (fun e => hne (by injection e with e; omega))
  have HF := Lib.hid hf2
  clear hf hf2
  go_wp2_with (first | (refine wpList_store_blk (l := []) rfl (.tmp 2) (.tmp 17) rfl rfl rfl hB01 ?_))
  refine bodyPost_ret (take_results rfl rfl h1) rfl ⟨fb, rfl, HF.out, by omega, h2⟩
end Go.Proofs.YtmbdaenjeeklfaaDoor

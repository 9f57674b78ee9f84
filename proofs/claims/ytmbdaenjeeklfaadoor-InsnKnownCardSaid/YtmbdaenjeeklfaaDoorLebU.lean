/- leb: U of a reader: what it answers, and what it leaves. -/
import Derived.Test.YtmbdaenjeeklfaaDoorLebM
namespace Go.Proofs.YtmbdaenjeeklfaaDoor
open Go.RowKit

theorem u_mid {w w1 : World} {g A bg : Nat} {bs : List UInt8} (l : List UInt8) (hg : w.grownBy w1 (some g)) (hR : Rdr w1 g bs A bg) :
    Blk (w1.alloc (.cells (tcells []) 162)) w1.heap.size 162 (tcells []) ∧
    Blk ((w1.alloc (.cells (tcells []) 162)).setRow w1.heap.size (tcells l)) w1.heap.size 162 (tcells l) ∧
    w.grownBy ((w1.alloc (.cells (tcells []) 162)).setRow w1.heap.size (tcells l)) (some g) ∧
    Rdr ((w1.alloc (.cells (tcells []) 162)).setRow w1.heap.size (tcells l)) g bs A bg ∧
    (∀ fb c x, fb < w1.heap.size → Flt w1 fb c x → Flt ((w1.alloc (.cells (tcells []) 162)).setRow w1.heap.size (tcells l)) fb c x) := by
  have hB := Blk.new w1 162 (tcells [])
  have h1 : w1.grownBy (w1.alloc (.cells (tcells []) 162)) none := only_alloc (only_refl _ _) _
  have hs : (w1.alloc (.cells (tcells []) 162)).grownBy ((w1.alloc (.cells (tcells []) 162)).setRow w1.heap.size (tcells l)) (some w1.heap.size) := row_only _ _ _
  refine ⟨hB, blk_row hB _, only_new' (only_trans hg (only_weak h1 (some g))) hs hg.size, (hR.kept h1).grown hs (fun e => by have := hR.lt; injection e with e; omega) (fun j e => ?_), fun fb c x hlt hf => ?_⟩
  · injection e with e
    subst e
    exact ⟨_, _, hB, by decide⟩
  · exact Blk.grown (Blk.kept hf h1) hs (fun e => by injection e with e; omega)

set_option maxRecDepth 100000 in
set_option maxHeartbeats 4000000 in
theorem u_ok {w : World} {g : Nat} {bs : List UInt8} {a bg : Nat} (h : Rdr w g bs a bg) (k : Nat) (hk : Taken (bs.drop a) k) (hb : ¬ Bad ((bs.drop a).take k)) :
    Calls Tryd.prog 76 #[.pointer (some ⟨g, 0, none⟩)] w fun e w' => e = .returned (.tuple #[.int .u64 (num ((bs.drop a).take k) : Int), .nilIface]) ∧ w.grownBy w' (some g) ∧ Rdr w' g bs (a + k) bg := by
  have HT := fun (w1 : World) (h : Rdr w1 g bs a bg) => take_taken h k hk
  obtain ⟨m, hm⟩ : ∃ m, k = m + 1 := ⟨k - 1, by have := hk.pos; omega⟩
  have hml : ((bs.drop a).take k).length = m + 1 := by rw [List.length_take]; have := hk.len; omega
  have hm10 : m < 10 := by have := hk.le; omega
  have HW := isWrong_any ((bs.drop a).take k) m hml hm10 false (by simp [hb])
  have HN := number_any ((bs.drop a).take k) m hml hm10 (sev_of_taken hk hb).2
  clear hk hb hml hm10 hm
  generalize (bs.drop a).take k = l at *
  have HP := place_step h
  go_enter Tryd.func76, Tryd.ntmps76
  go_wp2_with fail
  refine HP.mono ?_
  clear HP
  rintro e w0 ⟨rfl, hg0⟩
  have h0 := h.kept hg0
  have hgl := h.lt
  go_wp2_with fail
  refine (HT _ h0).mono ?_
  rintro e w1 ⟨rfl, hg1, hR1⟩
  obtain ⟨b0, b1, hg2, hR2, _⟩ := u_mid l (only_trans (only_weak hg0 _) hg1) hR1
  clear HT h h0
  go_wp2_with (first | (refine wpList_store_blk (l := l) rfl (.tmp 5) (.tmp 12) rfl rfl rfl b0 ?_) | (refine wpList_load_blk rfl (.tmp 5) rfl rfl b1 ?_))
  refine (HW _).mono ?_
  rintro e w3 ⟨rfl, hg3⟩
  have b3 := b1.kept hg3
  have hg4 := only_trans hg2 (only_weak hg3 (some g))
  have hR3 := hR2.kept hg3
  clear hg2 hR2 b1 hg3
  go_wp2_with (refine wpList_load_blk rfl (.tmp 5) rfl rfl b3 ?_)
  refine (HN _).mono ?_
  rintro e w4 ⟨rfl, hg5⟩
  go_wp2_with fail
  go_ret2
  exact ⟨rfl, only_trans hg4 (only_weak hg5 _), hR3.kept hg5⟩

set_option maxRecDepth 100000 in
set_option maxHeartbeats 4000000 in
theorem u_bad {w : World} {g : Nat} {bs : List UInt8} {a bg : Nat} (h : Rdr w g bs a bg) (k : Nat) (hk : Taken (bs.drop a) k) (hb : Bad ((bs.drop a).take k)) :
    Calls Tryd.prog 76 #[.pointer (some ⟨g, 0, none⟩)] w fun e w' => ∃ fb, e = .returned (.tuple #[.int .u64 0, .iface 91 (.pointer (some ⟨fb, 0, none⟩))]) ∧ Flt w' fb 5 ((bg : Int) + (a : Int)) ∧ w.heap.size ≤ fb ∧ w.grownBy w' (some g) ∧ Rdr w' g bs (a + k) bg := by
  have HT := fun (w1 : World) (h : Rdr w1 g bs a bg) => take_taken h k hk
  obtain ⟨m, hm⟩ : ∃ m, k = m + 1 := ⟨k - 1, by have := hk.pos; omega⟩
  have hml : ((bs.drop a).take k).length = m + 1 := by rw [List.length_take]; have := hk.len; omega
  have hm10 : m < 10 := by have := hk.le; omega
  have HW := isWrong_any ((bs.drop a).take k) m hml hm10 true (by simp [hb])
  clear hk hb hml hm10 hm
  generalize (bs.drop a).take k = l at *
  have HP := place_step h
  generalize hpl : (bg : Int) + (a : Int) = pl at *
  go_enter Tryd.func76, Tryd.ntmps76
  go_wp2_with fail
  refine HP.mono ?_
  clear HP
  rintro e w0 ⟨rfl, hg0⟩
  have h0 := h.kept hg0
  have hgl := h.lt
  go_wp2_with fail
  refine (HT _ h0).mono ?_
  rintro e w1 ⟨rfl, hg1, hR1⟩
  obtain ⟨b0, b1, hg2, hR2, _⟩ := u_mid l (only_trans (only_weak hg0 _) hg1) hR1
  clear HT h h0
  go_wp2_with (first | (refine wpList_store_blk (l := l) rfl (.tmp 5) (.tmp 12) rfl rfl rfl b0 ?_) | (refine wpList_load_blk rfl (.tmp 5) rfl rfl b1 ?_))
  refine (HW _).mono ?_
  rintro e w3 ⟨rfl, hg3⟩
  have hg4 := only_trans hg2 (only_weak hg3 (some g))
  have hR3 := hR2.kept hg3
  clear hg2 hR2 b1 hg3
  go_wp2_with fail
  go_ret2
  exact ⟨w3.heap.size, rfl, Blk.new w3 _ _, hg4.size, only_alloc hg4 _, hR3.kept (only_alloc (only_refl _ _) _)⟩

set_option maxRecDepth 100000 in
set_option maxHeartbeats 4000000 in
theorem u_ends {w : World} {g : Nat} {bs : List UInt8} {a bg : Nat} (h : Rdr w g bs a bg) (hs : Short (bs.drop a)) :
    Calls Tryd.prog 76 #[.pointer (some ⟨g, 0, none⟩)] w fun e w' => ∃ fb, e = .returned (.tuple #[.int .u64 0, .iface 91 (.pointer (some ⟨fb, 0, none⟩))]) ∧ Flt w' fb 3 ((bg : Int) + (bs.length : Int)) ∧ w.heap.size ≤ fb ∧ w.grownBy w' (some g) ∧ Rdr w' g bs bs.length bg := by
  have HT := fun (w1 : World) (h : Rdr w1 g bs a bg) => take_ends h hs
  clear hs
  have HP := place_step h
  go_enter Tryd.func76, Tryd.ntmps76
  go_wp2_with fail
  refine HP.mono ?_
  clear HP
  rintro e w0 ⟨rfl, hg0⟩
  have h0 := h.kept hg0
  have hgl := h.lt
  go_wp2_with fail
  refine (HT _ h0).mono ?_
  rintro e w1 ⟨fb, rfl, hf, hfb, hg1, hR1⟩
  obtain ⟨b0, _, hg2, hR2, hfl⟩ := u_mid [] (only_trans (only_weak hg0 _) hg1) hR1
  have hf2 := hfl _ _ _ hf.lt hf
  have hsz := hg0.size
  have HF := Lib.hid hf2
  clear HT h h0 hf hf2 hfl
  go_wp2_with (refine wpList_store_blk (l := []) rfl (.tmp 5) (.tmp 12) rfl rfl rfl b0 ?_)
  go_ret2
  exact ⟨fb, rfl, HF.out, by omega, hg2, hR2⟩

set_option maxRecDepth 100000 in
set_option maxHeartbeats 4000000 in
theorem u_none (w : World) :
    Calls Tryd.prog 76 #[.pointer none] w fun e w' => ∃ fb, e = .returned (.tuple #[.int .u64 0, .iface 91 (.pointer (some ⟨fb, 0, none⟩))]) ∧ Flt w' fb 1 0 ∧ w.heap.size ≤ fb ∧ w.grownBy w' none := by
  go_enter Tryd.func76, Tryd.ntmps76
  go_wp2_with fail
  refine (place_none _).mono ?_
  rintro e w0 ⟨rfl, rfl⟩
  go_wp2_with fail
  refine (take_nothing _).mono ?_
  rintro e w1 ⟨fb, rfl, hf, hfb, hg1⟩
  have b0 := Blk.new w1 162 (tcells [])
  have h1 : w1.grownBy (w1.alloc (.cells (tcells []) 162)) none := only_alloc (only_refl _ _) _
  have hs : (w1.alloc (.cells (tcells []) 162)).grownBy ((w1.alloc (.cells (tcells []) 162)).setRow w1.heap.size (tcells [])) (some w1.heap.size) := row_only _ _ _
  have hf2 := Blk.grown (Blk.kept hf h1) hs (fun e => by have := hf.lt; injection e with e; omega)
  have hg2 := only_new (only_trans hg1 h1) hs hg1.size
  have HF := Lib.hid hf2
  clear hf hf2
  go_wp2_with (refine wpList_store_blk (l := []) rfl (.tmp 5) (.tmp 12) rfl rfl rfl b0 ?_)
  go_ret2
  exact ⟨fb, rfl, HF.out, hfb, hg2⟩
end Go.Proofs.YtmbdaenjeeklfaaDoor

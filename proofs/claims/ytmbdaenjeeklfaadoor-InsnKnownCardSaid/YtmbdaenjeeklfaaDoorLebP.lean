/- leb: PutU, fold, PutS, and a number's bytes alone: what each answers, and what it leaves. -/
import Derived.Test.YtmbdaenjeeklfaaDoorLebW
namespace Go.Proofs.YtmbdaenjeeklfaaDoor
open Go.RowKit Go.Shelf
attribute [local go_sem] Oper.semAt_some

theorem Turn.keeps {B g : Nat} {W W' : World} {bs : List UInt8} (ht : Turn (WS B W g) W W') (hw : Wtr B W g bs) : KeepsOthers W W' :=
  ⟨ht.size, fun k o hk ho => by
    refine (ht.block k (Array.getElem?_eq_some_iff.1 hk).1 (fun hs => ?_)).trans hk
    rcases hs with rfl | ⟨_, cs, fr, h2⟩
    · obtain ⟨_, v, hb, _⟩ := hw
      unfold Blk at hb
      rw [hb] at hk
      cases hk
      cases ho
    · rw [h2] at hk
      cases hk
      cases ho⟩
/-- What holds between two sevens. -/
def PI (B g b : Nat) (w : World) (bs : List UInt8) (pre : List Sv) (W : World) : Prop :=
  Wtr B W g (bs ++ pre.map svBytes) ∧ Blk W b 26 #[.pointer (some ⟨g, 0, none⟩)] ∧ Turn (WS B w g) w W
theorem pi_own {B g b B0 : Nat} {w : World} {bs : List UInt8} (hB0 : w.heap.size ≤ B0) : OwnFrom B0 (PI B g b w bs) := by
  rintro pre W W' row ⟨h1, h2, h3⟩ hg hr
  have hcell : ∀ i t cs, Blk W i t cs → some i ≠ row := by
    intro i t cs hb e
    obtain ⟨_, o, ho, hc⟩ := hr i e.symm
    unfold Blk at hb
    rw [hb] at ho
    cases ho
    cases hc
  refine ⟨h1.grown hg ?_ (fun k e hu => ?_), h2.grown hg (hcell _ _ _ h2), h3.grown hg (fun r e => by have := (hr r e).1; omega)⟩
  · obtain ⟨_, v, hb, _⟩ := h1
    exact hcell _ _ _ hb
  · obtain ⟨_, o, ho, hc⟩ := hr k e
    obtain ⟨cs, fr, h⟩ := hu
    rw [h] at ho
    cases ho
    cases hc
theorem pi_next {B g b : Nat} {w W W' : World} {bs : List UInt8} {pre : List Sv} {x : Sv} (h : PI B g b w bs pre W) (hw : Wtr B W' g ((bs ++ pre.map svBytes) ++ [svBytes x])) (ht : Turn (WS B W g) W W') :
    KeepsOthers W W' ∧ True ∧ PI B g b w bs (pre ++ [x]) W' := by
  obtain ⟨h1, h2, h3⟩ := h
  refine ⟨ht.keeps h1, trivial, by rw [List.map_append, ← List.append_assoc]; exact hw, h2.turn ht (fun hs => ?_), h3.trans ht⟩
  rcases hs with rfl | ⟨_, h8⟩
  · obtain ⟨_, v, hb, _⟩ := h1
    exact Blk.ne_ hb h2 (by decide) rfl
  · exact h2.not_u8 (by decide) h8

set_option maxRecDepth 100000 in
set_option maxHeartbeats 2000000 in
theorem putU_any {B g : Nat} {w : World} {bs : List UInt8} (h : Wtr B w g bs) (hB : B ≤ w.heap.size) (n : Nat) (hn : n < 18446744073709551616) (hl : bs.length + 10 ≤ 1099511627776) :
    Calls Tryd.prog 54 #[.pointer (some ⟨g, 0, none⟩), .int .u64 (n : Int)] w fun e w' => e = .returned (.tuple #[]) ∧ Wtr B w' g (bs ++ sev n) ∧ Turn (WS B w g) w w' := by
  have hlen := Lib.hid (pairs_len hn)
  have hn' := Lib.hid hn
  have hl' := Lib.hid hl
  clear hn hl
  refine (callsIn_wide (n := 3)).1 ?_
  refine callsIn_of_wp_marks Tryd.func54 rfl trivial ?_ rfl
  simp only [Tryd.ntmps54, List.size_toArray, List.length_cons, List.length_nil, Nat.reduceAdd, Nat.reduceSub, Array.replicate_succ, Array.replicate_zero, List.push_toArray, List.append_toArray, List.nil_append, List.cons_append]
  gi_wp2_with (refine ⟨trivial, ?_⟩; gi_at_call 75; refine (callsIn_wide.2 (sevens_any _ _)).mono ?_; rintro e w' ⟨rfl, rfl⟩)
  have b0 := Blk.new w 26 #[.pointer (some ⟨g, 0, none⟩)]
  have b1 := b0.alloc (.cells #[.int .u64 (n : Int)] 79)
  have c1 := (Blk.new (w.alloc (.cells #[.pointer (some ⟨g, 0, none⟩)] 26)) 79 #[.int .u64 (n : Int)]).cell 0
  have hg0 : w.grownBy ((w.alloc (.cells #[.pointer (some ⟨g, 0, none⟩)] 26)).alloc (.cells #[.int .u64 (n : Int)] 79)) none := only_alloc (only_alloc (only_refl _ _) _) _
  have hz : (w.alloc (.cells #[.pointer (some ⟨g, 0, none⟩)] 26)).heap.size = w.heap.size + 1 := by simp
  rw [hz] at c1
  have hz2 : ((w.alloc (.cells #[.pointer (some ⟨g, 0, none⟩)] 26)).alloc (.cells #[.int .u64 (n : Int)] 79)).heap.size = w.heap.size + 2 := by simp
  refine wpIn_rangeFunc_ownF rfl (by omega) (gf := 84) (lb := #[.pointer (some ⟨w.heap.size + 1, 0, none⟩)]) rfl trivial (enters_of Tryd.func84 (by kernel_rfl) rfl)
    (sevens_in Fence.wide _ trivial rfl (by omega) (w.heap.size + 1) n hn'.out _ (by rw [hz2]; omega) c1) (fun _ _ => trivial) (fun _ _ _ _ _ _ _ _ => trivial) (Below.refl _ _) (fun _ => rfl)
    (PI B g w.heap.size w bs) (fun _ _ _ => False) (pi_own (by rw [hz2]; omega)) (fun _ _ _ _ _ hs _ _ => hs)
    ⟨by rw [List.map_nil, List.append_nil]; exact h.kept hg0, b1, Turn.none_ hg0⟩
    (fun x => { tmps := #[.pointer (some ⟨g, 0, none⟩), .int .u64 (n : Int), .pointer (some ⟨w.heap.size, 0, none⟩), undef, .int .u8 (x.1.val : Int), .bool x.2, .int .u64 (n : Int), .func (.func 84) #[] #[.pointer (some ⟨w.heap.size + 1, 0, none⟩)], .int .u8 (x.1.val : Int), .bool x.2, undef, undef, undef, undef, undef, undef, undef], defers := [] }) ?assign ?body ?done ?stop
  case assign =>
    intro l x W K hK
    gi_wp2
    exact hK
  case body =>
    rintro l pre x W hI hlt
    have hc := hI.2.1.cell 0
    have hBW : B ≤ W.heap.size := by have := hI.2.2.size; omega
    have hlw : (bs ++ pre.map svBytes).length + 1 ≤ 1099511627776 := by
      have h1 := hlen.out
      have h2 := hl'.out
      rw [List.length_append, List.length_map]; omega
    have HI := Lib.hid hI
    have hw := hI.1
    clear hI
    obtain ⟨d, last⟩ := x
    cases last with
    | true =>
      have hv : (d.val : Int) = ((svBytes (d, true)).toNat : Int) := by
        have := d.isLt
        simp only [svBytes, if_true]
        rw [u8_ofNat (by omega)]
      have HN := Lib.hid (fun (W' : World) (hw' : Wtr B W' g ((bs ++ pre.map svBytes) ++ [svBytes (d, true)])) ht => pi_next HI.out hw' ht)
      have hd0 : (0 : Int) ≤ (d.val : Int) := by omega
      have hd1 : (d.val : Int) < 128 := by have := d.isLt; omega
      generalize svBytes (d, true) = u at *
      dsimp only
      generalize (d.val : Int) = z at *
      have hv' := Lib.hid hv
      clear hv
      gi_wp2_with (refine ⟨trivial, ?_⟩; gi_at_call 34; refine (CallsIn.inRound l (callsIn_wide.2 (wbyte_eq hw hBW u _ hv'.out hlw))).mono ?_; rintro e w1 ⟨rfl, hw1, ht1⟩)
      exact HN.out _ hw1 ht1
    | false =>
      have hv : (d.val : Int) + 128 = ((svBytes (d, false)).toNat : Int) := by
        have := d.isLt
        simp only [svBytes]
        rw [u8_ofNat (by simp; omega)]
        simp
      have HN := Lib.hid (fun (W' : World) (hw' : Wtr B W' g ((bs ++ pre.map svBytes) ++ [svBytes (d, false)])) ht => pi_next HI.out hw' ht)
      have hd0 : (0 : Int) ≤ (d.val : Int) := by omega
      have hd1 : (d.val : Int) < 128 := by have := d.isLt; omega
      generalize svBytes (d, false) = u at *
      dsimp only
      generalize (d.val : Int) = z at *
      have hv' := Lib.hid hv
      clear hv
      gi_wp2_with (refine ⟨trivial, ?_⟩; gi_at_call 34; refine (CallsIn.inRound l (callsIn_wide.2 (wbyte_eq hw hBW u _ hv'.out hlw))).mono ?_; rintro e w1 ⟨rfl, hw1, ht1⟩)
      exact HN.out _ hw1 ht1
  case done =>
    rintro D ys W hD rfl hI hK
    have hO := (pi_own (B := B) (g := g) (b := w.heap.size) (w := w) (bs := bs) (by omega : w.heap.size ≤ w.heap.size + 2)).putObj (.deferred none) hI (by rw [hz2] at hD; exact hD) hK rfl
    obtain ⟨h1, _, h3⟩ := hO
    rw [pairs_sev] at h1
    gi_wp2
    refine ⟨by simp, .inl ⟨_, _, rfl, run_takeDeferred hK, ?_⟩⟩
    exact ⟨_, results_none rfl _ _ _, rfl, h1, h3⟩
  case stop =>
    rintro D c pre W _ _ h _
    exact h.elim

/-- What holds between two sevens where the writer is none. -/
def PN (b : Nat) (w : World) (_ : List Sv) (W : World) : Prop := Blk W b 26 #[.pointer none] ∧ w.grownBy W none
theorem pn_own {b B0 : Nat} {w : World} (hB0 : w.heap.size ≤ B0) : OwnFrom B0 (PN b w) := by
  rintro pre W W' row ⟨h2, h3⟩ hg hr
  refine ⟨h2.grown hg (fun e => ?_), ?_⟩
  · obtain ⟨_, o, ho, hc⟩ := hr b e.symm
    unfold Blk at h2
    rw [h2] at ho
    cases ho
    cases hc
  · exact ⟨hg.os.trans h3.os, hg.tape.trans h3.tape, hg.output.trans h3.output, Nat.le_trans h3.size hg.size, fun i hi hn => (hg.block i (Nat.lt_of_lt_of_le hi h3.size) (fun e => by have := (hr i e.symm).1; omega)).trans (h3.block i hi hn)⟩

set_option maxRecDepth 100000 in
set_option maxHeartbeats 2000000 in
theorem putU_none (w : World) (n : Nat) (hn : n < 18446744073709551616) :
    Calls Tryd.prog 54 #[.pointer none, .int .u64 (n : Int)] w fun e w' => e = .returned (.tuple #[]) ∧ w.grownBy w' none := by
  have hn' := Lib.hid hn
  clear hn
  refine (callsIn_wide (n := 3)).1 ?_
  refine callsIn_of_wp_marks Tryd.func54 rfl trivial ?_ rfl
  simp only [Tryd.ntmps54, List.size_toArray, List.length_cons, List.length_nil, Nat.reduceAdd, Nat.reduceSub, Array.replicate_succ, Array.replicate_zero, List.push_toArray, List.append_toArray, List.nil_append, List.cons_append]
  gi_wp2_with (refine ⟨trivial, ?_⟩; gi_at_call 75; refine (callsIn_wide.2 (sevens_any _ _)).mono ?_; rintro e w' ⟨rfl, rfl⟩)
  have b0 := Blk.new w 26 #[.pointer none]
  have b1 := b0.alloc (.cells #[.int .u64 (n : Int)] 79)
  have c1 := (Blk.new (w.alloc (.cells #[.pointer none] 26)) 79 #[.int .u64 (n : Int)]).cell 0
  have hg0 : w.grownBy ((w.alloc (.cells #[.pointer none] 26)).alloc (.cells #[.int .u64 (n : Int)] 79)) none := only_alloc (only_alloc (only_refl _ _) _) _
  have hz : (w.alloc (.cells #[.pointer none] 26)).heap.size = w.heap.size + 1 := by simp
  rw [hz] at c1
  have hz2 : ((w.alloc (.cells #[.pointer none] 26)).alloc (.cells #[.int .u64 (n : Int)] 79)).heap.size = w.heap.size + 2 := by simp
  refine wpIn_rangeFunc_ownF rfl (by omega) (gf := 84) (lb := #[.pointer (some ⟨w.heap.size + 1, 0, none⟩)]) rfl trivial (enters_of Tryd.func84 (by kernel_rfl) rfl)
    (sevens_in Fence.wide _ trivial rfl (by omega) (w.heap.size + 1) n hn'.out _ (by rw [hz2]; omega) c1) (fun _ _ => trivial) (fun _ _ _ _ _ _ _ _ => trivial) (Below.refl _ _) (fun _ => rfl)
    (PN w.heap.size w) (fun _ _ _ => False) (pn_own (by rw [hz2]; omega)) (fun _ _ _ _ _ hs _ _ => hs)
    ⟨b1, hg0⟩
    (fun x => { tmps := #[.pointer none, .int .u64 (n : Int), .pointer (some ⟨w.heap.size, 0, none⟩), undef, .int .u8 (x.1.val : Int), .bool x.2, .int .u64 (n : Int), .func (.func 84) #[] #[.pointer (some ⟨w.heap.size + 1, 0, none⟩)], .int .u8 (x.1.val : Int), .bool x.2, undef, undef, undef, undef, undef, undef, undef], defers := [] }) ?assign ?body ?done ?stop
  case assign =>
    intro l x W K hK
    gi_wp2
    exact hK
  case body =>
    rintro l pre x W hI hlt
    have hc := hI.1.cell 0
    have HI := Lib.hid hI
    clear hI
    obtain ⟨d, last⟩ := x
    have hd0 : (0 : Int) ≤ (d.val : Int) := by omega
    have hd1 : (d.val : Int) < 128 := by have := d.isLt; omega
    dsimp only
    generalize (d.val : Int) = z at *
    cases last <;>
    (gi_wp2_with (refine ⟨trivial, ?_⟩; gi_at_call 34; refine (CallsIn.inRound l (callsIn_wide.2 (wbyte_none _ _))).mono ?_; rintro e w1 ⟨rfl, rfl⟩)
     exact ⟨KeepsOthers.refl _, trivial, HI.out⟩)
  case done =>
    rintro D ys W hD rfl hI hK
    have hO := (pn_own (b := w.heap.size) (w := w) (by omega : w.heap.size ≤ w.heap.size + 2)).putObj (.deferred none) hI (by rw [hz2] at hD; exact hD) hK rfl
    obtain ⟨_, h3⟩ := hO
    gi_wp2
    refine ⟨by simp, .inl ⟨_, _, rfl, run_takeDeferred hK, ?_⟩⟩
    exact ⟨_, results_none rfl _ _ _, rfl, h3⟩
  case stop =>
    rintro D c pre W _ _ h _
    exact h.elim
end Go.Proofs.YtmbdaenjeeklfaaDoor

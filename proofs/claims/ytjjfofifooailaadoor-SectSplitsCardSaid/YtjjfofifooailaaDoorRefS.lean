/- The document's answer for numbers (colloquyref02): S and Small: what each answers, and what it leaves. -/
import Derived.Test.YtjjfofifooailaaDoorRefV
namespace Go.Proofs.YtjjfofifooailaaDoor
open Go.RowKit

/-- What a call of the document's answer comes to: a value beside a fault's number and place; the reader's place. -/
def RefSays (v : Value) (c x : Int) (q : Nat) (bs : List UInt8) (b bg : Nat) (w : World) (e : Ending) (w' : World) : Prop :=
  e = .returned (.tuple #[v, .agg #[.int .i64 c, .int .i64 x]]) ∧ w.grownBy w' (some q) ∧ RefR w' q bs b bg

theorem ref_mid {w w2 : World} {q : Nat} (hql : q < w.heap.size) (hg : (w.alloc (.cells #[.int .i64 0, .int .i64 0] 47)).grownBy w2 (some q)) :
    w.grownBy w2 (some q) ∧ Blk w2 w.heap.size 47 #[.int .i64 0, .int .i64 0] :=
  ⟨only_trans (only_weak (only_alloc (only_refl w none) _) _) hg, (Blk.new w _ _).grown hg (fun e => by injection e with e; omega)⟩

theorem res_end2 {w w1 : World} {row : Option Nat} {cs : Array Value} (hg1 : w.grownBy w1 row) (hb1 : Blk w1 w.heap.size 47 cs) (hc : cs.size = 2) (c x : Int) (o : Obj) :
    ((setF w1 w.heap.size c x).alloc o).cell? ⟨w.heap.size, 0, none⟩ = some (.int .i64 c) ∧ ((setF w1 w.heap.size c x).alloc o).cell? ⟨w.heap.size, 1, none⟩ = some (.int .i64 x) ∧
    w.grownBy ((setF w1 w.heap.size c x).alloc o) row ∧
    (∀ q bs a bg, RefR w1 q bs a bg → q < w.heap.size → RefR ((setF w1 w.heap.size c x).alloc o) q bs a bg) := by
  obtain ⟨e0, e1, e2, e3⟩ := res_end hg1 hb1 hc c x o
  exact ⟨e0, e1, ⟨e2.os, e2.tape, e2.output, e2.size, e2.block⟩, fun q bs a bg h hl => e3 q bs a bg h hl⟩

section
variable {w : World} {q a b bg : Nat} {bs : List UInt8}
theorem small_mid {w w1 w2 : World} {q : Nat} (hql : q < w.heap.size) (hg1 : (w.alloc (.cells #[.int .i64 0, .int .i64 0] 47)).grownBy w1 none) (hg : w1.grownBy w2 (some q)) :
    w.grownBy w2 (some q) ∧ Blk w2 w.heap.size 47 #[.int .i64 0, .int .i64 0] :=
  ref_mid hql (only_trans (only_weak hg1 _) hg)

set_option maxRecDepth 100000 in
set_option maxHeartbeats 1000000 in
theorem rsmall_fault (h : RefR w q bs a bg) (most c x : Int) (hc : (c == 0) = false)
    (HU : ∀ W, RefR W q bs a bg → Calls Tryd.prog 58 #[.pointer (some ⟨q, 0, none⟩)] W (RefSays (.int .u64 0) c x q bs b bg W)) :
    Calls Tryd.prog 40 #[.pointer (some ⟨q, 0, none⟩), .int .i64 most] w (RefSays (.int .i64 0) c x q bs b bg w) := by
  have hql := h.lt
  have h0 : w.grownBy (w.alloc (.cells #[.int .i64 0, .int .i64 0] 47)) none := only_alloc (only_refl _ _) _
  have hR := h.kept h0 (fun e => by cases e)
  have HP := rplace_any hR
  go_enter Tryd.func40, Tryd.ntmps40
  go_wp2_with fail
  refine HP.mono ?_
  rintro e w1 ⟨rfl, hg1⟩
  go_wp2_with fail
  refine (HU _ (hR.kept hg1 (fun e => by cases e))).mono ?_
  rintro e w2 ⟨rfl, hg2, hr2⟩
  obtain ⟨hg, hb⟩ := small_mid hql hg1 hg2
  have g0 : w2.cell? ⟨w.heap.size, 0, none⟩ = some (.int .i64 0) := hb.cell 0
  have g1 : w2.cell? ⟨w.heap.size, 1, none⟩ = some (.int .i64 0) := hb.cell 1
  have f0 := hb.frozen 0
  have f1 := hb.frozen 1
  have hz := hb.lt
  go_wp2_with fail
  go_region
  all_goals go_wp2
  obtain ⟨e0, e1, e2, e3⟩ := res_end hg hb rfl c x (.cells #[.int .i64 c, .int .i64 x] 47)
  have e4 := e3 _ _ _ _ hr2 hql
  unfold setF at e0 e1 e2 e4
  exact bodyPost_ret (v := .tuple #[.int .i64 0, .agg #[.int .i64 c, .int .i64 x]]) (by simp [results, Tryd.results40, go_sem, e0, e1]) rfl ⟨rfl, e2, e4⟩

set_option maxRecDepth 100000 in
set_option maxHeartbeats 1000000 in
theorem rsmall_ok (h : RefR w q bs a bg) (most : Int) (n : Nat) (hw : Whole most) (hm : (n : Int) ≤ most)
    (HU : ∀ W, RefR W q bs a bg → Calls Tryd.prog 58 #[.pointer (some ⟨q, 0, none⟩)] W (RefSays (.int .u64 (n : Int)) 0 0 q bs b bg W)) :
    Calls Tryd.prog 40 #[.pointer (some ⟨q, 0, none⟩), .int .i64 most] w (RefSays (.int .i64 (n : Int)) 0 0 q bs b bg w) := by
  have hql := h.lt
  have h0 : w.grownBy (w.alloc (.cells #[.int .i64 0, .int .i64 0] 47)) none := only_alloc (only_refl _ _) _
  have hR := h.kept h0 (fun e => by cases e)
  have HP := rplace_any hR
  obtain ⟨hw1, hw2⟩ := hw
  have hn0 : (0 : Int) ≤ (n : Int) := by omega
  have hcv : IntKind.i64.wrap (n : Int) = (n : Int) := IntWalk.i64_in _ ⟨by omega, by omega⟩
  generalize (n : Int) = nn at *
  go_enter Tryd.func40, Tryd.ntmps40
  go_wp2_with fail
  refine HP.mono ?_
  rintro e w1 ⟨rfl, hg1⟩
  go_wp2_with fail
  refine (HU _ (hR.kept hg1 (fun e => by cases e))).mono ?_
  rintro e w2 ⟨rfl, hg2, hr2⟩
  obtain ⟨hg, hb⟩ := small_mid hql hg1 hg2
  have g0 : w2.cell? ⟨w.heap.size, 0, none⟩ = some (.int .i64 0) := hb.cell 0
  have g1 : w2.cell? ⟨w.heap.size, 1, none⟩ = some (.int .i64 0) := hb.cell 1
  have f0 := hb.frozen 0
  have f1 := hb.frozen 1
  have hz := hb.lt
  go_wp2_with fail
  go_region
  all_goals go_wp2
  obtain ⟨e0, e1, e2, e3⟩ := res_end hg hb rfl 0 0 (.cells #[.int .i64 0, .int .i64 0] 47)
  have e4 := e3 _ _ _ _ hr2 hql
  unfold setF at e0 e1 e2 e4
  exact bodyPost_ret (v := .tuple #[.int .i64 nn, .agg #[.int .i64 0, .int .i64 0]]) (by simp [results, Tryd.results40, go_sem, e0, e1]) rfl ⟨rfl, e2, e4⟩

set_option maxRecDepth 100000 in
set_option maxHeartbeats 1000000 in
theorem rsmall_long (h : RefR w q bs a bg) (most : Int) (n : Nat) (hn : n < 18446744073709551616) (hw : Whole most) (hm : most < (n : Int))
    (HU : ∀ W, RefR W q bs a bg → Calls Tryd.prog 58 #[.pointer (some ⟨q, 0, none⟩)] W (RefSays (.int .u64 (n : Int)) 0 0 q bs b bg W)) :
    Calls Tryd.prog 40 #[.pointer (some ⟨q, 0, none⟩), .int .i64 most] w (RefSays (.int .i64 0) 4 ((bg : Int) + (a : Int)) q bs b bg w) := by
  have hql := h.lt
  have h0 : w.grownBy (w.alloc (.cells #[.int .i64 0, .int .i64 0] 47)) none := only_alloc (only_refl _ _) _
  have hR := h.kept h0 (fun e => by cases e)
  have HP := rplace_any hR
  obtain ⟨hw1, hw2⟩ := hw
  have hn0 : (0 : Int) ≤ (n : Int) := by omega
  have hn1 : (n : Int) < 18446744073709551616 := by omega
  clear hn
  generalize (n : Int) = nn at *
  generalize (bg : Int) + (a : Int) = pl at *
  by_cases hm0 : most < 0
  · go_enter Tryd.func40, Tryd.ntmps40
    go_wp2_with fail
    refine HP.mono ?_
    rintro e w1 ⟨rfl, hg1⟩
    go_wp2_with fail
    refine (HU _ (hR.kept hg1 (fun e => by cases e))).mono ?_
    rintro e w2 ⟨rfl, hg2, hr2⟩
    obtain ⟨hg, hb⟩ := small_mid hql hg1 hg2
    have g0 : w2.cell? ⟨w.heap.size, 0, none⟩ = some (.int .i64 0) := hb.cell 0
    have g1 : w2.cell? ⟨w.heap.size, 1, none⟩ = some (.int .i64 0) := hb.cell 1
    have f0 := hb.frozen 0
    have f1 := hb.frozen 1
    have hz := hb.lt
    go_wp2_with fail
    obtain ⟨e0, e1, e2, e3⟩ := res_end2 hg hb rfl 4 pl (.cells #[.int .i64 0, .int .i64 0] 47)
    have e4 := e3 _ _ _ _ hr2 hql
    unfold setF at e0 e1 e2 e4
    exact bodyPost_ret (v := .tuple #[.int .i64 0, .agg #[.int .i64 4, .int .i64 pl]]) (by simp [results, Tryd.results40, go_sem, e0, e1]) rfl ⟨rfl, e2, e4⟩
  · have hm1 : 0 ≤ most := by omega
    go_enter Tryd.func40, Tryd.ntmps40
    go_wp2_with fail
    refine HP.mono ?_
    rintro e w1 ⟨rfl, hg1⟩
    go_wp2_with fail
    refine (HU _ (hR.kept hg1 (fun e => by cases e))).mono ?_
    rintro e w2 ⟨rfl, hg2, hr2⟩
    obtain ⟨hg, hb⟩ := small_mid hql hg1 hg2
    have g0 : w2.cell? ⟨w.heap.size, 0, none⟩ = some (.int .i64 0) := hb.cell 0
    have g1 : w2.cell? ⟨w.heap.size, 1, none⟩ = some (.int .i64 0) := hb.cell 1
    have f0 := hb.frozen 0
    have f1 := hb.frozen 1
    have hz := hb.lt
    go_wp2_with fail
    obtain ⟨e0, e1, e2, e3⟩ := res_end2 hg hb rfl 4 pl (.cells #[.int .i64 0, .int .i64 0] 47)
    have e4 := e3 _ _ _ _ hr2 hql
    unfold setF at e0 e1 e2 e4
    exact bodyPost_ret (v := .tuple #[.int .i64 0, .agg #[.int .i64 4, .int .i64 pl]]) (by simp [results, Tryd.results40, go_sem, e0, e1]) rfl ⟨rfl, e2, e4⟩
end
end Go.Proofs.YtjjfofifooailaaDoor

/- The document's answer for readers (colloquyref01): Byte and Part: what each answers, and what it leaves. -/
import Derived.Test.YtjjfofifooailaaDoorRefB
namespace Go.Proofs.YtjjfofifooailaaDoor
open Go.RowKit

/-- The result's fault is laid into the block that was made for it first. -/
theorem res_end {w w1 : World} {row : Option Nat} {cs : Array Value} (hg1 : w.grownBy w1 row) (hb1 : Blk w1 w.heap.size 47 cs) (hc : cs.size = 2) (c x : Int) (o : Obj) :
    (((setF w1 w.heap.size c x).alloc o).drew).cell? ⟨w.heap.size, 0, none⟩ = some (.int .i64 c) ∧ (((setF w1 w.heap.size c x).alloc o).drew).cell? ⟨w.heap.size, 1, none⟩ = some (.int .i64 x) ∧
    w.grownBy (((setF w1 w.heap.size c x).alloc o).drew) row ∧
    (∀ q bs a bg, RefR w1 q bs a bg → q < w.heap.size → RefR (((setF w1 w.heap.size c x).alloc o).drew) q bs a bg) := by
  have hF := setF_blk hb1 hc c x
  have hS : w1.grownBy (setF w1 w.heap.size c x) (some w.heap.size) := only_setCell (only_setCell (only_refl w1 (some w.heap.size)) (p := ⟨w.heap.size, 0, none⟩) rfl (.int .i64 c)) (p := ⟨w.heap.size, 1, none⟩) rfl (.int .i64 x)
  have hg := setF_only hg1 (Nat.le_refl _) c x
  generalize setF w1 w.heap.size c x = W at *
  have hF2 : Blk ((W.alloc o).drew) w.heap.size 47 #[.int .i64 c, .int .i64 x] := (hF.alloc o).drew
  have hS2 : w1.grownBy ((W.alloc o).drew) (some w.heap.size) := only_drew (only_alloc hS o)
  exact ⟨hF2.cell 0, hF2.cell 1, only_drew (only_alloc hg o), fun q bs a bg hq hl => hq.kept hS2 (fun e => by injection e with e; omega)⟩

/-- The same where the new reader is boxed behind it. -/
theorem part_res_end {w w1 : World} {row : Option Nat} {cs : Array Value} (hg1 : w.grownBy w1 row) (hb1 : Blk w1 w.heap.size 47 cs) (hc : cs.size = 2) (o : Obj) (str : ByteArray) (bg : Nat) (hs : bg + str.size ≤ 4611686018427387904) :
    ((((setF w1 w.heap.size 0 0).alloc o).alloc (.cells #[.string str, .int .i64 0, .int .i64 (bg : Int)] 58)).drew).cell? ⟨w.heap.size, 0, none⟩ = some (.int .i64 0) ∧
    ((((setF w1 w.heap.size 0 0).alloc o).alloc (.cells #[.string str, .int .i64 0, .int .i64 (bg : Int)] 58)).drew).cell? ⟨w.heap.size, 1, none⟩ = some (.int .i64 0) ∧
    w.grownBy ((((setF w1 w.heap.size 0 0).alloc o).alloc (.cells #[.string str, .int .i64 0, .int .i64 (bg : Int)] 58)).drew) row ∧
    (∀ q bs a bg', RefR w1 q bs a bg' → q < w.heap.size → RefR ((((setF w1 w.heap.size 0 0).alloc o).alloc (.cells #[.string str, .int .i64 0, .int .i64 (bg : Int)] 58)).drew) q bs a bg') ∧
    RefR ((((setF w1 w.heap.size 0 0).alloc o).alloc (.cells #[.string str, .int .i64 0, .int .i64 (bg : Int)] 58)).drew) (w1.heap.size + 1) str.data.toList 0 bg := by
  have hF := setF_blk hb1 hc 0 0
  have hS : w1.grownBy (setF w1 w.heap.size 0 0) (some w.heap.size) := only_setCell (only_setCell (only_refl w1 (some w.heap.size)) (p := ⟨w.heap.size, 0, none⟩) rfl (.int .i64 0)) (p := ⟨w.heap.size, 1, none⟩) rfl (.int .i64 0)
  have hg := setF_only hg1 (Nat.le_refl _) 0 0
  have hz : (setF w1 w.heap.size 0 0).heap.size = w1.heap.size := by simp [setF, World.setCell]
  generalize setF w1 w.heap.size 0 0 = W at *
  have hz2 : (W.alloc o).heap.size = w1.heap.size + 1 := by simp [hz]
  have hn := RefR.new str (W.alloc o) bg hs
  rw [hz2] at hn
  have hF2 := (hF.alloc o).alloc (.cells #[.string str, .int .i64 0, .int .i64 (bg : Int)] 58)
  have hS2 := only_alloc (only_alloc hS o) (.cells #[.string str, .int .i64 0, .int .i64 (bg : Int)] 58)
  have hg2 := only_alloc (only_alloc hg o) (.cells #[.string str, .int .i64 0, .int .i64 (bg : Int)] 58)
  generalize (W.alloc o).alloc (.cells #[.string str, .int .i64 0, .int .i64 (bg : Int)] 58) = V at *
  have hF3 : Blk V.drew w.heap.size 47 #[.int .i64 0, .int .i64 0] := hF2.drew
  exact ⟨hF3.cell 0, hF3.cell 1, only_drew hg2, fun q bs a bg' hq hl => hq.kept (only_drew hS2) (fun e => by injection e with e; omega), hn.kept (only_drew (only_refl V none)) (fun e => by cases e)⟩

set_option maxRecDepth 100000 in
set_option maxHeartbeats 1000000 in
theorem rbyte_ok {w : World} {q a bg : Nat} {bs : List UInt8} (h : RefR w q bs a bg) (u : UInt8) (hu : bs[a]? = some u) :
    Calls Tryd.prog 39 #[.pointer (some ⟨q, 0, none⟩)] w fun e w' => e = .returned (.tuple #[.int .u8 (u.toNat : Int), .agg #[.int .i64 0, .int .i64 0]]) ∧ w.grownBy w' (some q) ∧ RefR w' q bs (a + 1) bg := by
  have h0 : w.grownBy (w.alloc (.cells #[.int .i64 0, .int .i64 0] 47)) none := only_alloc (only_refl _ _) _
  have hql := h.lt
  have hR := h.kept h0 (fun e => by cases e)
  have hal : a < bs.length := (List.getElem?_eq_some_iff.1 hu).1
  have hl : (bs.drop a).take 1 = [u] := by
    rw [List.take_one, List.head?_drop, hu]
    rfl
  have H0 := rtake_ok hR 1 (by omega)
  rw [hl] at H0
  have H : Calls Tryd.prog 57 #[.pointer (some ⟨q, 0, none⟩), .int .i64 1] (w.alloc (.cells #[.int .i64 0, .int .i64 0] 47)) fun e w' => e = .returned (.tuple #[.string ⟨#[u]⟩, .agg #[.int .i64 0, .int .i64 0]]) ∧ (w.alloc (.cells #[.int .i64 0, .int .i64 0] 47)).grownBy w' (some q) ∧ RefR w' q bs (a + 1) bg := H0
  have hb0 := Blk.new w 47 #[.int .i64 0, .int .i64 0]
  clear H0 hl
  go_enter Tryd.func39, Tryd.ntmps39
  go_wp2_with fail
  refine H.mono ?_
  rintro e w1 ⟨rfl, h1, hr1⟩
  have hb1 := hb0.grown h1 (fun e => by injection e with e; omega)
  have k0 : w1.cell? ⟨w.heap.size, 0, none⟩ = some (.int .i64 0) := hb1.cell 0
  have k1 : w1.cell? ⟨w.heap.size, 1, none⟩ = some (.int .i64 0) := hb1.cell 1
  have f0 := hb1.frozen 0
  have f1 := hb1.frozen 1
  have hz := hb1.lt
  go_wp2_with fail
  go_region
  all_goals go_wp2
  obtain ⟨e0, e1, e2, e3⟩ := res_end (only_trans (only_weak h0 _) h1) hb1 rfl 0 0 (.cells #[.int .i64 0, .int .i64 0] 47)
  have e4 := e3 _ _ _ _ hr1 hql
  unfold setF at e0 e1 e2 e4
  exact bodyPost_ret (v := .tuple #[.int .u8 (u.toNat : Int), .agg #[.int .i64 0, .int .i64 0]]) (by simp [results, Tryd.results39, go_sem, e0, e1]; rfl) rfl ⟨rfl, e2, e4⟩

set_option maxRecDepth 100000 in
set_option maxHeartbeats 1000000 in
theorem rbyte_short {w : World} {q a bg : Nat} {bs : List UInt8} (h : RefR w q bs a bg) (ha : a = bs.length) :
    Calls Tryd.prog 39 #[.pointer (some ⟨q, 0, none⟩)] w (RFault (.int .u8 0) 3 ((bg : Int) + (a : Int)) w) := by
  have h0 : w.grownBy (w.alloc (.cells #[.int .i64 0, .int .i64 0] 47)) none := only_alloc (only_refl _ _) _
  have hR := h.kept h0 (fun e => by cases e)
  have H := rtake_short hR 1 (by omega)
  have hb0 := Blk.new w 47 #[.int .i64 0, .int .i64 0]
  generalize hx : (bg : Int) + (a : Int) = x at *
  clear hx ha
  go_enter Tryd.func39, Tryd.ntmps39
  go_wp2_with fail
  refine H.mono ?_
  rintro e w1 ⟨rfl, h1⟩
  have hb1 := hb0.kept h1
  have k0 : w1.cell? ⟨w.heap.size, 0, none⟩ = some (.int .i64 0) := hb1.cell 0
  have k1 : w1.cell? ⟨w.heap.size, 1, none⟩ = some (.int .i64 0) := hb1.cell 1
  have f0 := hb1.frozen 0
  have f1 := hb1.frozen 1
  have hz := hb1.lt
  go_wp2_with fail
  go_region
  all_goals go_wp2
  obtain ⟨e0, e1, e2, _⟩ := res_end (only_trans h0 h1) hb1 rfl 3 x (.cells #[.int .i64 3, .int .i64 x] 47)
  unfold setF at e0 e1 e2
  exact bodyPost_ret (v := .tuple #[.int .u8 0, .agg #[.int .i64 3, .int .i64 x]]) (by simp [results, Tryd.results39, go_sem, e0, e1]) rfl ⟨rfl, e2⟩

/-- What Part of the document's reader leaves where there are n bytes. -/
def RPartOk (q : Nat) (bs : List UInt8) (a bg n : Nat) (w : World) (e : Ending) (w' : World) : Prop :=
  ∃ p, e = .returned (.tuple #[.pointer (some ⟨p, 0, none⟩), .agg #[.int .i64 0, .int .i64 0]]) ∧ w.heap.size ≤ p ∧ w.grownBy w' (some q) ∧ RefR w' q bs (a + n) bg ∧ RefR w' p ((bs.drop a).take n) 0 (bg + a)

set_option maxRecDepth 100000 in
set_option maxHeartbeats 1000000 in
theorem rpart_ok {w : World} {q a bg : Nat} {bs : List UInt8} (h : RefR w q bs a bg) (n : Nat) (hn : a + n ≤ bs.length) :
    Calls Tryd.prog 41 #[.pointer (some ⟨q, 0, none⟩), .int .i64 (n : Int)] w (RPartOk q bs a bg n w) := by
  have h0 : w.grownBy (w.alloc (.cells #[.int .i64 0, .int .i64 0] 47)) none := only_alloc (only_refl _ _) _
  have hql := h.lt
  have hR := h.kept h0 (fun e => by cases e)
  have hb0 := Blk.new w 47 #[.int .i64 0, .int .i64 0]
  go_enter Tryd.func41, Tryd.ntmps41
  go_wp2_with fail
  refine (rplace_any hR).mono ?_
  rintro e w0 ⟨rfl, hp⟩
  have hR0 := hR.kept hp (fun e => by cases e)
  go_wp2_with fail
  refine (rtake_ok hR0 n hn).mono ?_
  rintro e w1 ⟨rfl, h1, hr1⟩
  have hb1 := (hb0.kept hp).grown h1 (fun e => by injection e with e; omega)
  have k0 : w1.cell? ⟨w.heap.size, 0, none⟩ = some (.int .i64 0) := hb1.cell 0
  have k1 : w1.cell? ⟨w.heap.size, 1, none⟩ = some (.int .i64 0) := hb1.cell 1
  have f0 := hb1.frozen 0
  have f1 := hb1.frozen 1
  have hz := hb1.lt
  have hbd : (bg + a) + ((bs.drop a).take n).length ≤ 4611686018427387904 := by
    obtain ⟨_, _, _, _, hb⟩ := hr1
    simp
    omega
  generalize hls : (bs.drop a).take n = l at *
  have hlz : (⟨l.toArray⟩ : ByteArray).data.toList = l := by simp
  have hsz : (⟨l.toArray⟩ : ByteArray).size = l.length := by rw [← bytes_len, hlz]
  have HSZ := Lib.hid hsz
  have HLZ := Lib.hid hlz
  have HBD := Lib.hid hbd
  have HLS := Lib.hid hls
  clear hsz hlz hbd hls
  generalize (⟨l.toArray⟩ : ByteArray) = str at *
  go_wp2_with fail
  go_region
  all_goals go_wp2
  obtain ⟨e0, e1, e2, e3, e4⟩ := part_res_end (only_trans (only_weak (only_trans h0 hp) _) h1) hb1 rfl (.cells #[.int .i64 0, .int .i64 0] 47) str (bg + a) (by rw [HSZ.out]; exact HBD.out)
  have e5 := e3 _ _ _ _ hr1 hql
  rw [HLZ.out, ← HLS.out] at e4
  rw [Int.natCast_add] at e0 e1 e2 e4 e5
  unfold setF at e0 e1 e2 e4 e5
  exact bodyPost_ret (v := .tuple #[.pointer (some ⟨w1.heap.size + 1, 0, none⟩), .agg #[.int .i64 0, .int .i64 0]]) (by simp [results, Tryd.results41, go_sem, e0, e1]) rfl ⟨w1.heap.size + 1, rfl, by omega, e2, e5, e4⟩
end Go.Proofs.YtjjfofifooailaaDoor

/- The document's answer for readers (colloquyref01): Place, Left, fault, Take, Byte, Part, End: what each answers, and what it leaves. -/
import Derived.Test.YtmbdaenjeeklfaaDoorOctW
import Derived.Laws.StructEq
namespace Go.Proofs.YtmbdaenjeeklfaaDoor
open Go.RowKit

/-- Block q is the document's reader of the bytes bs, at place a, whose bytes begin at bg. -/
def RefR (w : World) (q : Nat) (bs : List UInt8) (a bg : Nat) : Prop :=
  ∃ s : ByteArray, Blk w q 42 #[.string s, .int .i64 (a : Int), .int .i64 (bg : Int)] ∧ s.data.toList = bs ∧ a ≤ bs.length ∧ bg + bs.length ≤ 4611686018427387904
theorem RefR.kept {w w' : World} {q a bg : Nat} {bs : List UInt8} {row : Option Nat} (h : RefR w q bs a bg) (hg : w.grownBy w' row) (hr : some q ≠ row) : RefR w' q bs a bg := by
  obtain ⟨s, hb, r⟩ := h
  exact ⟨s, hb.grown hg hr, r⟩
theorem RefR.lt {w : World} {q a bg : Nat} {bs : List UInt8} (h : RefR w q bs a bg) : q < w.heap.size := by obtain ⟨_, h, _⟩ := h; exact h.lt
theorem RefR.blk {w : World} {q a bg : Nat} {bs : List UInt8} (h : RefR w q bs a bg) : ∃ cs, Blk w q 42 cs := by obtain ⟨_, h, _⟩ := h; exact ⟨_, h⟩
theorem RefR.new (s : ByteArray) (w : World) (bg : Nat) (hs : bg + s.size ≤ 4611686018427387904) : RefR (w.alloc (.cells #[.string s, .int .i64 0, .int .i64 (bg : Int)] 42)) w.heap.size s.data.toList 0 bg :=
  ⟨s, Blk.new w _ _, rfl, Nat.zero_le _, by rw [bytes_len]; exact hs⟩

theorem rplace_any {w : World} {q a bg : Nat} {bs : List UInt8} (h : RefR w q bs a bg) :
    Calls Tryd.prog 26 #[.pointer (some ⟨q, 0, none⟩)] w fun e w' => e = .returned (.int .i64 ((bg : Int) + (a : Int))) ∧ w.grownBy w' none := by
  obtain ⟨s, hb, _, h1, h2⟩ := h
  have c1 : w.cell? ⟨q, 1, none⟩ = some (.int .i64 (a : Int)) := hb.cell 1
  have c2 : w.cell? ⟨q, 2, none⟩ = some (.int .i64 (bg : Int)) := hb.cell 2
  have hs : (bg : Int) + (a : Int) ≤ 9223372036854775807 := by omega
  go_enter Tryd.func26, Tryd.ntmps26
  go_wp2
  go_quiet (fail)
  go_wp2
  go_ret
  exact ⟨rfl, only_drewN (only_refl _ _) _⟩

theorem rleft_any {w : World} {q a bg : Nat} {bs : List UInt8} (h : RefR w q bs a bg) :
    Calls Tryd.prog 79 #[.pointer (some ⟨q, 0, none⟩)] w fun e w' => e = .returned (.int .i64 ((bs.length : Int) - (a : Int))) ∧ w.grownBy w' none := by
  obtain ⟨s, hb, he, h1, h2⟩ := h
  subst he
  rw [bytes_len] at h1 h2 ⊢
  have c0 : w.cell? ⟨q, 0, none⟩ = some (.string s) := hb.cell 0
  have c1 : w.cell? ⟨q, 1, none⟩ = some (.int .i64 (a : Int)) := hb.cell 1
  have hs : s.size ≤ 4611686018427387904 := by omega
  clear h2
  go_enter Tryd.func79, Tryd.ntmps79
  go_wp2
  go_quiet (fail)
  go_wp2
  go_ret
  exact ⟨rfl, only_drewN (only_refl _ _) _⟩

/-- A fault's two cells are stored into a block of the call's own. -/
def setF (w : World) (n : Nat) (c x : Int) : World := (w.setCell ⟨n, 0, none⟩ (.int .i64 c)).setCell ⟨n, 1, none⟩ (.int .i64 x)
theorem setF_blk {w : World} {n : Nat} {cs : Array Value} (h : Blk w n 48 cs) (hc : cs.size = 2) (c x : Int) : Blk (setF w n c x) n 48 #[.int .i64 c, .int .i64 x] := by
  have := (h.set_ 0 (.int .i64 c)).set_ 1 (.int .i64 x)
  obtain ⟨l⟩ := cs
  match l, hc with
  | [u, v], _ => exact this
theorem setF_only {w0 w : World} {row : Option Nat} {n : Nat} (h : w0.grownBy w row) (hn : w0.heap.size ≤ n) (c x : Int) : w0.grownBy (setF w n c x) row := only_setNew (only_setNew h hn _) hn _

theorem rfault_any {w : World} {q a bg : Nat} {bs : List UInt8} (h : RefR w q bs a bg) (c : Int) :
    Calls Tryd.prog 78 #[.pointer (some ⟨q, 0, none⟩), .int .i64 c] w fun e w' => e = .returned (.agg #[.int .i64 c, .int .i64 ((bg : Int) + (a : Int))]) ∧ w.grownBy w' none := by
  have h0 : w.grownBy (w.alloc (.cells #[.int .i64 0, .int .i64 0] 48)) none := only_alloc (only_refl _ _) _
  have H := rplace_any (h.kept h0 (fun e => by cases e))
  have hb0 := Blk.new w 48 #[.int .i64 0, .int .i64 0]
  go_enter Tryd.func78, Tryd.ntmps78
  go_wp2_with fail
  refine H.mono ?_
  rintro e w1 ⟨rfl, h1⟩
  have hb1 := hb0.kept h1
  have k0 : w1.cell? ⟨w.heap.size, 0, none⟩ = some (.int .i64 0) := hb1.cell 0
  have k1 : w1.cell? ⟨w.heap.size, 1, none⟩ = some (.int .i64 0) := hb1.cell 1
  have f0 := hb1.frozen 0
  have f1 := hb1.frozen 1
  go_wp2_with fail
  have hF := setF_blk hb1 rfl c ((bg : Int) + (a : Int))
  have hS := setF_only (only_trans h0 h1) (Nat.le_refl w.heap.size) c ((bg : Int) + (a : Int))
  have e0 := hF.cell 0
  have e1 := hF.cell 1
  unfold setF at e0 e1 hS
  exact bodyPost_ret (v := .agg #[.int .i64 c, .int .i64 ((bg : Int) + (a : Int))]) (by simp [results, Tryd.results78, go_sem, e0, e1]) rfl ⟨rfl, hS⟩

end Go.Proofs.YtmbdaenjeeklfaaDoor

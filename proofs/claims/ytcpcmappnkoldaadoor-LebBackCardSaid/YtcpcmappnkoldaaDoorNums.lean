/- Rows of numbers and whole numbers: as arguments hold them, and as they are laid by turns; a writer's calls at a state. -/
import Derived.Test.YtcpcmappnkoldaaDoorRefL
namespace Go.Proofs.YtcpcmappnkoldaaDoor
open Go.RowKit

/-- The numbers, as the argument holds them. -/
def U64s (w : World) (A : Option Addr) (n : Nat) (lf : Nat → Nat) : Prop := ∀ k, k < n → ∃ (b off : Nat), A = some ⟨b, off, none⟩ ∧ b < w.heap.size ∧ lf k < 18446744073709551616 ∧ w.cell? ⟨b, off + k, none⟩ = some (.int .u64 (lf k : Int))
def I64s (w : World) (A : Option Addr) (n : Nat) (mf : Nat → Int) : Prop := ∀ k, k < n → ∃ (b off : Nat), A = some ⟨b, off, none⟩ ∧ b < w.heap.size ∧ Whole (mf k) ∧ w.cell? ⟨b, off + k, none⟩ = some (.int .i64 (mf k))

/-- What is laid in round k, and in all rounds ahead of it. -/
def rowB (n m : Nat) (lf : Nat → Nat) (mf : Nat → Int) (k : Nat) : List UInt8 := (if k < n then sev (lf k) else []) ++ (if k < m then sev (foldN (mf k)) else [])
def allB (n m : Nat) (lf : Nat → Nat) (mf : Nat → Int) : Nat → List UInt8
  | 0 => []
  | k + 1 => allB n m lf mf k ++ rowB n m lf mf k
section
variable {n m : Nat} {lf : Nat → Nat} {mf : Nat → Int} {k : Nat}
theorem allB_both (h1 : k < n) (h2 : k < m) : allB n m lf mf (k + 1) = (allB n m lf mf k ++ sev (lf k)) ++ sev (foldN (mf k)) := by simp [allB, rowB, h1, h2]
theorem allB_left (h1 : k < n) (h2 : ¬ k < m) : allB n m lf mf (k + 1) = allB n m lf mf k ++ sev (lf k) := by simp [allB, rowB, h1, h2]
theorem allB_right (h1 : ¬ k < n) (h2 : k < m) : allB n m lf mf (k + 1) = allB n m lf mf k ++ sev (foldN (mf k)) := by simp [allB, rowB, h1, h2]
theorem allB_len (hl : ∀ k, k < n → lf k < 18446744073709551616) (hm : ∀ k, k < m → Whole (mf k)) (k : Nat) : (allB n m lf mf k).length ≤ 20 * k := by
  induction k with
  | zero => simp [allB]
  | succ k ih =>
    have : (rowB n m lf mf k).length ≤ 20 := by
      unfold rowB
      rw [List.length_append]
      have h1 : (if k < n then sev (lf k) else []).length ≤ 10 := by
        split
        · exact sev_len10 (hl k (by assumption))
        · simp
      have h2 : (if k < m then sev (foldN (mf k)) else []).length ≤ 10 := by
        split
        · exact sev_len10 (foldN_lt (hm k (by assumption)))
        · simp
      omega
    rw [allB, List.length_append]; omega
theorem allB_pre (r k : Nat) (h : k ≤ r) : ∃ rest, allB n m lf mf r = allB n m lf mf k ++ rest := by
  induction r with
  | zero => obtain rfl : k = 0 := by omega
            exact ⟨[], by simp⟩
  | succ r ih =>
    by_cases hk : k ≤ r
    · obtain ⟨rest, hr⟩ := ih hk
      exact ⟨rest ++ rowB n m lf mf r, by rw [allB, hr, List.append_assoc]⟩
    · obtain rfl : k = r + 1 := by omega
      exact ⟨[], by simp⟩
theorem allB_drop (r k : Nat) (h : k < r) : ∃ rest, (allB n m lf mf r).drop (allB n m lf mf k).length = rowB n m lf mf k ++ rest := by
  obtain ⟨rest, hr⟩ := allB_pre (n := n) (m := m) (lf := lf) (mf := mf) r (k + 1) h
  exact ⟨rest, by rw [hr, allB, List.append_assoc, List.drop_left]⟩
end

/-- The writer holds bs, and nothing that was there has turned. -/
structure PW (w0 w : World) (g : Nat) (bs : List UInt8) : Prop where
  err0 : ErrType w0
  step : w0.grownBy w none
  wtr : Wtr w0.heap.size w g bs
section
variable {w0 w w' : World} {g : Nat} {bs bs' : List UInt8}
theorem PW.err (h : PW w0 w g bs) : ErrType w := h.err0.kept h.step (fun _ e => by cases e)
theorem PW.none_ (h : PW w0 w g bs) (hg : w.grownBy w' none) : PW w0 w' g bs := ⟨h.err0, only_trans h.step hg, h.wtr.kept hg⟩
theorem PW.wrote (h : PW w0 w g bs) (hw : Wtr w0.heap.size w' g bs') (ht : Turn (WS w0.heap.size w g) w w') : PW w0 w' g bs' :=
  ⟨h.err0, Turn.only h.step ht (fun _ hi => WS.le h.wtr.1 hi), hw⟩
theorem putU_pw (h : PW w0 w g bs) (n : Nat) (hn : n < 18446744073709551616) (hl : bs.length ≤ 1000000) :
    Calls Tryd.prog 21 #[.pointer (some ⟨g, 0, none⟩), .int .u64 (n : Int)] w fun e w' => e = .returned (.tuple #[]) ∧ PW w0 w' g (bs ++ sev n) :=
  (putU_any h.wtr h.step.size n hn (by omega)).mono fun _ _ ⟨h1, h2, h3⟩ => ⟨h1, h.wrote h2 h3⟩
theorem putS_pw (h : PW w0 w g bs) (z : Int) (hz : Whole z) (hl : bs.length ≤ 1000000) :
    Calls Tryd.prog 23 #[.pointer (some ⟨g, 0, none⟩), .int .i64 z] w fun e w' => e = .returned (.tuple #[]) ∧ PW w0 w' g (bs ++ sev (foldN z)) :=
  (putS_any h.wtr h.step.size z hz (by omega)).mono fun _ _ ⟨h1, h2, h3⟩ => ⟨h1, h.wrote h2 h3⟩
theorem rbytes_pw (h : PW w0 w g bs) (n : Nat) (hn : n < 18446744073709551616) :
    Calls Tryd.prog 22 #[.int .u64 (n : Int)] w fun e w' => ∃ s : ByteArray, e = .returned (.string s) ∧ s.data.toList = sev n ∧ s.size ≤ 10 ∧ PW w0 w' g bs :=
  (rbytes_any n hn w).mono fun _ _ ⟨h1, h2⟩ => ⟨_, h1, by simp, by rw [← bytes_len]; simpa using sev_len10 hn, h.none_ h2⟩
theorem rfold_pw (h : PW w0 w g bs) (z : Int) (hz : Whole z) :
    Calls Tryd.prog 24 #[.int .i64 z] w fun e w' => e = .returned (.int .u64 (foldN z : Int)) ∧ PW w0 w' g bs :=
  (rfold_any z hz w).mono fun _ _ ⟨h1, h2⟩ => ⟨h1, h.none_ h2⟩
end
theorem app_list (t s : ByteArray) {l l' : List UInt8} (h1 : t.data.toList = l) (h2 : s.data.toList = l') : (t ++ s).data.toList = l ++ l' := by rw [← h1, ← h2]; simp
end Go.Proofs.YtcpcmappnkoldaaDoor

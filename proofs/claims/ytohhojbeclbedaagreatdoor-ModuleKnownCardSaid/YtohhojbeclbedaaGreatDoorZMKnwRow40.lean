/- Texts joined for the claim's sake: MKnE. -/
import Derived.Test.YtohhojbeclbedaaGreatDoorZMKnwRow28
import Derived.Test.YtohhojbeclbedaaGreatDoorZMKnwRow38
namespace Go.Proofs.YtohhojbeclbedaaGreatDoor
open Go.RowKit

/-- Cells of things, one by one. -/
def AllE {α : Type} (E : Enc α) (S : Nat → Prop) (W : World) : List α → List (Array Value) → Prop
  | [], [] => True
  | x :: xs, c :: cs => E S W x c ∧ AllE E S W xs cs
  | _, _ => False
theorem AllE.len {α : Type} {E : Enc α} {S : Nat → Prop} {W : World} : ∀ {xs : List α} {css : List (Array Value)}, AllE E S W xs css → css.length = xs.length
  | [], [], _ => rfl
  | _ :: _, _ :: _, h => by rw [List.length_cons, List.length_cons, AllE.len h.2]
  | [], _ :: _, h => h.elim
  | _ :: _, [], h => h.elim
theorem AllE.at_ {α : Type} {E : Enc α} {S : Nat → Prop} {W : World} : ∀ {xs : List α} {css : List (Array Value)}, AllE E S W xs css → ∀ (i : Nat) (x : α), xs[i]? = some x → ∃ cs, css[i]? = some cs ∧ E S W x cs
  | [], [], _, i, x, hx => by simp at hx
  | y :: xs, c :: css, h, i, x, hx => by
    cases i with
    | zero =>
      simp only [List.getElem?_cons_zero, Option.some.injEq] at hx
      subst hx
      exact ⟨c, rfl, h.1⟩
    | succ i =>
      rw [List.getElem?_cons_succ] at hx
      obtain ⟨cs, h1, h2⟩ := AllE.at_ h.2 i x hx
      exact ⟨cs, by rw [List.getElem?_cons_succ]; exact h1, h2⟩
  | [], _ :: _, h, _, _, _ => h.elim
  | _ :: _, [], h, _, _, _ => h.elim
/-- A row, as the things that lie in it. -/
theorem ListA.of_blk {α : Type} {E : Enc α} {sz : Nat} {S : Nat → Prop} {W : World} {g : Nat} {t : TypeId} {cells : Array Value} {xs : List α} (css : List (Array Value)) (hb : Blk W g t cells) (hc : cells.toList = css.flatMap Array.toList) (hs : ∀ cs ∈ css, cs.size = sz) (hS : S g) (hE : AllE E S W xs css) (hl : xs.length ≤ 1000) :
    ListA E sz S W (.slice (some ⟨g, 0, none⟩) xs.length xs.length) xs := by
  refine ⟨_, _, rfl, Nat.le_refl _, by omega, fun _ => ⟨g, 0, rfl, hS, fun i x hx => ?_⟩⟩
  obtain ⟨cs, h1, h2⟩ := hE.at_ i x hx
  refine ⟨cs, h2, fun j u hu => ?_⟩
  have h3 := flat_at css hs i cs h1 j u hu
  rw [← hc, Array.getElem?_toList] at h3
  have := hb.cell (i * sz + j)
  rw [h3] at this
  rw [Nat.zero_add]
  exact this

/-- A row of things that are alike. -/
def rowZ (z : Array Value) (n : Nat) : Array Value := ((List.replicate n z).flatMap Array.toList).toArray
theorem AllE.rep {α : Type} {E : Enc α} {S : Nat → Prop} {W : World} {x : α} {cs : Array Value} (h : E S W x cs) : ∀ n : Nat, AllE E S W (List.replicate n x) (List.replicate n cs)
  | 0 => trivial
  | n + 1 => by rw [List.replicate_succ, List.replicate_succ]; exact ⟨h, AllE.rep h n⟩
theorem ListA.zero_ {α : Type} {E : Enc α} {sz : Nat} {S : Nat → Prop} {W : World} {g : Nat} {t : TypeId} {x : α} {cs : Array Value} (n : Nat) (hn : n ≤ 1000) (hb : Blk W g t (rowZ cs n)) (hsz : cs.size = sz) (hS : S g) (hE : E S W x cs) : ListA E sz S W (.slice (some ⟨g, 0, none⟩) n n) (List.replicate n x) := by
  have h := ListA.of_blk (E := E) (sz := sz) (S := S) (W := W) (xs := List.replicate n x) (List.replicate n cs) hb (by simp [rowZ]) (fun c hc => by rw [List.eq_of_mem_replicate hc]; exact hsz) hS (AllE.rep hE n) (by simpa using hn)
  rwa [List.length_replicate] at h
theorem ListA.zeroB {α : Type} {E : Enc α} {sz : Nat} {W : World} {g : Nat} {t : TypeId} {x : α} {cs : Array Value} (n : Nat) (hn : n ≤ 1000) (hb : Blk W g t (rowZ cs n)) (hsz : cs.size = sz) (hE : E (fun k => k < W.heap.size) W x cs) : ListA E sz (fun k => k < W.heap.size) W (.slice (some ⟨g, 0, none⟩) n n) (List.replicate n x) := ListA.zero_ n hn hb hsz hb.lt hE
theorem ListA.blkB {α : Type} {E : Enc α} {sz : Nat} {W : World} {g : Nat} {t : TypeId} {x : α} {cs : Array Value} (hb : Blk W g t cs) (hE : E (fun k => k < W.heap.size) W x cs) : ListA E sz (fun k => k < W.heap.size) W (.slice (some ⟨g, 0, none⟩) 1 1) [x] := by
  refine ⟨_, 1, rfl, by simp, by omega, fun _ => ⟨g, 0, rfl, hb.lt, fun i y hy => ?_⟩⟩
  have hi : i = 0 := by have := (List.getElem?_eq_some_iff.1 hy).1; simpa using this
  subst hi
  simp only [List.getElem?_cons_zero, Option.some.injEq] at hy
  subst hy
  refine ⟨cs, hE, fun j u hu => ?_⟩
  have := hb.cell j
  simp only [Nat.zero_mul, Nat.zero_add]
  rw [this]
  exact hu
theorem make_z {ts t : TypeId} {z : Value} {sz bytes : Nat} (n : Nat) (hu : Tryz.prog.underlying ts = some (.slice t)) (hinfo : (Tryz.prog.info? t).map (fun i => (i.zero, i.size, i.bytes)) = some (some z, sz, bytes)) (hby : bytes ≤ 1000) (hn : n ≤ 1000) (hz : madeCells z.cells (n * sz) = rowZ z.cells n) (N : Int) (hN : N = (n : Int)) (W : World) :
    (Instr.makeSlice ts (.int .i64 N) (.int .i64 N)).run Tryz.prog W = .ok (.slice (some ⟨W.heap.size, 0, none⟩) n n) (W.alloc (.cells (rowZ z.cells n) t)) := by
  subst hN
  obtain ⟨i0, hi, hz0, hz1, hz2⟩ := info_parts hinfo
  have hb : bytes * n ≤ 1000 * 1000 := Nat.mul_le_mul hby hn
  have hr := run_make (P := Tryz.prog) W ts t i0 z hu hi hz0 .i64 .i64 (n : Int) (n : Int) (by omega) (Int.le_refl _) (by rw [hz2]; first | omega | (rw [Nat.mul_comm]; omega)) (by omega)
  rw [hz1] at hr
  simp only [Int.toNat_natCast] at hr
  rw [hz] at hr
  exact hr
theorem info_ke : (Tryz.prog.info? 62).map (fun i => (i.zero, i.size, i.bytes)) = some (some (.agg #[.int .i64 0, .int .i64 0]), 2, 16) := by kernel_rfl
theorem info_kn : (Tryz.prog.info? 65).map (fun i => (i.zero, i.size, i.bytes)) = some (some (.agg #[.int .i64 0, .int .i64 0, .bool false, .int .i64 0, .int .i64 0, .slice none 0 0]), 6, 64) := by kernel_rfl
theorem info_ky : (Tryz.prog.info? 67).map (fun i => (i.zero, i.size, i.bytes)) = some (some (.agg #[.int .i64 0, .int .i64 0]), 2, 16) := by kernel_rfl
theorem info_ks : (Tryz.prog.info? 74).map (fun i => (i.zero, i.size, i.bytes)) = some (some (.agg #[.int .i64 0, .slice none 0 0]), 2, 32) := by kernel_rfl
theorem make_e9 (W : World) : (Instr.makeSlice 63 (.int .i64 9) (.int .i64 9)).run Tryz.prog W = .ok (.slice (some ⟨W.heap.size, 0, none⟩) 9 9) (W.alloc (.cells (rowZ #[.int .i64 0, .int .i64 0] 9) 62)) :=
  make_z 9 Tryz.underlying63 info_ke (by decide) (by decide) (by kernel_rfl) 9 rfl W
theorem make_n65 (W : World) : (Instr.makeSlice 22 (.int .i64 65) (.int .i64 65)).run Tryz.prog W = .ok (.slice (some ⟨W.heap.size, 0, none⟩) 65 65) (W.alloc (.cells (rowZ #[.int .i64 0, .int .i64 0, .bool false, .int .i64 0, .int .i64 0, .slice none 0 0] 65) 65)) :=
  make_z 65 Tryz.underlying22 info_kn (by decide) (by decide) (by kernel_rfl) 65 rfl W
theorem make_n64 (W : World) : (Instr.makeSlice 22 (.int .i64 64) (.int .i64 64)).run Tryz.prog W = .ok (.slice (some ⟨W.heap.size, 0, none⟩) 64 64) (W.alloc (.cells (rowZ #[.int .i64 0, .int .i64 0, .bool false, .int .i64 0, .int .i64 0, .slice none 0 0] 64) 65)) :=
  make_z 64 Tryz.underlying22 info_kn (by decide) (by decide) (by kernel_rfl) 64 rfl W
theorem make_y16 (W : World) : (Instr.makeSlice 24 (.int .i64 16) (.int .i64 16)).run Tryz.prog W = .ok (.slice (some ⟨W.heap.size, 0, none⟩) 16 16) (W.alloc (.cells (rowZ #[.int .i64 0, .int .i64 0] 16) 67)) :=
  make_z 16 Tryz.underlying24 info_ky (by decide) (by decide) (by kernel_rfl) 16 rfl W
theorem make_s8 (W : World) : (Instr.makeSlice 25 (.int .i64 8) (.int .i64 8)).run Tryz.prog W = .ok (.slice (some ⟨W.heap.size, 0, none⟩) 8 8) (W.alloc (.cells (rowZ #[.int .i64 0, .slice none 0 0] 8) 74)) :=
  make_z 8 Tryz.underlying25 info_ks (by decide) (by decide) (by kernel_rfl) 8 rfl W
/-- One thing of a list, as a list of it alone: its cut. -/
theorem ListA.one_ {α : Type} {E : Enc α} {sz : Nat} {S : Nat → Prop} {W : World} {g off n c : Nat} {xs : List α} (h : ListA E sz S W (.slice (some ⟨g, off, none⟩) n c) xs) {i : Nat} {x : α} (hx : xs[i]? = some x) (c' : Nat) (h1 : 1 ≤ c') (hc : c' ≤ 1000000) : ListA E sz S W (.slice (some ⟨g, off + i * sz, none⟩) 1 c') [x] := by
  obtain ⟨b, o, cs, e, hS, hE, hcell⟩ := h.at_ hx
  injection e with e
  injection e with e1 e2
  subst e1 e2
  refine ⟨_, c', rfl, h1, by omega, fun _ => ⟨g, off + i * sz, rfl, hS, fun j y hy => ?_⟩⟩
  have hj : j = 0 := by have := (List.getElem?_eq_some_iff.1 hy).1; simpa using this
  subst hj
  simp only [List.getElem?_cons_zero, Option.some.injEq] at hy
  subst hy
  refine ⟨cs, hE, fun k u hu => ?_⟩
  rw [Nat.zero_mul, Nat.add_zero]
  exact hcell k u hu
end Go.Proofs.YtohhojbeclbedaaGreatDoor

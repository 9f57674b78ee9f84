/- class: what is known of a node, as the key of a map. -/
import Derived.Test.YtepjkoegbehojaaZCRfn
import Derived.Test.YtepjkoegbehojaaZMgAJ
import Derived.Maps.OwnIn
import Derived.DeepKeys4
namespace Go.Proofs.Ytepjkoegbehojaa
open Go.RowKit Go.Maps

def padE (es : List Ed) (i : Nat) : Ed := es.getD i (0, 0)
/-- What is known, as cells: n Next, of which those of es are written. -/
abbrev knC (k : Int) (ch : Bool) (p : Ed) (n : Int) (es : List Ed) : Array Value :=
  #[.int .i64 k, .bool ch, .int .i64 p.1, .int .i64 p.2, .int .i64 n, .int .i64 (padE es 0).1, .int .i64 (padE es 0).2, .int .i64 (padE es 1).1, .int .i64 (padE es 1).2, .int .i64 (padE es 2).1, .int .i64 (padE es 2).2, .int .i64 (padE es 3).1, .int .i64 (padE es 3).2, .int .i64 (padE es 4).1, .int .i64 (padE es 4).2, .int .i64 (padE es 5).1, .int .i64 (padE es 5).2, .int .i64 (padE es 6).1, .int .i64 (padE es 6).2, .int .i64 (padE es 7).1, .int .i64 (padE es 7).2]
def knA (x : Nd) : Array Value := knC x.kind x.chan x.pay (x.next.length : Int) x.next
abbrev knV (x : Nd) : Value := .agg (knA x)
/-- What is known is small. -/
structure KN (x : Nd) : Prop where
  prio : x.prio = 0
  len : x.next.length ≤ 8
  kind : -1000000000 ≤ x.kind ∧ x.kind ≤ 1000000000
  pay : (-1000000000 ≤ x.pay.1 ∧ x.pay.1 ≤ 1000000000) ∧ (-1000000000 ≤ x.pay.2 ∧ x.pay.2 ≤ 1000000000)
  next : ∀ e ∈ x.next, (-1000000000 ≤ e.1 ∧ e.1 ≤ 1000000000) ∧ (-1000000000 ≤ e.2 ∧ e.2 ≤ 1000000000)
theorem KN.pad {x : Nd} (h : KN x) (i : Nat) : (-1000000000 ≤ (padE x.next i).1 ∧ (padE x.next i).1 ≤ 1000000000) ∧ (-1000000000 ≤ (padE x.next i).2 ∧ (padE x.next i).2 ≤ 1000000000) := by
  unfold padE
  rw [List.getD_eq_getElem?_getD]
  cases e : x.next[i]? with
  | none => rw [Option.getD_none]; decide
  | some y => exact h.next y (List.mem_of_getElem? e)
theorem knA_inj {x y : Nd} (hx : KN x) (hy : KN y) (h : knA x = knA y) : x = y := by
  obtain ⟨k, p, c, ⟨a, b⟩, es⟩ := x
  obtain ⟨k', p', c', ⟨a', b'⟩, es'⟩ := y
  unfold knA knC at h
  have h1 := hx.prio
  have h2 := hy.prio
  have l1 := hx.len
  have l2 := hy.len
  dsimp only at h h1 h2 l1 l2
  simp only [Array.mk.injEq, List.cons.injEq, Value.int.injEq, Value.bool.injEq, true_and, and_true] at h
  obtain ⟨e1, e2, e3, e4, e5, a0, b0, a1, b1, a2, b2, a3, b3, a4, b4, a5, b5, a6, b6, a7, b7⟩ := h
  have hl : es.length = es'.length := by omega
  have hp : ∀ i, i < 8 → padE es i = padE es' i := fun i hi => by
    have : i = 0 ∨ i = 1 ∨ i = 2 ∨ i = 3 ∨ i = 4 ∨ i = 5 ∨ i = 6 ∨ i = 7 := by omega
    rcases this with rfl | rfl | rfl | rfl | rfl | rfl | rfl | rfl <;> exact Prod.ext (by assumption) (by assumption)
  have hes : es = es' := by
    refine List.ext_getElem hl fun i h1 h2 => ?_
    have := hp i (by omega)
    unfold padE at this
    rw [List.getD_eq_getElem?_getD, List.getD_eq_getElem?_getD, List.getElem?_eq_getElem h1, List.getElem?_eq_getElem h2] at this
    exact this
  rw [e1, e2, e3, e4, hes, h1, h2]

/-! ### As a key -/
theorem known_laid : laidOutB Try.prog = true := by kernel_rfl
theorem known_wide : (match Try.prog.underlying 68 with | some (.array _ _) | some (.struct _) => true | _ => false) = true := by kernel_rfl
set_option maxRecDepth 100000 in
theorem known_law : Keyed Try.prog 68 := Keyed.of_law (deep_law_laid known_laid (m := 4) (by omega) (of_decide_eq_true (by kernel_rfl)) (by kernel_rfl) known_wide)
theorem cells_link : Try.prog.cellsOf 54 = 2 := by kernel_rfl
theorem cells_links8 : Try.prog.cellsOf 66 = 16 := by kernel_rfl
theorem cells_known : Try.prog.cellsOf 68 = 21 := by kernel_rfl
theorem cells_intK : Try.prog.cellsOf 3 = 1 := by kernel_rfl
theorem cells_boolK : Try.prog.cellsOf 4 = 1 := by kernel_rfl
theorem lits_int (d : Nat) {a : Int} (h : (Lit.int .i64 a).wf = true) : Try.prog.keyLits (d + 1) 3 [.int .i64 a] = some [.int .i64 a] := by
  unfold Program.keyLits
  rw [Try.underlying3]
  simp [h]
theorem lits_bool (d : Nat) (b : Bool) : Try.prog.keyLits (d + 1) 4 [.bool b] = some [.bool b] := by
  unfold Program.keyLits
  rw [Try.underlying4]
theorem lits_link (d : Nat) {a b : Int} (ha : (Lit.int .i64 a).wf = true) (hb : (Lit.int .i64 b).wf = true) : Try.prog.keyLits (d + 2) 54 [.int .i64 a, .int .i64 b] = some [.int .i64 a, .int .i64 b] := by
  unfold Program.keyLits
  rw [Try.underlying54]
  simp [cells_link, cells_intK, lits_int d ha, lits_int d hb]
theorem wf64 {a : Int} (h : -1000000000 ≤ a ∧ a ≤ 1000000000) : (Lit.int .i64 a).wf = true := WalkArith.wf_i64 (by omega)
theorem lits_links (d : Nat) {es : List Ed} (h : ∀ i, (Lit.int .i64 (padE es i).1).wf = true ∧ (Lit.int .i64 (padE es i).2).wf = true) : ∃ ls, Try.prog.keyLits (d + 3) 66 [.int .i64 (padE es 0).1, .int .i64 (padE es 0).2, .int .i64 (padE es 1).1, .int .i64 (padE es 1).2, .int .i64 (padE es 2).1, .int .i64 (padE es 2).2, .int .i64 (padE es 3).1, .int .i64 (padE es 3).2, .int .i64 (padE es 4).1, .int .i64 (padE es 4).2, .int .i64 (padE es 5).1, .int .i64 (padE es 5).2, .int .i64 (padE es 6).1, .int .i64 (padE es 6).2, .int .i64 (padE es 7).1, .int .i64 (padE es 7).2] = some ls := by
  unfold Program.keyLits
  rw [Try.underlying66]
  have hr : List.range 8 = [0, 1, 2, 3, 4, 5, 6, 7] := by decide
  have hl : ∀ i, Try.prog.keyLits (d + 2) 54 [.int .i64 (padE es i).1, .int .i64 (padE es i).2] = some [.int .i64 (padE es i).1, .int .i64 (padE es i).2] := fun i => lits_link d (h i).1 (h i).2
  simp [cells_link, cells_links8, hr, hl]
theorem lits_known (d : Nat) {k : Int} {ch : Bool} {p : Ed} {n : Int} {es : List Ed} (hk : (Lit.int .i64 k).wf = true) (hp1 : (Lit.int .i64 p.1).wf = true) (hp2 : (Lit.int .i64 p.2).wf = true) (hn : (Lit.int .i64 n).wf = true) (h : ∀ i, (Lit.int .i64 (padE es i).1).wf = true ∧ (Lit.int .i64 (padE es i).2).wf = true) : ∃ ls, Try.prog.keyLits (d + 4) 68 (knC k ch p n es).toList = some ls := by
  obtain ⟨ls, hls⟩ := lits_links d h
  unfold Program.keyLits
  rw [Try.underlying68]
  have h1 := lits_int (d + 2) hk
  have h2 := lits_bool (d + 2) ch
  have h3 := lits_link (d + 1) hp1 hp2
  have h4 := lits_int (d + 2) hn
  simp [cells_link, cells_links8, cells_known, cells_intK, cells_boolK, h1, h2, h3, h4, hls]
theorem size_types : ∃ d, Try.prog.types.size + 1 = d + 4 := ⟨Try.prog.types.size - 3, by have : 3 ≤ Try.prog.types.size := of_decide_eq_true (by kernel_rfl); omega⟩
set_option maxRecDepth 100000 in
theorem kn_key {x : Nd} (h : KN x) : ∃ l, keyOf Try.prog 68 (knV x) = some l := by
  obtain ⟨d, hd⟩ := size_types
  have hl : ((x.next.length : Nat) : Int) ≤ 8 := by have := h.len; omega
  obtain ⟨ls, hls⟩ := lits_known d (k := x.kind) (ch := x.chan) (p := x.pay) (n := (x.next.length : Int)) (es := x.next) (wf64 h.kind) (wf64 h.pay.1) (wf64 h.pay.2) (wf64 (by omega)) fun i => ⟨wf64 (h.pad i).1, wf64 (h.pad i).2⟩
  have hf : (knV x).formed Try.prog 68 = true := by
    unfold Value.formed
    rw [Try.underlying68, cells_known]
    rfl
  have hkt : Try.prog.keyType 68 = true := by kernel_rfl
  refine ⟨.string (keyBytes ls), ?_⟩
  unfold keyOf
  rw [Try.underlying68, hkt, hf, hd]
  show Option.map _ (Try.prog.keyLits (d + 4) 68 (knC x.kind x.chan x.pay (x.next.length : Int) x.next).toList) = _
  rw [hls]; rfl

/-! ### The map of what is known -/
def numElem : Value → Option (DataW Unit × List MemPlace)
  | .int .i64 z => some (.lit (.int .i64 z), [])
  | _ => none
theorem numElem_mk (z : Int) : numElem (.int .i64 z) = some (.lit (.int .i64 z), []) := rfl
theorem numElem_inv {v : Value} {z : Int} {ps : List MemPlace} (h : numElem v = some (.lit (.int .i64 z), ps)) : v = .int .i64 z := by
  unfold numElem at h
  split at h
  · simp only [Option.some.injEq, Prod.mk.injEq, DataW.lit.injEq, Lit.int.injEq, true_and] at h
    rw [h.1]
  · cases h
theorem num_zero (w : World) : (zeroValue 3).run Try.prog w = .ok (.int .i64 0) w := by kernel_rfl
set_option maxRecDepth 100000 in
theorem key_inj {x y : Nd} {l : Lit} (hx : KN x) (hy : KN y) (h : keyOf Try.prog 68 (knV x) = some l) (h' : keyOf Try.prog 68 (knV y) = some l) : x = y := by
  exact knA_inj hx hy (Value.agg.inj (known_law.inj h h'))
/-- Block b is a map, of at most m entries: it tells of each of ks where it stands. -/
def KMap (W : World) (b m : Nat) (ks : List Nd) : Prop := ∃ D : DataW Unit, W.ownsMap Try.prog 68 numElem b m D ∧ (∀ y ∈ ks, KN y) ∧
  ∀ x l, KN x → keyOf Try.prog 68 (knV x) = some l → (Maps.has D l = true ↔ x ∈ ks) ∧ (∀ c : Nat, ks[c]? = some x → D.atKey l (.lit (.int .i64 0)) = .lit (.int .i64 (c : Int))) ∧ (x ∉ ks → D.atKey l (.lit (.int .i64 0)) = .lit (.int .i64 0))
theorem KMap.made (W : World) : KMap (W.alloc (.map #[] 0)) W.heap.size 0 [] :=
  ⟨.map [], World.ownsMap_made _ _ _ _, fun y h => (by cases h), fun x l _ _ => ⟨⟨fun h => (by cases h), fun h => (by cases h)⟩, fun c h => (by simp at h), fun _ => rfl⟩⟩
theorem KMap.lt {W : World} {b m : Nat} {ks : List Nd} (h : KMap W b m ks) : b < W.heap.size := by obtain ⟨D, h, _⟩ := h; exact h.lt
theorem KMap.kept {W W' : World} {b m : Nat} {ks : List Nd} {row : Option Nat} (h : KMap W b m ks) (hg : W.grownBy W' row) (hne : some b ≠ row) : KMap W' b m ks := by
  obtain ⟨D, h, h2⟩ := h; exact ⟨D, h.kept hg hne, h2⟩
theorem KMap.setCell {W : World} {b m : Nat} {ks : List Nd} (h : KMap W b m ks) {a : Addr} (ha : b ≠ a.block) (u : Value) : KMap (W.setCell a u) b m ks := by
  obtain ⟨D, h, h2⟩ := h; exact ⟨D, h.setCell ha u, h2⟩
theorem KMap.look_new {W : World} {b m : Nat} {ks : List Nd} (h : KMap W b m ks) {x : Nd} (hx : KN x) (hn : x ∉ ks) :
    (Instr.lookup 96 (.map (some b)) (knV x) true).run Try.prog W = .ok (.tuple #[.int .i64 0, .bool false]) W := by
  obtain ⟨D, h, _, h2⟩ := h
  obtain ⟨l, hl⟩ := kn_key hx
  obtain ⟨v, ps, hrun, hv⟩ := h.look_ok known_law Try.underlying96 (num_zero _) (numElem_mk 0) hl
  obtain ⟨hh, _, ha⟩ := h2 x l hx hl
  rw [ha hn] at hv
  have : Maps.has D (l) = false := by
    cases e : Maps.has D (l) with
    | false => rfl
    | true => exact absurd (hh.1 e) hn
  rw [this, numElem_inv hv] at hrun
  exact hrun
theorem KMap.look_old {W : World} {b m : Nat} {ks : List Nd} (h : KMap W b m ks) {x : Nd} {c : Nat} (hx : KN x) (hc : ks[c]? = some x) :
    (Instr.lookup 96 (.map (some b)) (knV x) true).run Try.prog W = .ok (.tuple #[.int .i64 (c : Int), .bool true]) W := by
  obtain ⟨D, h, _, h2⟩ := h
  obtain ⟨l, hl⟩ := kn_key hx
  obtain ⟨v, ps, hrun, hv⟩ := h.look_ok known_law Try.underlying96 (num_zero _) (numElem_mk 0) hl
  obtain ⟨hh, ha, _⟩ := h2 x l hx hl
  rw [ha c hc] at hv
  rw [hh.2 (List.mem_of_getElem? hc), numElem_inv hv] at hrun
  exact hrun
theorem KMap.put {W : World} {b m : Nat} {ks : List Nd} (h : KMap W b m ks) {x : Nd} (hx : KN x) (hn : x ∉ ks) (hm : m ≤ 1000000) :
    ∃ W', (Instr.mapUpdate 96 (.map (some b)) (knV x) (.int .i64 (ks.length : Int))).run Try.prog W = .ok () W' ∧ KMap W' b (m + 1) (ks ++ [x]) ∧ W.mapTurned W' b := by
  obtain ⟨D, h, hks, h2⟩ := h
  obtain ⟨l, hl⟩ := kn_key hx
  obtain ⟨W', hrun, h3, h4⟩ := h.store known_law Try.underlying96 (by unfold maxLen; omega) hl (numElem_mk (ks.length : Int))
  refine ⟨W', hrun, ⟨_, h3, fun y hy => ?_, fun y ly hy hly => ?_⟩, h4⟩
  · rcases List.mem_append.1 hy with hy | hy
    · exact hks y hy
    · obtain rfl := List.mem_singleton.1 hy; exact hx
  have hmp := h.isMap
  have hk : WideAt.IsKeyLit l := known_law.key hl
  by_cases e : y = x
  · subst e
    obtain rfl : l = ly := Option.some.inj (hl.symm.trans hly)
    rw [has_put_same hmp hk, atKey_put_same hmp hk]
    refine ⟨⟨fun _ => by simp, fun _ => rfl⟩, fun c hc => ?_, fun hn' => absurd (by simp) hn'⟩
    have : c = ks.length := by
      rcases Nat.lt_trichotomy c ks.length with hlt | heq | hgt
      · rw [List.getElem?_append_left hlt] at hc
        exact absurd (List.mem_of_getElem? hc) hn
      · exact heq
      · rw [List.getElem?_eq_none (by simp; omega)] at hc; cases hc
    rw [this]
  · have hne : ly ≠ l := fun e' => e (key_inj hy hx hly (by rw [e']; exact hl))
    rw [has_put_other hne, atKey_put_other hne]
    obtain ⟨p1, p2, p3⟩ := h2 y ly hy hly
    refine ⟨p1.trans ⟨fun h => by simp [h], fun h => ?_⟩, fun c hc => p2 c ?_, fun hn' => p3 fun h => hn' (by simp [h])⟩
    · rcases List.mem_append.1 h with h | h
      · exact h
      · exact absurd (List.mem_singleton.1 h) e
    · rcases Nat.lt_or_ge c ks.length with hlt | hge
      · rwa [List.getElem?_append_left hlt] at hc
      · rw [List.getElem?_append_right hge] at hc
        have : c - ks.length = 0 := by
          rcases Nat.eq_zero_or_pos (c - ks.length) with h0 | h0
          · exact h0
          · rw [List.getElem?_eq_none (by simp; omega)] at hc; cases hc
        rw [this] at hc
        simp only [List.getElem?_cons_zero, Option.some.injEq] at hc
        exact absurd hc.symm e
end Go.Proofs.Ytepjkoegbehojaa

/- Texts joined for the claim's sake: CKey, CLnk. -/
import Derived.Test.YtmhbmeckdbdhpaaZSKnwRow19
import Derived.Test.YtmhbmeckdbdhpaaZSKnwRow12
import Derived.Maps.OwnIn
import Derived.DeepKeys4
import Derived.Test.YtmhbmeckdbdhpaaZSKnwRow16
import Derived.Deep.CutBlock
import Derived.Deep.CutRange
import Derived.Deep.QuietTactic
import Derived.BigQuiet
import Derived.StillTailTactics
namespace Go.Proofs.Ytmhbmeckdbdhpaa
open Go.RowKit Go.Maps

def padE (es : List Ed) (i : Nat) : Ed := es.getD i (0, 0)
/-- What is known, as cells: n Next, of which those of es are written. -/
abbrev knC (k : Int) (ch : Bool) (p : Ed) (n : Int) (es : List Ed) : Array Value :=
  #[.int .i64 k, .bool ch, .int .i64 p.1, .int .i64 p.2, .int .i64 n, .int .i64 (padE es 0).1, .int .i64 (padE es 0).2, .int .i64 (padE es 1).1, .int .i64 (padE es 1).2, .int .i64 (padE es 2).1, .int .i64 (padE es 2).2, .int .i64 (padE es 3).1, .int .i64 (padE es 3).2, .int .i64 (padE es 4).1, .int .i64 (padE es 4).2, .int .i64 (padE es 5).1, .int .i64 (padE es 5).2, .int .i64 (padE es 6).1, .int .i64 (padE es 6).2, .int .i64 (padE es 7).1, .int .i64 (padE es 7).2]
def knA (x : Nd) : Array Value := knC x.kind x.chan x.pay (x.next.length : Int) x.next
abbrev knV (x : Nd) : Value := .agg (knA x)
/-- What is known is small. -/
structure KN (x : Nd) : Prop where
  prio : x.prio = 0
  len : x.next.length ≤ 8
  kind : -1000000000 ≤ x.kind ∧ x.kind ≤ 1000000000
  pay : (-1000000000 ≤ x.pay.1 ∧ x.pay.1 ≤ 1000000000) ∧ (-1000000000 ≤ x.pay.2 ∧ x.pay.2 ≤ 1000000000)
  next : ∀ e ∈ x.next, (-1000000000 ≤ e.1 ∧ e.1 ≤ 1000000000) ∧ (-1000000000 ≤ e.2 ∧ e.2 ≤ 1000000000)
theorem KN.pad {x : Nd} (h : KN x) (i : Nat) : (-1000000000 ≤ (padE x.next i).1 ∧ (padE x.next i).1 ≤ 1000000000) ∧ (-1000000000 ≤ (padE x.next i).2 ∧ (padE x.next i).2 ≤ 1000000000) := by
  unfold padE
  rw [List.getD_eq_getElem?_getD]
  cases e : x.next[i]? with
  | none => rw [Option.getD_none]; decide
  | some y => exact h.next y (List.mem_of_getElem? e)
theorem knA_inj {x y : Nd} (hx : KN x) (hy : KN y) (h : knA x = knA y) : x = y := by
  obtain ⟨k, p, c, ⟨a, b⟩, es⟩ := x
  obtain ⟨k', p', c', ⟨a', b'⟩, es'⟩ := y
  unfold knA knC at h
  have h1 := hx.prio
  have h2 := hy.prio
  have l1 := hx.len
  have l2 := hy.len
  dsimp only at h h1 h2 l1 l2
  simp only [Array.mk.injEq, List.cons.injEq, Value.int.injEq, Value.bool.injEq, true_and, and_true] at h
  obtain ⟨e1, e2, e3, e4, e5, a0, b0, a1, b1, a2, b2, a3, b3, a4, b4, a5, b5, a6, b6, a7, b7⟩ := h
  have hl : es.length = es'.length := by omega
  have hp : ∀ i, i < 8 → padE es i = padE es' i := fun i hi => by
    have : i = 0 ∨ i = 1 ∨ i = 2 ∨ i = 3 ∨ i = 4 ∨ i = 5 ∨ i = 6 ∨ i = 7 := by omega
    rcases this with rfl | rfl | rfl | rfl | rfl | rfl | rfl | rfl <;> exact Prod.ext (by assumption) (by assumption)
  have hes : es = es' := by
    refine List.ext_getElem hl fun i h1 h2 => ?_
    have := hp i (by omega)
    unfold padE at this
    rw [List.getD_eq_getElem?_getD, List.getD_eq_getElem?_getD, List.getElem?_eq_getElem h1, List.getElem?_eq_getElem h2] at this
    exact this
  rw [e1, e2, e3, e4, hes, h1, h2]

/-! ### As a key -/
theorem known_laid : laidOutB Try.prog = true := by kernel_rfl
theorem known_wide : (match Try.prog.underlying 97 with | some (.array _ _) | some (.struct _) => true | _ => false) = true := by kernel_rfl
set_option maxRecDepth 100000 in
theorem known_law : Keyed Try.prog 97 := Keyed.of_law (deep_law_laid known_laid (m := 4) (by omega) (of_decide_eq_true (by kernel_rfl)) (by kernel_rfl) known_wide)
theorem cells_link : Try.prog.cellsOf 83 = 2 := by kernel_rfl
theorem cells_links8 : Try.prog.cellsOf 95 = 16 := by kernel_rfl
theorem cells_known : Try.prog.cellsOf 97 = 21 := by kernel_rfl
theorem cells_intK : Try.prog.cellsOf 3 = 1 := by kernel_rfl
theorem cells_boolK : Try.prog.cellsOf 4 = 1 := by kernel_rfl
theorem lits_int (d : Nat) {a : Int} (h : (Lit.int .i64 a).wf = true) : Try.prog.keyLits (d + 1) 3 [.int .i64 a] = some [.int .i64 a] := by
  unfold Program.keyLits
  rw [Try.underlying3]
  simp [h]
theorem lits_bool (d : Nat) (b : Bool) : Try.prog.keyLits (d + 1) 4 [.bool b] = some [.bool b] := by
  unfold Program.keyLits
  rw [Try.underlying4]
theorem lits_link (d : Nat) {a b : Int} (ha : (Lit.int .i64 a).wf = true) (hb : (Lit.int .i64 b).wf = true) : Try.prog.keyLits (d + 2) 83 [.int .i64 a, .int .i64 b] = some [.int .i64 a, .int .i64 b] := by
  unfold Program.keyLits
  rw [Try.underlying83]
  simp [cells_link, cells_intK, lits_int d ha, lits_int d hb]
theorem wf64 {a : Int} (h : -1000000000 ≤ a ∧ a ≤ 1000000000) : (Lit.int .i64 a).wf = true := WalkArith.wf_i64 (by omega)
theorem lits_links (d : Nat) {es : List Ed} (h : ∀ i, (Lit.int .i64 (padE es i).1).wf = true ∧ (Lit.int .i64 (padE es i).2).wf = true) : ∃ ls, Try.prog.keyLits (d + 3) 95 [.int .i64 (padE es 0).1, .int .i64 (padE es 0).2, .int .i64 (padE es 1).1, .int .i64 (padE es 1).2, .int .i64 (padE es 2).1, .int .i64 (padE es 2).2, .int .i64 (padE es 3).1, .int .i64 (padE es 3).2, .int .i64 (padE es 4).1, .int .i64 (padE es 4).2, .int .i64 (padE es 5).1, .int .i64 (padE es 5).2, .int .i64 (padE es 6).1, .int .i64 (padE es 6).2, .int .i64 (padE es 7).1, .int .i64 (padE es 7).2] = some ls := by
  unfold Program.keyLits
  rw [Try.underlying95]
  have hr : List.range 8 = [0, 1, 2, 3, 4, 5, 6, 7] := by decide
  have hl : ∀ i, Try.prog.keyLits (d + 2) 83 [.int .i64 (padE es i).1, .int .i64 (padE es i).2] = some [.int .i64 (padE es i).1, .int .i64 (padE es i).2] := fun i => lits_link d (h i).1 (h i).2
  simp [cells_link, cells_links8, hr, hl]
theorem lits_known (d : Nat) {k : Int} {ch : Bool} {p : Ed} {n : Int} {es : List Ed} (hk : (Lit.int .i64 k).wf = true) (hp1 : (Lit.int .i64 p.1).wf = true) (hp2 : (Lit.int .i64 p.2).wf = true) (hn : (Lit.int .i64 n).wf = true) (h : ∀ i, (Lit.int .i64 (padE es i).1).wf = true ∧ (Lit.int .i64 (padE es i).2).wf = true) : ∃ ls, Try.prog.keyLits (d + 4) 97 (knC k ch p n es).toList = some ls := by
  obtain ⟨ls, hls⟩ := lits_links d h
  unfold Program.keyLits
  rw [Try.underlying97]
  have h1 := lits_int (d + 2) hk
  have h2 := lits_bool (d + 2) ch
  have h3 := lits_link (d + 1) hp1 hp2
  have h4 := lits_int (d + 2) hn
  simp [cells_link, cells_links8, cells_known, cells_intK, cells_boolK, h1, h2, h3, h4, hls]
theorem size_types : ∃ d, Try.prog.types.size + 1 = d + 4 := ⟨Try.prog.types.size - 3, by have : 3 ≤ Try.prog.types.size := of_decide_eq_true (by kernel_rfl); omega⟩
set_option maxRecDepth 100000 in
theorem kn_key {x : Nd} (h : KN x) : ∃ l, keyOf Try.prog 97 (knV x) = some l := by
  obtain ⟨d, hd⟩ := size_types
  have hl : ((x.next.length : Nat) : Int) ≤ 8 := by have := h.len; omega
  obtain ⟨ls, hls⟩ := lits_known d (k := x.kind) (ch := x.chan) (p := x.pay) (n := (x.next.length : Int)) (es := x.next) (wf64 h.kind) (wf64 h.pay.1) (wf64 h.pay.2) (wf64 (by omega)) fun i => ⟨wf64 (h.pad i).1, wf64 (h.pad i).2⟩
  have hf : (knV x).formed Try.prog 97 = true := by
    unfold Value.formed
    rw [Try.underlying97, cells_known]
    rfl
  have hkt : Try.prog.keyType 97 = true := by kernel_rfl
  refine ⟨.string (keyBytes ls), ?_⟩
  unfold keyOf
  rw [Try.underlying97, hkt, hf, hd]
  show Option.map _ (Try.prog.keyLits (d + 4) 97 (knC x.kind x.chan x.pay (x.next.length : Int) x.next).toList) = _
  rw [hls]; rfl

/-! ### The map of what is known -/
def numElem : Value → Option (DataW Unit × List MemPlace)
  | .int .i64 z => some (.lit (.int .i64 z), [])
  | _ => none
theorem numElem_mk (z : Int) : numElem (.int .i64 z) = some (.lit (.int .i64 z), []) := rfl
theorem numElem_inv {v : Value} {z : Int} {ps : List MemPlace} (h : numElem v = some (.lit (.int .i64 z), ps)) : v = .int .i64 z := by
  unfold numElem at h
  split at h
  · simp only [Option.some.injEq, Prod.mk.injEq, DataW.lit.injEq, Lit.int.injEq, true_and] at h
    rw [h.1]
  · cases h
theorem num_zero (w : World) : (zeroValue 3).run Try.prog w = .ok (.int .i64 0) w := by kernel_rfl
set_option maxRecDepth 100000 in
theorem key_inj {x y : Nd} {l : Lit} (hx : KN x) (hy : KN y) (h : keyOf Try.prog 97 (knV x) = some l) (h' : keyOf Try.prog 97 (knV y) = some l) : x = y := by
  exact knA_inj hx hy (Value.agg.inj (known_law.inj h h'))
/-- Block b is a map, of at most m entries: it tells of each of ks where it stands. -/
def KMap (W : World) (b m : Nat) (ks : List Nd) : Prop := ∃ D : DataW Unit, W.ownsMap Try.prog 97 numElem b m D ∧ (∀ y ∈ ks, KN y) ∧
  ∀ x l, KN x → keyOf Try.prog 97 (knV x) = some l → (Maps.has D l = true ↔ x ∈ ks) ∧ (∀ c : Nat, ks[c]? = some x → D.atKey l (.lit (.int .i64 0)) = .lit (.int .i64 (c : Int))) ∧ (x ∉ ks → D.atKey l (.lit (.int .i64 0)) = .lit (.int .i64 0))
theorem KMap.made (W : World) : KMap (W.alloc (.map #[] 0)) W.heap.size 0 [] :=
  ⟨.map [], World.ownsMap_made _ _ _ _, fun y h => (by cases h), fun x l _ _ => ⟨⟨fun h => (by cases h), fun h => (by cases h)⟩, fun c h => (by simp at h), fun _ => rfl⟩⟩
theorem KMap.lt {W : World} {b m : Nat} {ks : List Nd} (h : KMap W b m ks) : b < W.heap.size := by obtain ⟨D, h, _⟩ := h; exact h.lt
theorem KMap.kept {W W' : World} {b m : Nat} {ks : List Nd} {row : Option Nat} (h : KMap W b m ks) (hg : W.grownBy W' row) (hne : some b ≠ row) : KMap W' b m ks := by
  obtain ⟨D, h, h2⟩ := h; exact ⟨D, h.kept hg hne, h2⟩
theorem KMap.setCell {W : World} {b m : Nat} {ks : List Nd} (h : KMap W b m ks) {a : Addr} (ha : b ≠ a.block) (u : Value) : KMap (W.setCell a u) b m ks := by
  obtain ⟨D, h, h2⟩ := h; exact ⟨D, h.setCell ha u, h2⟩
theorem KMap.look_new {W : World} {b m : Nat} {ks : List Nd} (h : KMap W b m ks) {x : Nd} (hx : KN x) (hn : x ∉ ks) :
    (Instr.lookup 114 (.map (some b)) (knV x) true).run Try.prog W = .ok (.tuple #[.int .i64 0, .bool false]) W := by
  obtain ⟨D, h, _, h2⟩ := h
  obtain ⟨l, hl⟩ := kn_key hx
  obtain ⟨v, ps, hrun, hv⟩ := h.look_ok known_law Try.underlying114 (num_zero _) (numElem_mk 0) hl
  obtain ⟨hh, _, ha⟩ := h2 x l hx hl
  rw [ha hn] at hv
  have : Maps.has D (l) = false := by
    cases e : Maps.has D (l) with
    | false => rfl
    | true => exact absurd (hh.1 e) hn
  rw [this, numElem_inv hv] at hrun
  exact hrun
theorem KMap.look_old {W : World} {b m : Nat} {ks : List Nd} (h : KMap W b m ks) {x : Nd} {c : Nat} (hx : KN x) (hc : ks[c]? = some x) :
    (Instr.lookup 114 (.map (some b)) (knV x) true).run Try.prog W = .ok (.tuple #[.int .i64 (c : Int), .bool true]) W := by
  obtain ⟨D, h, _, h2⟩ := h
  obtain ⟨l, hl⟩ := kn_key hx
  obtain ⟨v, ps, hrun, hv⟩ := h.look_ok known_law Try.underlying114 (num_zero _) (numElem_mk 0) hl
  obtain ⟨hh, ha, _⟩ := h2 x l hx hl
  rw [ha c hc] at hv
  rw [hh.2 (List.mem_of_getElem? hc), numElem_inv hv] at hrun
  exact hrun
theorem KMap.put {W : World} {b m : Nat} {ks : List Nd} (h : KMap W b m ks) {x : Nd} (hx : KN x) (hn : x ∉ ks) (hm : m ≤ 1000000) :
    ∃ W', (Instr.mapUpdate 114 (.map (some b)) (knV x) (.int .i64 (ks.length : Int))).run Try.prog W = .ok () W' ∧ KMap W' b (m + 1) (ks ++ [x]) ∧ W.mapTurned W' b := by
  obtain ⟨D, h, hks, h2⟩ := h
  obtain ⟨l, hl⟩ := kn_key hx
  obtain ⟨W', hrun, h3, h4⟩ := h.store known_law Try.underlying114 (by unfold maxLen; omega) hl (numElem_mk (ks.length : Int))
  refine ⟨W', hrun, ⟨_, h3, fun y hy => ?_, fun y ly hy hly => ?_⟩, h4⟩
  · rcases List.mem_append.1 hy with hy | hy
    · exact hks y hy
    · obtain rfl := List.mem_singleton.1 hy; exact hx
  have hmp := h.isMap
  have hk : WideAt.IsKeyLit l := known_law.key hl
  by_cases e : y = x
  · subst e
    obtain rfl : l = ly := Option.some.inj (hl.symm.trans hly)
    rw [has_put_same hmp hk, atKey_put_same hmp hk]
    refine ⟨⟨fun _ => by simp, fun _ => rfl⟩, fun c hc => ?_, fun hn' => absurd (by simp) hn'⟩
    have : c = ks.length := by
      rcases Nat.lt_trichotomy c ks.length with hlt | heq | hgt
      · rw [List.getElem?_append_left hlt] at hc
        exact absurd (List.mem_of_getElem? hc) hn
      · exact heq
      · rw [List.getElem?_eq_none (by simp; omega)] at hc; cases hc
    rw [this]
  · have hne : ly ≠ l := fun e' => e (key_inj hy hx hly (by rw [e']; exact hl))
    rw [has_put_other hne, atKey_put_other hne]
    obtain ⟨p1, p2, p3⟩ := h2 y ly hy hly
    refine ⟨p1.trans ⟨fun h => by simp [h], fun h => ?_⟩, fun c hc => p2 c ?_, fun hn' => p3 fun h => hn' (by simp [h])⟩
    · rcases List.mem_append.1 h with h | h
      · exact h
      · exact absurd (List.mem_singleton.1 h) e
    · rcases Nat.lt_or_ge c ks.length with hlt | hge
      · rwa [List.getElem?_append_left hlt] at hc
      · rw [List.getElem?_append_right hge] at hc
        have : c - ks.length = 0 := by
          rcases Nat.eq_zero_or_pos (c - ks.length) with h0 | h0
          · exact h0
          · rw [List.getElem?_eq_none (by simp; omega)] at hc; cases hc
        rw [this] at hc
        simp only [List.getElem?_cons_zero, Option.some.injEq] at hc
        exact absurd hc.symm e
end Go.Proofs.Ytmhbmeckdbdhpaa

namespace Go.Proofs.Ytmhbmeckdbdhpaa
open Go.RowKit Go.Shelf

/-- What a table of nodes and their duals is good for: Ends have no edges. -/
structure TX (L : List Nd) : Prop where
  tw : TW L
  len : L.length ≤ 128
  ends : ∀ x ∈ L, x.kind = 0 → allE x = []
/-- A value that reads as a table that is laid, with what each of its nodes comes to. -/
def LaidV (W : World) (lv : Value) (L : List Nd) : Prop := ∃ v2 vt vp, lv = .agg #[v2, vt, vp] ∧ Tbl W v2 L ∧ Ints W vt ((rootsL L).map Int.ofNat) ∧ Ints W vp ((List.range L.length).map (prioL L))
theorem LaidV.keep {W W' : World} {lv : Value} {L : List Nd} (h : LaidV W lv L) (hk : Keeps W W') : LaidV W' lv L := by
  obtain ⟨v2, vt, vp, h1, h2, h3, h4⟩ := h
  exact ⟨v2, vt, vp, h1, h2.keep hk, h3.keep hk, h4.keep hk⟩
theorem linkC_size : (Try.prog.info? 83).map (·.size) = some 2 := by kernel_rfl
theorem clink_results {tmps : Array Value} {W : World} {g : Nat} {e : Ed} (hp : tmps.getD 8 undef = .pointer (some ⟨g, 0, none⟩)) (hb : Blk W g 83 (edCells e)) :
    (results Try.f68 tmps).run Try.prog W = .ok (edV e) W := by
  have hp' : tmps[8]?.getD undef = .pointer (some ⟨g, 0, none⟩) := by simpa using hp
  simp [results, Try.results68, hp', asAddr, run_loadVar_row W g _ 83 _ _ _ hb Try.underlying83 rfl (by exact linkC_size)]
theorem getD_some {os : List Nat} {i c : Nat} (h : os[i]? = some c) : os.getD i 0 = c := by rw [List.getD_eq_getElem?_getD, h]; rfl

set_option maxRecDepth 100000 in
set_option maxHeartbeats 2000000 in
theorem clink_any {L : List Nd} (hX : TX L) {os : List Nat} (hos : os.length = L.length) (hroot : ∀ i, i < L.length → os.getD (rootL L i) 0 = os.getD i 0) {a : Nat} {x : Nd} (hx : L[a]? = some x) (h5 : x.kind ≠ 5) {e : Ed} (he : e ∈ allE x)
    {lv ov : Value} {w : World} (hV : LaidV w lv L) (hO : Ints w ov (os.map Int.ofNat)) :
    Calls Try.prog 68 #[lv, ov, .int .i64 (a : Int), edV e] w fun en w' => en = .returned (edV (linkL L os x e)) ∧ w.grownBy w' none := by
  obtain ⟨v2, vt, vp, rfl, hT, hR, hP⟩ := hV
  have hlen := hX.len
  have hal : a < L.length := (List.getElem?_eq_some_iff.1 hx).1
  obtain ⟨t0, t1, s0, s1⟩ := hX.tw.edge x (List.mem_of_getElem? hx) e he
  obtain ⟨t, sh⟩ := e
  dsimp only at t0 t1 s0 s1
  obtain ⟨i, rfl⟩ : ∃ n : Nat, t = (n : Int) := ⟨t.toNat, by omega⟩
  have hil : i < L.length := by omega
  obtain ⟨m, y, s, hy, hy5, u0, u1, hrt, hpr, hres⟩ := root_at hX.tw hil
  have hml : m < L.length := (List.getElem?_eq_some_iff.1 hy).1
  have hx0 : x.kind ≠ 0 := fun h => by rw [hX.ends x (List.mem_of_getElem? hx) h] at he; cases he
  have hpa : prioL L a = x.prio := by
    have h1 := hX.tw.self a x 0 hx h5
    unfold prioL rootL
    rw [h1, Int.toNat_natCast, hx]
    dsimp only
    rw [if_neg hx0, Int.add_zero]
  obtain ⟨c, hc⟩ : ∃ c, os[i]? = some c := ⟨_, List.getElem?_eq_getElem (by omega)⟩
  have hcm : os.getD m 0 = c := by rw [← hrt, hroot i hil, getD_some hc]
  have hlk : linkL L os x ((i : Int), sh) = ((c : Int), if y.kind = 0 then 0 else y.prio + (s + sh) - x.prio) := by
    have hr := hres sh (by omega) (by omega)
    unfold linkL placeL
    rw [hr]
    simp only [Int.toNat_natCast, hy, hcm]
  have gx := hX.tw.good x (List.mem_of_getElem? hx)
  have gy := hX.tw.good y (List.mem_of_getElem? hy)
  obtain ⟨A2, k2, rfl, _⟩ := id hT
  obtain ⟨At, kt, rfl, _⟩ := id hR
  obtain ⟨Ap, kp, rfl, _⟩ := id hP
  obtain ⟨Ao, ko, rfl, _⟩ := id hO
  obtain ⟨b2, o2, A3, k3, rfl, _, m0, _⟩ := cls_at hT hy
  obtain ⟨bt, ot, rfl, r0⟩ := ints_at (k := i) (z := (m : Int)) hR (by rw [List.getElem?_map, root_get L hil, hrt]; rfl)
  obtain ⟨bp, op, hbp, p0⟩ := ints_at (k := i) (z := prioL L i) hP (by rw [List.getElem?_map, List.getElem?_range hil]; rfl)
  obtain ⟨bp', op', hbp', p1⟩ := ints_at (k := a) (z := prioL L a) hP (by rw [List.getElem?_map, List.getElem?_range hal]; rfl)
  obtain ⟨rfl, rfl⟩ : bp = bp' ∧ op = op' := by rw [hbp] at hbp'; simpa using hbp'
  obtain ⟨bo, oo, rfl, c0⟩ := ints_at (k := i) (z := (c : Int)) hO (by rw [List.getElem?_map, hc]; rfl)
  subst hbp
  rw [hpa] at p1
  have hb2 := cell_lt m0
  have hbt := cell_lt r0
  have hbp := cell_lt p0
  have hbo := cell_lt c0
  have e1 : (List.map Int.ofNat (rootsL L)).length = L.length := by rw [List.length_map, roots_len]
  have e2 : (List.map (prioL L) (List.range L.length)).length = L.length := by rw [List.length_map, List.length_range]
  have e3 : (List.map Int.ofNat os).length = L.length := by rw [List.length_map, hos]
  rw [e1, e2, e3]
  have hlI : (L.length : Int) ≤ 128 := by omega
  have hi0 : (0 : Int) ≤ (i : Int) := by omega
  have hi1 : (i : Int) < (L.length : Int) := by omega
  have ha0 : (0 : Int) ≤ (a : Int) := by omega
  have ha1 : (a : Int) < (L.length : Int) := by omega
  have hm0 : (0 : Int) ≤ (m : Int) := by omega
  have hm1 : (m : Int) < (L.length : Int) := by omega
  rw [hlk]
  obtain ⟨r, hr⟩ : ∃ r : Int, (if y.kind = 0 then 0 else y.prio + (s + sh) - x.prio) = r := ⟨_, rfl⟩
  rw [hr]
  have HR := Lib.hid hr
  clear hr
  dsimp only at hb2 hbt hbp hbo
  have hy5b : (y.kind == 0) = decide (y.kind = 0) := by by_cases h : y.kind = 0 <;> simp [h]
  have gk := gy.1
  have gp := gy.2.1
  have gq := gx.2.1
  clear hT hR hP hO e1 e2 e3 hlk hcm hpa hx0 hrt hres hX hy5 hy hc he hx h5 gx gy hroot hos
  go_enter Try.func68, Try.ntmps68
  go_upto_region 1 with fail
  generalize hW1 : World.alloc _ _ = W1
  have hg1 : w.grownBy W1 none := by rw [← hW1]; exact only_alloc (only_alloc (only_alloc (only_refl _ _) _) _) _
  have hbl : Blk W1 w.heap.size 90 #[.slice (some ⟨b2, o2, none⟩) L.length k2, .slice (some ⟨bt, ot, none⟩) L.length kt, .slice (some ⟨bp, op, none⟩) L.length kp] := by rw [← hW1]; exact ((Blk.new w _ _).alloc _).alloc _
  have hbe : Blk W1 (w.heap.size + 1) 67 #[.int .i64 (i : Int), .int .i64 sh] := by rw [← hW1]; exact (blk_at (by simp) _ _ : Blk ((w.alloc _).alloc _) (w.heap.size + 1) _ _).alloc _
  have hbr : Blk W1 (w.heap.size + 1 + 1) 83 #[.int .i64 0, .int .i64 0] := by rw [← hW1]; exact blk_at (by simp) _ _
  have l0 := hbl.cell 0
  have l1 := hbl.cell 1
  have l2 := hbl.cell 2
  have x0 := hbe.cell 0
  have x1 := hbe.cell 1
  have n0 := hbr.cell 0
  have n1 := hbr.cell 1
  have f0 := hbr.frozen 0
  have f1 := hbr.frozen 1
  have M0 := Keeps.grown hg1 _ _ m0
  have R0 := Keeps.grown hg1 _ _ r0
  have P0 := Keeps.grown hg1 _ _ p0
  have P1 := Keeps.grown hg1 _ _ p1
  have C0 := Keeps.grown hg1 _ _ c0
  have v2 := cell_lt M0
  have vt := cell_lt R0
  have vp := cell_lt P0
  have vo := cell_lt C0
  have HG1 := Lib.hid hg1
  have HBR := Lib.hid hbr
  dsimp only at v2 vt vp vo
  clear hW1 hg1 hbl hbe hbr m0 r0 p0 p1 c0
  by_cases hy0 : y.kind = 0
  · have HR2 : Hid (r = 0) := Lib.hid (by rw [← HR.out, if_pos hy0])
    rw [hy0] at M0
    clear hy0 hpr hy5b HR
    go_quiet (fail)
    go_wp2_with fail
    refine bodyPost_ret (clink_results (e := ((c : Int), 0)) rfl (((HBR.out.drewN nq).set_ 0 (.int .i64 (c : Int))).set_ 1 (.int .i64 0))) rfl ?_
    exact ⟨by rw [HR2.out], only_setNew (only_setNew (only_drewN HG1.out _) (p := ⟨w.heap.size + 1 + 1, 0, none⟩) (by show w.heap.size ≤ w.heap.size + 1 + 1; omega) _) (p := ⟨w.heap.size + 1 + 1, 1, none⟩) (by show w.heap.size ≤ w.heap.size + 1 + 1; omega) _⟩
  · have HR2 : Hid (r = y.prio + (s + sh) - x.prio) := Lib.hid (by rw [← HR.out, if_neg hy0])
    rw [if_neg hy0] at hpr
    rw [hpr] at P0
    have hyd : decide (y.kind = 0) = false := decide_eq_false hy0
    have w1 : IntKind.i64.wrap (y.prio + s + sh) = y.prio + s + sh := IntWalk.i64_in _ ⟨by omega, by omega⟩
    have w2 : IntKind.i64.wrap (y.prio + s + sh - x.prio) = y.prio + s + sh - x.prio := IntWalk.i64_in _ ⟨by omega, by omega⟩
    clear hy0 hpr HR
    go_upto_region 3 with (go_quiet (fail))
    have l1' := show (W1.drewN nq).cell? _ = _ from l0
    have l2' := show (W1.drewN nq).cell? _ = _ from l1
    have l3' := show (W1.drewN nq).cell? _ = _ from l2
    have l4' := show (W1.drewN nq).cell? _ = _ from x0
    have l5' := show (W1.drewN nq).cell? _ = _ from x1
    have l6' := show (W1.drewN nq).cell? _ = _ from n0
    have l7' := show (W1.drewN nq).cell? _ = _ from n1
    have l8' := show (W1.drewN nq).frozen? _ = _ from f0
    have l9' := show (W1.drewN nq).frozen? _ = _ from f1
    have m1' := show (W1.drewN nq).cell? _ = _ from P0
    have m2' := show (W1.drewN nq).cell? _ = _ from P1
    have m3' := show (W1.drewN nq).cell? _ = _ from C0
    have HB2 : Hid (Blk (W1.drewN nq) (w.heap.size + 1 + 1) 83 #[.int .i64 0, .int .i64 0]) := Lib.hid (HBR.out.drewN nq)
    have HG2 : Hid (w.grownBy (W1.drewN nq) none) := Lib.hid (only_drewN HG1.out nq)
    clear l0 l1 l2 x0 x1 n0 n1 f0 f1 P0 P1 C0 HBR HG1 M0 R0 vo vp
    generalize W1.drewN nq = W2 at *
    go_still_tail 21, (by kernel_rfl)
    change wpList _ _ _ _ _ W2.drew
    go_wp2_with fail
    refine bodyPost_ret (clink_results (e := ((c : Int), y.prio + s + sh - x.prio)) rfl ((HB2.out.drew.set_ 0 (.int .i64 (c : Int))).set_ 1 (.int .i64 (y.prio + s + sh - x.prio)))) rfl ?_
    exact ⟨by rw [HR2.out, Int.add_assoc y.prio s sh], only_setNew (only_setNew (only_drew HG2.out) (p := ⟨w.heap.size + 1 + 1, 0, none⟩) (by show w.heap.size ≤ w.heap.size + 1 + 1; omega) _) (p := ⟨w.heap.size + 1 + 1, 1, none⟩) (by show w.heap.size ≤ w.heap.size + 1 + 1; omega) _⟩
end Go.Proofs.Ytmhbmeckdbdhpaa

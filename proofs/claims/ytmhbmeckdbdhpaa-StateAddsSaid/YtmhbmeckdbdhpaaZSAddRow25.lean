/- Texts joined for the claim's sake: CLnk, CStp. -/
import Derived.Test.YtmhbmeckdbdhpaaZSAddRow24
import Derived.Test.YtmhbmeckdbdhpaaZSAddRow11
import Derived.Deep.CutBlock
import Derived.Deep.CutRange
import Derived.Deep.QuietTactic
import Derived.BigQuiet
import Derived.StillTailTactics
import Derived.Deep.WholeRow
namespace Go.Proofs.Ytmhbmeckdbdhpaa
open Go.RowKit Go.Shelf

/-- What a table of nodes and their duals is good for: Ends have no edges. -/
structure TX (L : List Nd) : Prop where
  tw : TW L
  len : L.length ≤ 128
  ends : ∀ x ∈ L, x.kind = 0 → allE x = []
/-- A value that reads as a table that is laid, with what each of its nodes comes to. -/
def LaidV (W : World) (lv : Value) (L : List Nd) : Prop := ∃ v2 vt vp, lv = .agg #[v2, vt, vp] ∧ Tbl W v2 L ∧ Ints W vt ((rootsL L).map Int.ofNat) ∧ Ints W vp ((List.range L.length).map (prioL L))
theorem LaidV.keep {W W' : World} {lv : Value} {L : List Nd} (h : LaidV W lv L) (hk : Keeps W W') : LaidV W' lv L := by
  obtain ⟨v2, vt, vp, h1, h2, h3, h4⟩ := h
  exact ⟨v2, vt, vp, h1, h2.keep hk, h3.keep hk, h4.keep hk⟩
theorem linkC_size : (Try.prog.info? 83).map (·.size) = some 2 := by kernel_rfl
theorem clink_results {tmps : Array Value} {W : World} {g : Nat} {e : Ed} (hp : tmps.getD 8 undef = .pointer (some ⟨g, 0, none⟩)) (hb : Blk W g 83 (edCells e)) :
    (results Try.f68 tmps).run Try.prog W = .ok (edV e) W := by
  have hp' : tmps[8]?.getD undef = .pointer (some ⟨g, 0, none⟩) := by simpa using hp
  simp [results, Try.results68, hp', asAddr, run_loadVar_row W g _ 83 _ _ _ hb Try.underlying83 rfl (by exact linkC_size)]
theorem getD_some {os : List Nat} {i c : Nat} (h : os[i]? = some c) : os.getD i 0 = c := by rw [List.getD_eq_getElem?_getD, h]; rfl

set_option maxRecDepth 100000 in
set_option maxHeartbeats 2000000 in
theorem clink_any {L : List Nd} (hX : TX L) {os : List Nat} (hos : os.length = L.length) (hroot : ∀ i, i < L.length → os.getD (rootL L i) 0 = os.getD i 0) {a : Nat} {x : Nd} (hx : L[a]? = some x) (h5 : x.kind ≠ 5) {e : Ed} (he : e ∈ allE x)
    {lv ov : Value} {w : World} (hV : LaidV w lv L) (hO : Ints w ov (os.map Int.ofNat)) :
    Calls Try.prog 68 #[lv, ov, .int .i64 (a : Int), edV e] w fun en w' => en = .returned (edV (linkL L os x e)) ∧ w.grownBy w' none := by
  obtain ⟨v2, vt, vp, rfl, hT, hR, hP⟩ := hV
  have hlen := hX.len
  have hal : a < L.length := (List.getElem?_eq_some_iff.1 hx).1
  obtain ⟨t0, t1, s0, s1⟩ := hX.tw.edge x (List.mem_of_getElem? hx) e he
  obtain ⟨t, sh⟩ := e
  dsimp only at t0 t1 s0 s1
  obtain ⟨i, rfl⟩ : ∃ n : Nat, t = (n : Int) := ⟨t.toNat, by omega⟩
  have hil : i < L.length := by omega
  obtain ⟨m, y, s, hy, hy5, u0, u1, hrt, hpr, hres⟩ := root_at hX.tw hil
  have hml : m < L.length := (List.getElem?_eq_some_iff.1 hy).1
  have hx0 : x.kind ≠ 0 := fun h => by rw [hX.ends x (List.mem_of_getElem? hx) h] at he; cases he
  have hpa : prioL L a = x.prio := by
    have h1 := hX.tw.self a x 0 hx h5
    unfold prioL rootL
    rw [h1, Int.toNat_natCast, hx]
    dsimp only
    rw [if_neg hx0, Int.add_zero]
  obtain ⟨c, hc⟩ : ∃ c, os[i]? = some c := ⟨_, List.getElem?_eq_getElem (by omega)⟩
  have hcm : os.getD m 0 = c := by rw [← hrt, hroot i hil, getD_some hc]
  have hlk : linkL L os x ((i : Int), sh) = ((c : Int), if y.kind = 0 then 0 else y.prio + (s + sh) - x.prio) := by
    have hr := hres sh (by omega) (by omega)
    unfold linkL placeL
    rw [hr]
    simp only [Int.toNat_natCast, hy, hcm]
  have gx := hX.tw.good x (List.mem_of_getElem? hx)
  have gy := hX.tw.good y (List.mem_of_getElem? hy)
  obtain ⟨A2, k2, rfl, _⟩ := id hT
  obtain ⟨At, kt, rfl, _⟩ := id hR
  obtain ⟨Ap, kp, rfl, _⟩ := id hP
  obtain ⟨Ao, ko, rfl, _⟩ := id hO
  obtain ⟨b2, o2, A3, k3, rfl, _, m0, _⟩ := cls_at hT hy
  obtain ⟨bt, ot, rfl, r0⟩ := ints_at (k := i) (z := (m : Int)) hR (by rw [List.getElem?_map, root_get L hil, hrt]; rfl)
  obtain ⟨bp, op, hbp, p0⟩ := ints_at (k := i) (z := prioL L i) hP (by rw [List.getElem?_map, List.getElem?_range hil]; rfl)
  obtain ⟨bp', op', hbp', p1⟩ := ints_at (k := a) (z := prioL L a) hP (by rw [List.getElem?_map, List.getElem?_range hal]; rfl)
  obtain ⟨rfl, rfl⟩ : bp = bp' ∧ op = op' := by rw [hbp] at hbp'; simpa using hbp'
  obtain ⟨bo, oo, rfl, c0⟩ := ints_at (k := i) (z := (c : Int)) hO (by rw [List.getElem?_map, hc]; rfl)
  subst hbp
  rw [hpa] at p1
  have hb2 := cell_lt m0
  have hbt := cell_lt r0
  have hbp := cell_lt p0
  have hbo := cell_lt c0
  have e1 : (List.map Int.ofNat (rootsL L)).length = L.length := by rw [List.length_map, roots_len]
  have e2 : (List.map (prioL L) (List.range L.length)).length = L.length := by rw [List.length_map, List.length_range]
  have e3 : (List.map Int.ofNat os).length = L.length := by rw [List.length_map, hos]
  rw [e1, e2, e3]
  have hlI : (L.length : Int) ≤ 128 := by omega
  have hi0 : (0 : Int) ≤ (i : Int) := by omega
  have hi1 : (i : Int) < (L.length : Int) := by omega
  have ha0 : (0 : Int) ≤ (a : Int) := by omega
  have ha1 : (a : Int) < (L.length : Int) := by omega
  have hm0 : (0 : Int) ≤ (m : Int) := by omega
  have hm1 : (m : Int) < (L.length : Int) := by omega
  rw [hlk]
  obtain ⟨r, hr⟩ : ∃ r : Int, (if y.kind = 0 then 0 else y.prio + (s + sh) - x.prio) = r := ⟨_, rfl⟩
  rw [hr]
  have HR := Lib.hid hr
  clear hr
  dsimp only at hb2 hbt hbp hbo
  have hy5b : (y.kind == 0) = decide (y.kind = 0) := by by_cases h : y.kind = 0 <;> simp [h]
  have gk := gy.1
  have gp := gy.2.1
  have gq := gx.2.1
  clear hT hR hP hO e1 e2 e3 hlk hcm hpa hx0 hrt hres hX hy5 hy hc he hx h5 gx gy hroot hos
  go_enter Try.func68, Try.ntmps68
  go_upto_region 1 with fail
  generalize hW1 : World.alloc _ _ = W1
  have hg1 : w.grownBy W1 none := by rw [← hW1]; exact only_alloc (only_alloc (only_alloc (only_refl _ _) _) _) _
  have hbl : Blk W1 w.heap.size 90 #[.slice (some ⟨b2, o2, none⟩) L.length k2, .slice (some ⟨bt, ot, none⟩) L.length kt, .slice (some ⟨bp, op, none⟩) L.length kp] := by rw [← hW1]; exact ((Blk.new w _ _).alloc _).alloc _
  have hbe : Blk W1 (w.heap.size + 1) 67 #[.int .i64 (i : Int), .int .i64 sh] := by rw [← hW1]; exact (blk_at (by simp) _ _ : Blk ((w.alloc _).alloc _) (w.heap.size + 1) _ _).alloc _
  have hbr : Blk W1 (w.heap.size + 1 + 1) 83 #[.int .i64 0, .int .i64 0] := by rw [← hW1]; exact blk_at (by simp) _ _
  have l0 := hbl.cell 0
  have l1 := hbl.cell 1
  have l2 := hbl.cell 2
  have x0 := hbe.cell 0
  have x1 := hbe.cell 1
  have n0 := hbr.cell 0
  have n1 := hbr.cell 1
  have f0 := hbr.frozen 0
  have f1 := hbr.frozen 1
  have M0 := Keeps.grown hg1 _ _ m0
  have R0 := Keeps.grown hg1 _ _ r0
  have P0 := Keeps.grown hg1 _ _ p0
  have P1 := Keeps.grown hg1 _ _ p1
  have C0 := Keeps.grown hg1 _ _ c0
  have v2 := cell_lt M0
  have vt := cell_lt R0
  have vp := cell_lt P0
  have vo := cell_lt C0
  have HG1 := Lib.hid hg1
  have HBR := Lib.hid hbr
  dsimp only at v2 vt vp vo
  clear hW1 hg1 hbl hbe hbr m0 r0 p0 p1 c0
  by_cases hy0 : y.kind = 0
  · have HR2 : Hid (r = 0) := Lib.hid (by rw [← HR.out, if_pos hy0])
    rw [hy0] at M0
    clear hy0 hpr hy5b HR
    go_quiet (fail)
    go_wp2_with fail
    refine bodyPost_ret (clink_results (e := ((c : Int), 0)) rfl (((HBR.out.drewN nq).set_ 0 (.int .i64 (c : Int))).set_ 1 (.int .i64 0))) rfl ?_
    exact ⟨by rw [HR2.out], only_setNew (only_setNew (only_drewN HG1.out _) (p := ⟨w.heap.size + 1 + 1, 0, none⟩) (by show w.heap.size ≤ w.heap.size + 1 + 1; omega) _) (p := ⟨w.heap.size + 1 + 1, 1, none⟩) (by show w.heap.size ≤ w.heap.size + 1 + 1; omega) _⟩
  · have HR2 : Hid (r = y.prio + (s + sh) - x.prio) := Lib.hid (by rw [← HR.out, if_neg hy0])
    rw [if_neg hy0] at hpr
    rw [hpr] at P0
    have hyd : decide (y.kind = 0) = false := decide_eq_false hy0
    have w1 : IntKind.i64.wrap (y.prio + s + sh) = y.prio + s + sh := IntWalk.i64_in _ ⟨by omega, by omega⟩
    have w2 : IntKind.i64.wrap (y.prio + s + sh - x.prio) = y.prio + s + sh - x.prio := IntWalk.i64_in _ ⟨by omega, by omega⟩
    clear hy0 hpr HR
    go_upto_region 3 with (go_quiet (fail))
    have l1' := show (W1.drewN nq).cell? _ = _ from l0
    have l2' := show (W1.drewN nq).cell? _ = _ from l1
    have l3' := show (W1.drewN nq).cell? _ = _ from l2
    have l4' := show (W1.drewN nq).cell? _ = _ from x0
    have l5' := show (W1.drewN nq).cell? _ = _ from x1
    have l6' := show (W1.drewN nq).cell? _ = _ from n0
    have l7' := show (W1.drewN nq).cell? _ = _ from n1
    have l8' := show (W1.drewN nq).frozen? _ = _ from f0
    have l9' := show (W1.drewN nq).frozen? _ = _ from f1
    have m1' := show (W1.drewN nq).cell? _ = _ from P0
    have m2' := show (W1.drewN nq).cell? _ = _ from P1
    have m3' := show (W1.drewN nq).cell? _ = _ from C0
    have HB2 : Hid (Blk (W1.drewN nq) (w.heap.size + 1 + 1) 83 #[.int .i64 0, .int .i64 0]) := Lib.hid (HBR.out.drewN nq)
    have HG2 : Hid (w.grownBy (W1.drewN nq) none) := Lib.hid (only_drewN HG1.out nq)
    clear l0 l1 l2 x0 x1 n0 n1 f0 f1 P0 P1 C0 HBR HG1 M0 R0 vo vp
    generalize W1.drewN nq = W2 at *
    go_still_tail 21, (by kernel_rfl)
    change wpList _ _ _ _ _ W2.drew
    go_wp2_with fail
    refine bodyPost_ret (clink_results (e := ((c : Int), y.prio + s + sh - x.prio)) rfl ((HB2.out.drew.set_ 0 (.int .i64 (c : Int))).set_ 1 (.int .i64 (y.prio + s + sh - x.prio)))) rfl ?_
    exact ⟨by rw [HR2.out, Int.add_assoc y.prio s sh], only_setNew (only_setNew (only_drew HG2.out) (p := ⟨w.heap.size + 1 + 1, 0, none⟩) (by show w.heap.size ≤ w.heap.size + 1 + 1; omega) _) (p := ⟨w.heap.size + 1 + 1, 1, none⟩) (by show w.heap.size ≤ w.heap.size + 1 + 1; omega) _⟩
end Go.Proofs.Ytmhbmeckdbdhpaa

namespace Go.Proofs.Ytmhbmeckdbdhpaa
open Go.RowKit Go.Shelf

def afterL (P : Program) (ops : Array Oper) (Q : Exit → Act → World → Prop) (l : List Oper) : Exit → Act → World → Prop
  | .normal, a, w => wpList P ops Q l a w
  | e, a, w => Q e a w
theorem upon_after {P : Program} {ops : Array Oper} {Q : Exit → Act → World → Prop} {l : List Oper} {o : Oper} {a : Act} {next : Act → World → Prop} (r : Result Next) (h : o.upon P a next (afterL P ops Q l) r) : o.upon P a next Q r := by
  cases r with
  | ok n w => cases n <;> exact h
  | halt s w => cases s <;> exact h
theorem wpList_app {P : Program} {ops : Array Oper} {Q : Exit → Act → World → Prop} {l2 : List Oper} : ∀ (l1 : List Oper) {a : Act} {w : World}, wpList P ops (afterL P ops Q l2) l1 a w → wpList P ops Q (l1 ++ l2) a w
  | [], _, _, h => h
  | o :: l1, a, w, h => by
    rw [List.cons_append]
    unfold wpList at h ⊢
    split at h
    · rename_i hw
      rw [if_pos hw]
      refine h.imp (fun h => ?_) (fun h => h)
      exact Oper.wp_mono (fun a w h => wpList_app l1 h) (upon_after _ h)
    · rename_i hw
      rw [if_neg hw]
      exact wpList_app l1 h
/-- The first n operations by themselves, and then the others. -/
theorem wpList_split {P : Program} {ops : Array Oper} {Q : Exit → Act → World → Prop} {l : List Oper} {a : Act} {w : World} (n : Nat) (l1 l2 : List Oper) (h1 : l.take n = l1) (h2 : l.drop n = l2) (h : ∀ Q', (∀ a w, wpList P ops Q l2 a w → Q' Exit.normal a w) → wpList P ops Q' l1 a w) : wpList P ops Q l a w := by
  have := wpList_app (P := P) (ops := ops) (Q := Q) (l2 := l2) l1 (h (afterL P ops Q l2) fun a w h => h)
  rwa [← h1, ← h2, List.take_append_drop] at this

theorem known_size : (Try.prog.info? 97).map (·.size) = some 21 := by kernel_rfl
theorem knC_one (k : Int) (ch : Bool) (p : Ed) (n : Int) (es : List Ed) : (knC k ch p n es).all (·.oneCell') = true := by simp [Value.oneCell']
theorem padE_snoc {es : List Ed} (e : Ed) (i : Nat) : padE (es ++ [e]) i = if i = es.length then e else padE es i := by
  unfold padE
  rw [List.getD_eq_getElem?_getD, List.getD_eq_getElem?_getD]
  by_cases h : i = es.length
  · rw [if_pos h, h, List.getElem?_append_right (Nat.le_refl _), Nat.sub_self]; rfl
  · rw [if_neg h]
    rcases Nat.lt_or_ge i es.length with h1 | h1
    · rw [List.getElem?_append_left h1]
    · rw [List.getElem?_append_right (by omega), List.getElem?_eq_none (by simp; omega), List.getElem?_eq_none (by omega)]
theorem Blk.putNext {W : World} {g : Nat} {t : TypeId} {k : Int} {ch : Bool} {p : Ed} {n : Int} {es : List Ed} (h : Blk W g t (knC k ch p n es)) (hl : es.length < 8) (e : Ed) :
    Blk ((W.setCell ⟨g, 5 + es.length * 2, none⟩ (.int .i64 e.1)).setCell ⟨g, 5 + es.length * 2 + 1, none⟩ (.int .i64 e.2)) g t (knC k ch p n (es ++ [e])) := by
  have h2 := (h.set_ (5 + es.length * 2) (.int .i64 e.1)).set_ (5 + es.length * 2 + 1) (.int .i64 e.2)
  have he : ((knC k ch p n es).setIfInBounds (5 + es.length * 2) (.int .i64 e.1)).setIfInBounds (5 + es.length * 2 + 1) (.int .i64 e.2) = knC k ch p n (es ++ [e]) := by
    unfold knC
    simp only [padE_snoc]
    obtain h0 | h0 | h0 | h0 | h0 | h0 | h0 | h0 : es.length = 0 ∨ es.length = 1 ∨ es.length = 2 ∨ es.length = 3 ∨ es.length = 4 ∨ es.length = 5 ∨ es.length = 6 ∨ es.length = 7 := by omega
    all_goals rw [h0]; rfl
  rw [← he]; exact h2
theorem Blk.putPay {W : World} {g : Nat} {t : TypeId} {k : Int} {ch : Bool} {p : Ed} {n : Int} {es : List Ed} (h : Blk W g t (knC k ch p n es)) (e : Ed) :
    Blk ((W.setCell ⟨g, 2, none⟩ (.int .i64 e.1)).setCell ⟨g, 3, none⟩ (.int .i64 e.2)) g t (knC k ch e n es) := (h.set_ 2 _).set_ 3 _
/-- The cells at a Next, written or not. -/
theorem Blk.atNext {W : World} {g : Nat} {t : TypeId} {k : Int} {ch : Bool} {p : Ed} {n : Int} {es : List Ed} (h : Blk W g t (knC k ch p n es)) {i : Nat} (hi : i < 8) : W.cell? ⟨g, 5 + i * 2, none⟩ = some (.int .i64 (padE es i).1) ∧ W.cell? ⟨g, 5 + i * 2 + 1, none⟩ = some (.int .i64 (padE es i).2) := by
  obtain rfl | rfl | rfl | rfl | rfl | rfl | rfl | rfl : i = 0 ∨ i = 1 ∨ i = 2 ∨ i = 3 ∨ i = 4 ∨ i = 5 ∨ i = 6 ∨ i = 7 := by omega
  all_goals exact ⟨h.cell _, h.cell _⟩
theorem Blk.row_ {W : World} {g : Nat} {t : TypeId} {cs : Array Value} (h : Blk W g t cs) (cs' : Array Value) : Blk (W.setRow g cs') g t cs' := by
  unfold Blk at h ⊢
  simp [World.setRow, Array.getElem?_modify, h]
theorem only_setRow {a b : World} (h : a.grownBy b none) {g : Nat} (hg : a.heap.size ≤ g) (cs : Array Value) : a.grownBy (b.setRow g cs) none :=
  ⟨h.os, h.tape, h.output, by simpa [World.setRow] using h.size, fun i hi hne => by
    rw [← h.block i hi hne]
    show (b.heap.modify g _)[i]? = _
    rw [Array.getElem?_modify, if_neg (by omega)]⟩
theorem wpList_load_known {ops : Array Oper} {rest : List Oper} {o : Oper} {a : Act} {W : World} {Q : Exit → Act → World → Prop} (hgd : o.guard = none) (x : Operand) (ho : o.op = .load 97 x) {g : Nat} {cs : Array Value} (hx : a.eval x = .pointer (some ⟨g, 0, none⟩)) (hb : Blk W g 97 cs) (hs : cs.size = 21)
    (h : wpList Try.prog ops Q rest (a.put o.dst (.agg cs)) W) : wpList Try.prog ops Q (o :: rest) a W := by
  refine wpList_plain hgd fun K hK => ?_
  have hr := run_loadVar_row (P := Try.prog) W g 97 97 cs (0, 0) _ hb Try.underlying97 rfl (by rw [known_size, hs])
  unfold Oper.wp execOp
  simp only [ho, hx, Instr.loadAt, Instr.sureAddr, Sem.run_bind, Sem.run_pure, Result.andThen_ok, hr]
  exact hK _ _ h
theorem known_results {tmps : Array Value} {W : World} {g : Nat} {cs : Array Value} (hp : tmps.getD 6 undef = .pointer (some ⟨g, 0, none⟩)) (hb : Blk W g 97 cs) (hs : cs.size = 21) :
    (results Try.f51 tmps).run Try.prog W = .ok (.agg cs) W := by
  have hp' : tmps[6]?.getD undef = .pointer (some ⟨g, 0, none⟩) := by simpa using hp
  simp [results, Try.results51, hp', asAddr, run_loadVar_row W g _ 97 _ _ _ hb Try.underlying97 rfl (by rw [known_size, hs])]
end Go.Proofs.Ytmhbmeckdbdhpaa

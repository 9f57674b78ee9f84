/- Texts joined for the claim's sake: MPtL, MFwO, MFew. -/
import Derived.Test.YtohhojbeclbedaaGreatDoorZMPrtRow40
import Derived.Test.YtohhojbeclbedaaGreatDoorZMPrtRow41
import Derived.Test.YtohhojbeclbedaaGreatDoorZMPrtRow28
import Derived.Test.YtohhojbeclbedaaGreatDoorZMPrtRow33
import Derived.Test.YtohhojbeclbedaaGreatDoorZMPrtRow49
import Derived.Deep.CutRange
namespace Go.Proofs.YtohhojbeclbedaaGreatDoor
open Go.RowKit

theorem put_split {m : Mo} (h : (putP m).2 = 0) : ∃ a b c, typesO m = some a ∧ tplsO m = some b ∧ bootO m = some c ∧ a.length ≤ 65536 ∧ b.length ≤ 65536 ∧ c.length ≤ 65536 ∧ (putP m).1 = joined a b c := by
  unfold putP at h ⊢
  cases h1 : typesO m <;> cases h2 : tplsO m <;> cases h3 : bootO m <;> simp only [h1, h2, h3] at h ⊢
  all_goals first
    | (exfalso; revert h; decide)
    | skip
  rename_i a b c
  unfold joinV at h ⊢
  split at h
  · rename_i hh
    rw [if_pos hh]
    exact ⟨a, b, c, rfl, rfl, rfl, hh.1, hh.2.1, hh.2.2, rfl⟩
  · exfalso; revert h; decide
theorem put_none {m : Mo} (h : (putP m).2 ≠ 0) : (putP m).1 = [] := by
  unfold putP at h ⊢
  cases h1 : typesO m <;> cases h2 : tplsO m <;> cases h3 : bootO m <;> simp only [h1, h2, h3] at h ⊢
  rename_i a b c
  unfold joinV at h ⊢
  by_cases hh : a.length ≤ 65536 ∧ b.length ≤ 65536 ∧ c.length ≤ 65536
  · rw [if_pos hh] at h
    exact absurd rfl h
  · rw [if_neg hh]
/-- Nodes and channels of one, templates and starts of the other. -/
def mixM (m o : Mo) : Mo := ⟨m.nodes, o.tpls, m.chans, o.starts, [], [], [], []⟩
theorem boot_short {m : Mo} (hf : m.Fit) : AtMost 65536 (bootO m) := by
  unfold bootO
  refine AtMost.le (K := (10 + 16 * 20) + (10 + 8 * 200)) (AtMost.cat (AtMost.list _ (fun x _ => AtMost.edg x) rfl (by omega)) (AtMost.list _ (fun x hx => ?_) rfl (by omega))) (by omega)
  unfold staO
  exact AtMost.le (K := 10 + (10 + 8 * 11)) (AtMost.cat (AtMost.num (by omega)) (AtMost.list _ (fun a ha => AtMost.arg a (hf.args x hx a ha)) rfl (by omega))) (by omega)
theorem fit_mix {m o : Mo} (ho : o.Fit) : (mixM m o).Fit := ⟨ho.code, ho.args⟩
theorem mix_put {m o : Mo} (ho : o.Fit) (h1 : (putP m).2 = 0) (h2 : (putP o).2 = 0) :
    ∃ a b c a' b' c', (putP m).1 = joined a b c ∧ (putP o).1 = joined a' b' c' ∧ (∃ c'', putP (mixM m o) = (joined a b' c'', 0) ∧ c''.length ≤ 65536) ∧ a.length ≤ 65536 ∧ b.length ≤ 65536 ∧ c.length ≤ 65536 ∧ a'.length ≤ 65536 ∧ b'.length ≤ 65536 ∧ c'.length ≤ 65536 := by
  obtain ⟨a, b, c, e1, e2, e3, l1, l2, l3, e4⟩ := put_split h1
  obtain ⟨a', b', c', f1, f2, f3, k1, k2, k3, f4⟩ := put_split h2
  refine ⟨a, b, c, a', b', c', e4, f4, ?_, l1, l2, l3, k1, k2, k3⟩
  obtain ⟨x, y, g1, _, _⟩ := cat_some (show cat (listO edgO 0 16 m.chans) (listO staO 0 8 m.starts) = some c from e3)
  obtain ⟨x', y', _, g2, _⟩ := cat_some (show cat (listO edgO 0 16 o.chans) (listO staO 0 8 o.starts) = some c' from f3)
  have g3 : bootO (mixM m o) = some (x ++ y') := by
    show cat (listO edgO 0 16 m.chans) (listO staO 0 8 o.starts) = _
    rw [g1, g2]; rfl
  have hl := boot_short (fit_mix ho) _ g3
  refine ⟨x ++ y', ?_, hl⟩
  have g4 : typesO (mixM m o) = some a := e1
  have g5 : tplsO (mixM m o) = some b' := f2
  unfold putP
  rw [g4, g5, g3]
  show joinV _ _ _ = _
  unfold joinV
  rw [if_pos ⟨l1, k2, hl⟩]
end Go.Proofs.YtohhojbeclbedaaGreatDoor

namespace Go.Proofs.YtohhojbeclbedaaGreatDoor
open Go.RowKit

section
variable {vals : List (Tmp × Value)} {w : World} {o : Oper}
theorem ov_ft0 {t : Tmp} {g off : Nat} (ho : o.op = .fieldAddr 50 (.tmp t) 0) (hv : vals.lookup t = some (.pointer (some ⟨g, off, none⟩))) : OpVal Tryz.prog o vals w (.pointer (some ⟨g, off, none⟩)) := fun b W hg hr => by
  have he := hr t _ (by rw [ho]; simp [Op.operands]) hv
  obtain ⟨dst, op, type, pos, after, guard⟩ := o
  dsimp only at ho
  subst ho
  refine .inl ?_
  simp only [execOp, he]
  go_simp
theorem ov_lsParam {t : Tmp} {p : Addr} {A : Option Addr} {n c : Nat} (ho : o.op = .load 47 (.tmp t)) (hv : vals.lookup t = some (.pointer (some p))) (hc : w.cell? p = some (.slice A n c)) : OpVal Tryz.prog o vals w (.slice A n c) := fun b W hg hr => by
  have he := hr t _ (by rw [ho]; simp [Op.operands]) hv
  have c0 := cell_row hc hg (fun e => by cases e)
  obtain ⟨dst, op, type, pos, after, guard⟩ := o
  dsimp only at ho
  subst ho
  refine .inl ?_
  simp only [execOp, he]
  go_simp
theorem ov_lnParam {t : Tmp} {A : Option Addr} {n c : Nat} (ho : o.op = .call { callee := .builtin .len, args := #[.tmp t], argTypes := #[47] }) (hv : vals.lookup t = some (.slice A n c)) : OpVal Tryz.prog o vals w (.int .i64 (n : Int)) := fun b W _ hr => by
  have he := hr t _ (by rw [ho]; simp [Op.operands, Call.operands]) hv
  obtain ⟨dst, op, type, pos, after, guard⟩ := o
  dsimp only at ho
  subst ho
  have e1 : b.tmps[t]?.getD undef = .slice A n c := by simpa [Act.eval] using he
  refine .inl ?_
  simp only [execOp]
  go_simp
theorem ov_min10 {t : Tmp} {n r : Nat} (ho : o.op = .call { callee := .builtin .min, args := #[.tmp t, .const (.int .i64 10)], argTypes := #[3, 3] }) (hv : vals.lookup t = some (.int .i64 (n : Int))) (hr' : (n ≤ 10 ∧ r = n) ∨ (10 < n ∧ r = 10)) : OpVal Tryz.prog o vals w (.int .i64 (r : Int)) := fun b W _ hr => by
  have he := hr t _ (by rw [ho]; simp [Op.operands, Call.operands]) hv
  obtain ⟨dst, op, type, pos, after, guard⟩ := o
  dsimp only at ho
  subst ho
  have e1 : b.tmps[t]?.getD undef = .int .i64 (n : Int) := by simpa [Act.eval] using he
  refine .inl ?_
  rcases hr' with ⟨h1, rfl⟩ | ⟨h1, rfl⟩
  · have h2 : (r : Int) ≤ 10 := by omega
    simp only [execOp]
    go_simp
    omega
  · have h2 : (10 : Int) < (n : Int) := by omega
    simp only [execOp]
    go_simp
theorem ov_slParam {s t : Tmp} {A : Option Addr} {n c r : Nat} (ho : o.op = .slice 47 (.tmp s) none (some (.tmp t)) none) (h0 : vals.lookup s = some (.slice A n c)) (h1 : vals.lookup t = some (.int .i64 (r : Int))) (hr' : r ≤ n) (hn : n ≤ c) (hc : c ≤ 9223372036854775807) : OpVal Tryz.prog o vals w (.slice A r c) := fun b W hg hr => by
  have he := hr s _ (by rw [ho]; simp [Op.operands]) h0
  have hf := hr t _ (by rw [ho]; simp [Op.operands]) h1
  obtain ⟨dst, op, type, pos, after, guard⟩ := o
  dsimp only at ho
  subst ho
  have a0 : (0 : Int) ≤ (r : Int) := by omega
  have a1 : (r : Int) ≤ (c : Int) := by omega
  have a2 : (c : Int) ≤ 9223372036854775807 := by omega
  refine .inl ?_
  simp only [execOp, he, hf, Option.map_some, Option.map_none]
  go_simp
theorem ov_bTpl {t : Tmp} {A : Option Addr} {n c : Nat} (ho : o.op = .build 50 #[(0, .tmp t)]) (hv : vals.lookup t = some (.slice A n c)) : OpVal Tryz.prog o vals w (.agg #[.slice A n c, .slice none 0 0, .slice none 0 0]) := fun b W hg hr => by
  have he := hr t _ (by rw [ho]; simp [Op.operands]) hv
  obtain ⟨dst, op, type, pos, after, guard⟩ := o
  dsimp only at ho
  subst ho
  refine .inl ?_
  have hb : (Instr.build 50 #[(0, .slice A n c)]).run Tryz.prog W = .ok (.agg #[.slice A n c, .slice none 0 0, .slice none 0 0]) W := run_build W _ _ _ (by kernel_rfl)
  generalize b.eval = ev at he ⊢
  simp [execOp, he, hb]
end
end Go.Proofs.YtohhojbeclbedaaGreatDoor

namespace Go.Proofs.YtohhojbeclbedaaGreatDoor
open Go.RowKit

theorem info_fn : (Tryz.prog.info? 65).map (fun i => (i.zero, i.size, i.bytes)) = some (some (.agg #[.int .i64 0, .int .i64 0, .bool false, .int .i64 0, .int .i64 0, .slice none 0 0]), 6, 64) := by kernel_rfl
theorem info_ft : (Tryz.prog.info? 50).map (fun i => (i.zero, i.size, i.bytes)) = some (some (.agg #[.slice none 0 0, .slice none 0 0, .slice none 0 0]), 3, 72) := by kernel_rfl
theorem info_fx : (Tryz.prog.info? 52).map (fun i => (i.zero, i.size, i.bytes)) = some (some (.agg #[.int .i64 0, .int .i64 0, .int .i64 0, .int .i64 0, .int .i64 0, .slice none 0 0]), 6, 64) := by kernel_rfl
theorem info_fs : (Tryz.prog.info? 74).map (fun i => (i.zero, i.size, i.bytes)) = some (some (.agg #[.int .i64 0, .slice none 0 0]), 2, 32) := by kernel_rfl
/-- The beginning of a list, as a cut of its slice by the lesser of two lengths. -/
theorem ListA.few {α : Type} {E : Enc α} {sz : Nat} {S : Nat → Prop} {W : World} {A : Option Addr} {c : Nat} {xs : List α} (k : Nat) {z n : Int} (hz : z = (k : Int)) (hn : n = (xs.length : Int)) (h : ListA E sz S W (.slice A xs.length c) xs) :
    ListA E sz S W (.slice A (if z < n then z else n).toNat c) (xs.take k) := by
  subst hz hn
  by_cases hk : k < xs.length
  · rw [if_pos (by omega)]
    exact h.take_ k (by omega)
  · rw [if_neg (by omega), List.take_of_length_le (by omega)]
    simpa using h
/-- The boxes of what is handed in, and of what is answered. -/
structure FBx (w : World) (B C : Nat) (cs : Array Value) (W : World) : Prop where
  p : Blk W B 28 cs
  r : Blk W C 28 #[.slice none 0 0, .slice none 0 0, .slice none 0 0, .slice none 0 0, .slice none 0 0, .slice none 0 0, .slice none 0 0, .slice none 0 0]
  b : w.heap.size ≤ B
  c : w.heap.size ≤ C
theorem FBx.turn {w W W' : World} {B C D : Nat} {cs : Array Value} (h : FBx w B C cs W) (ht : Turn (fun k => k = D) W W') (h1 : B ≠ D) (h2 : C ≠ D) : FBx w B C cs W' :=
  ⟨h.p.turn ht h1, h.r.turn ht h2, h.b, h.c⟩
theorem FBx.kept {w W W' : World} {B C : Nat} {cs : Array Value} (h : FBx w B C cs W) (hg : W.grownBy W' none) : FBx w B C cs W' :=
  ⟨h.p.kept hg, h.r.kept hg, h.b, h.c⟩
theorem few_results {tmps : Array Value} {W : World} {b : Nat} (hp : tmps.getD 2 undef = .pointer (some ⟨b, 0, none⟩)) {v0 v1 v2 v3 v4 v5 v6 v7 : Value} (hb : Blk W b 28 #[v0, v1, v2, v3, v4, v5, v6, v7]) :
    (results Tryz.f8 tmps).run Tryz.prog W = .ok (.agg #[v0, v1, v2, v3, v4, v5, v6, v7]) W := by
  have hp' : tmps[2]?.getD undef = .pointer (some ⟨b, 0, none⟩) := by simpa using hp
  simp [results, Tryz.results8, hp', asAddr, run_loadVar_row W b _ 28 _ _ _ hb Tryz.underlying28 rfl (by kernel_rfl)]
section
variable {α : Type} {E : Enc α} {sz bo bt N : Nat} {t ty : TypeId} {w wK W W1 W2 : World} {c : Array Value} {v : Value} {xs : List α} {css : List (Array Value)}
/-- While another box is made and turned. -/
theorem FQ.over (hE : E.Ok sz) (h : FQ E sz t ty N w wK bo c v xs css W) (hg : W.grownBy W1 none) (hb : W.heap.size ≤ bt) (ht : Turn (fun k => k = bt) W1 W2) (hg2 : w.grownBy W2 none) : FQ E sz t ty N w wK bo c v xs css W2 := by
  have hlt := h.lt
  have hsz := h.ht.size
  have h1 := h.keep hE hg
  have q1 : OQ E sz t wK.heap.size (fun k => (N ≤ k ∧ k < wK.heap.size) ∨ k = bt) W1 v xs css := h.q.turn hE (Turn.none_ hg) (fun k hk hn e => by
    rcases e with e | e
    · exact hn e
    · omega)
  have q2 : OQ E sz t wK.heap.size (fun k => (N ≤ k ∧ k < wK.heap.size) ∨ k = bt) W2 v xs css := q1.turn hE ⟨ht.os, ht.tape, ht.output, ht.size, fun i hi hn => ht.block i hi (fun e => hn (.inr e))⟩ (fun _ _ hk => hk)
  refine ⟨h.hN, ⟨ht.os.trans h1.ht.os, ht.tape.trans h1.ht.tape, ht.output.trans h1.ht.output, Nat.le_trans h1.ht.size ht.size, fun i hi hn => ?_⟩, hg2, h.gk, h.hb, h.lt, h1.o.turn ht (fun e => by omega), q2.turn hE ⟨rfl, rfl, rfl, Nat.le_refl _, fun _ _ _ => rfl⟩ (fun k _ hk e => hk (.inl e))⟩
  have := h1.ht.size
  rw [ht.block i (by omega) (fun e => by omega)]
  exact h1.ht.block i hi hn
end

set_option maxRecDepth 100000 in
set_option maxHeartbeats 4000000 in
theorem few_any (m : Mo) (v : Value) (N : Nat) (w : World) (hN : N ≤ w.heap.size) (hm : ModA N w v m) : Calls Tryz.prog 8 #[v] w fun e w' => (∃ A0 A1 A2 A3 n0 q0 n1 q1 n2 q2 n3 q3, e = .returned (.agg #[.slice A0 n0 q0, .slice A1 n1 q1, .slice A2 n2 q2, .slice A3 n3 q3, .slice none 0 0, .slice none 0 0, .slice none 0 0, .slice none 0 0]) ∧
    ModR (fun k => k < N ∨ w.heap.size ≤ k) w' (fewM m) A0 A1 A2 A3 n0 q0 n1 q1 n2 q2 n3 q3) ∧ w.grownBy w' none := by
  obtain ⟨v0, v1, v2, v3, v4, v5, v6, v7, rfl, l0, l1, l2, l3, l4, l5, l6, l7⟩ := hm.is
  obtain ⟨A0, q0, rfl, h0, k0⟩ := l0.slice
  obtain ⟨A1, q1, rfl, h1, k1⟩ := l1.slice
  obtain ⟨A2, q2, rfl, h2, k2⟩ := l2.slice
  obtain ⟨A3, q3, rfl, h3, k3⟩ := l3.slice
  obtain ⟨A4, q4, rfl, -, -⟩ := l4.slice
  obtain ⟨A5, q5, rfl, -, -⟩ := l5.slice
  obtain ⟨A6, q6, rfl, -, -⟩ := l6.slice
  obtain ⟨A7, q7, rfl, -, -⟩ := l7.slice
  have I0 : (m.nodes.length : Int) ≤ 9223372036854775807 := by omega
  have I1 : (m.tpls.length : Int) ≤ 9223372036854775807 := by omega
  have I2 : (m.chans.length : Int) ≤ 9223372036854775807 := by omega
  have I3 : (m.starts.length : Int) ≤ 9223372036854775807 := by omega
  have H0 := Lib.hid l0
  have H1 := Lib.hid l1
  have H2 := Lib.hid l2
  have H3 := Lib.hid l3
  clear l0 l1 l2 l3 l4 l5 l6 l7 h0 h1 h3 k0 k1 k3 hm
  generalize hn0 : m.nodes.length = n0 at *
  generalize hn1 : m.tpls.length = n1 at *
  generalize hn2 : m.chans.length = n2 at *
  generalize hn3 : m.starts.length = n3 at *
  obtain ⟨cs, hcs⟩ : ∃ cs : Array Value, #[.slice A0 n0 q0, .slice A1 n1 q1, .slice A2 n2 q2, .slice A3 n3 q3, .slice A4 m.at0.length q4, .slice A5 m.at1.length q5, .slice A6 m.at2.length q6, .slice A7 m.at3.length q7] = cs := ⟨_, rfl⟩
  rw [hcs]
  have HC := Lib.hid hcs
  clear hcs
  go_enter Tryz.func8, Tryz.ntmps8
  go_upto_region 2 with fail
  have hz : Value.slice none 0 0 = Value.slice none 0 0 := rfl
  obtain ⟨w3, hw3⟩ : ∃ w3, (((w.alloc (.cells cs 28)).alloc (.cells #[.slice none 0 0, .slice none 0 0, .slice none 0 0, .slice none 0 0, .slice none 0 0, .slice none 0 0, .slice none 0 0, .slice none 0 0] 28)).alloc (.cells #[.slice none 0 0, .slice none 0 0, .slice none 0 0, .slice none 0 0, .slice none 0 0, .slice none 0 0, .slice none 0 0, .slice none 0 0] 28)) = w3 := ⟨_, rfl⟩
  have HG3 : Hid (w.grownBy w3 none) := Lib.hid (by rw [← hw3]; exact only_alloc (only_alloc (only_alloc (only_refl _ _) _) _) _)
  have HX3 : Hid (FBx w w.heap.size (w.heap.size + 1) cs w3) := Lib.hid (by rw [← hw3]; exact ⟨((Blk.new _ _ _).alloc _).alloc _, (blk_new_at (by simp) _ _).alloc _, by omega, by omega⟩)
  have HO3 : Hid (Blk w3 (w.heap.size + 1 + 1) 28 #[.slice none 0 0, .slice none 0 0, .slice none 0 0, .slice none 0 0, .slice none 0 0, .slice none 0 0, .slice none 0 0, .slice none 0 0]) := Lib.hid (by rw [← hw3]; exact blk_new_at (by simp) _ _)
  have HD : Hid (w.heap.size ≠ w.heap.size + 1 + 1 ∧ w.heap.size + 1 ≠ w.heap.size + 1 + 1) := Lib.hid ⟨by omega, by omega⟩
  have HBD : Hid (w.heap.size ≤ w.heap.size + 1 + 1) := Lib.hid (by show _ ≤ _; omega)
  rw [hw3]
  clear hw3 hz
  generalize hC : w.heap.size + 1 = C at *
  generalize hD : C + 1 = D at *
  generalize hB : w.heap.size = B at HX3 HD ⊢
  clear hC hD hB
  go_wp2_with fail
  go_loopw [4] (fun z wr => ∃ (i : Nat) (v : Value) (css : List (Array Value)), i ≤ n0 ∧ i ≤ 70 ∧ z = .int .i64 (i : Int) ∧ FQ NodE 6 65 28 N w w3 D #[v, .slice none 0 0, .slice none 0 0, .slice none 0 0, .slice none 0 0, .slice none 0 0, .slice none 0 0, .slice none 0 0] v ((m.nodes.take i).map cutNod) css wr) (fun z _ => 70 - (intOf z).toNat)
  case atStart => exact ⟨0, _, [], Nat.zero_le _, by omega, rfl, FQ.start hN HG3.out HBD.out HO3.out⟩
  case round =>
    obtain ⟨i, v, css, hi, hi70, rfl, hq⟩ := hrel
    have HQ := Lib.hid hq
    have HI := Lib.hid (And.intro hi hi70)
    have hi0 : (0 : Int) ≤ (i : Int) := by omega
    have HX := Lib.hid (HX3.out.turn hq.ht HD.out.1 HD.out.2)
    have p0 : wr.cell? ⟨B, 0, none⟩ = some (.slice A0 n0 q0) := by
      have := HX.out.p.cell 0
      rw [← HC.out] at this
      exact this
    clear hq hi hi70
    go_upto_region 3 with fail
    obtain ⟨go, hgo⟩ : ∃ go : Bool, decide (i < n0 ∧ i < 70) = go := ⟨_, rfl⟩
    go_cut [20] from 12 to 41 (fun u W => u = .bool go ∧ W = wr)
    case first =>
      by_cases hlt : i < n0
      · have hltI : (i : Int) < (n0 : Int) := by omega
        by_cases hm' : i < 70
        · have hmI : (i : Int) < 70 := by omega
          have HZ : Hid (go = true) := Lib.hid (by rw [← hgo]; exact decide_eq_true ⟨hlt, hm'⟩)
          clear hgo
          go_wp2_with fail
          go_meet
          rw [HZ.out]
          exact ⟨rfl, rfl⟩
        · have hmI : (70 : Int) ≤ (i : Int) := by omega
          have HZ : Hid (go = false) := Lib.hid (by rw [← hgo]; exact decide_eq_false (fun h => hm' h.2))
          clear hgo
          go_wp2_with fail
          go_meet
          rw [HZ.out]
          exact ⟨by first | rfl | rw [decide_eq_false (by omega)], rfl⟩
      · have hltI : (n0 : Int) ≤ (i : Int) := by omega
        have HZ : Hid (go = false) := Lib.hid (by rw [← hgo]; exact decide_eq_false (fun h => hlt h.1))
        clear hgo
        go_wp2_with fail
        go_meet
        rw [HZ.out]
        exact ⟨rfl, rfl⟩
    case rest =>
      obtain ⟨rfl, rfl⟩ := hcut
      cases go with
      | true =>
        have HK := Lib.hid (of_decide_eq_true hgo)
        clear hgo
        obtain ⟨y, hy⟩ : ∃ y, m.nodes[i]? = some y := ⟨_, List.getElem?_eq_getElem (by rw [hn0]; exact HK.out.1)⟩
        have hltI : (i : Int) < (n0 : Int) := by have := HK.out.1; omega
        have HY := Lib.hid hy
        obtain ⟨ba, oa, ca, rfl, hS, ⟨va, rfl, la⟩, kaw⟩ := H0.out.at_ hy
        obtain ⟨ea, qa, rfl, ga, ga'⟩ := la.slice
        have ka := fun j u hu => (KeptS.none_ (S := fun b => b < N) HQ.out.g) _ _ hS (kaw j u hu)
        have c0 : wc.cell? ⟨ba, oa + i * 6, none⟩ = some (.int .i64 y.kind) := ka 0 _ rfl
        have c1 := ka 1 _ rfl
        have c2 := ka 2 _ rfl
        have c3 := ka 3 _ rfl
        have c4 := ka 4 _ rfl
        have c5 := ka 5 _ rfl
        have hlI : (y.next.length : Int) ≤ 9223372036854775807 := by omega
        have HLA := Lib.hid la
        clear ka kaw la hy
        go_upto_region 7 with fail
        generalize hW1 : World.alloc wc _ = W1
        have hn : Blk W1 wc.heap.size 65 #[.int .i64 y.kind, .int .i64 y.prio, .bool y.ch, .int .i64 y.pay.to, .int .i64 y.pay.sh, .slice ea (if (10 : Int) < (y.next.length : Int) then (10 : Int) else (y.next.length : Int)).toNat qa] := by rw [← hW1]; exact Blk.new _ _ _
        have hg1 : wc.grownBy W1 none := by rw [← hW1]; exact only_alloc (only_refl _ _) _
        have HQ1 := Lib.hid (HQ.out.keep nod_ok hg1)
        have HE1 : Hid (NodE (fun k => ¬ (N ≤ k ∧ k < w3.heap.size) ∧ some k ≠ v.ownBlock) W1 (cutNod y) #[.int .i64 y.kind, .int .i64 y.prio, .bool y.ch, .int .i64 y.pay.to, .int .i64 y.pay.sh, .slice ea (if (10 : Int) < (y.next.length : Int) then (10 : Int) else (y.next.length : Int)).toNat qa]) := Lib.hid ⟨_, rfl, HQ1.out.old edg_ok (by omega) (HLA.out.few 10 rfl rfl)⟩
        have o0 : W1.cell? ⟨D, 0, none⟩ = some v := HQ1.out.o.cell 0
        clear hW1 hg1 HLA c0 c1 c2 c3 c4 c5 p0
        generalize (if (10 : Int) < (y.next.length : Int) then (10 : Int) else (y.next.length : Int)) = rr at *
        generalize wc.heap.size = bn at *
        have n0' : W1.cell? ⟨bn, 0, none⟩ = some (.int .i64 y.kind) := hn.cell 0
        have n1' := hn.cell 1
        have n2' := hn.cell 2
        have n3' := hn.cell 3
        have n4' := hn.cell 4
        have n5' := hn.cell 5
        clear hn
        go_wp2_with (at_builtin; refine wpList_append_oq (z := .agg #[.int .i64 0, .int .i64 0, .bool false, .int .i64 0, .int .i64 0, .slice none 0 0]) (bytes := 64) rfl _ _ 22 rfl Tryz.underlying22 info_fn rfl (by decide) (by decide) nod_ok rfl rfl (HQ1.out.q.none_ nod_ok (only_alloc (only_refl _ _) _)) (Blk.new _ _ _) rfl (fun u hu => by simp at hu; rcases hu with rfl | rfl | rfl | rfl | rfl | rfl <;> rfl) (nod_ok.kept HE1.out (KeptS.none_ (only_alloc (only_refl _ _) _))) (by have := HK.out; simp; omega) (by have := HQ1.out.size; simp; omega) (fun k hk => by have := HQ1.out.size; have := hk.2; simp; omega) ?_; intro v5 w5 ho5 hg5; obtain ⟨av, nv, cv, rfl⟩ : ∃ av nv cv, v5 = .slice av nv cv := (by obtain ⟨a, c, e, _⟩ := (ho5.list nod_ok).slice; exact ⟨_, _, _, e⟩); have KN := HQ1.out.next nod_ok (only_alloc (only_refl _ _) _) ho5 hg5 0; have kc : w5.cell? ⟨D, 0, none⟩ = some v := KN.1.cell 0; have kf := KN.1.frozen 0; have HKN := Lib.hid KN.2; clear ho5 hg5 KN)
        go_roundw
        case rel => exact ⟨i + 1, _, _, by have := HK.out; omega, by have := HK.out; omega, by go_num, by rw [map_snoc cutNod HY.out]; exact HKN.out⟩
        case measure => have := HK.out; simp [intOf]; omega
      | false =>
        have HN : Hid ((m.nodes.take i).map cutNod = (fewM m).nodes) := Lib.hid (by
          have h1 := of_decide_eq_false hgo
          have h2 := HI.out
          show _ = (m.nodes.take 70).map cutNod
          by_cases h : i < n0
          · rw [show i = 70 by omega]
          · rw [List.take_of_length_le (by omega), List.take_of_length_le (by omega)])
        have hq := HQ.out
        rw [HN.out] at hq
        obtain ⟨va, na, ca, rfl⟩ : ∃ a n c, v = .slice a n c := by
          obtain ⟨a, c, e, _⟩ := (hq.done nod_ok).slice
          exact ⟨_, _, _, e⟩
        have HN0 : Hid (ListA NodE 6 (fun k => (k < N ∨ w.heap.size ≤ k) ∧ k ≠ D ∧ k ≠ C) wc (.slice va na ca) (fewM m).nodes) := Lib.hid ((hq.done nod_ok).more nod_ok (by omega) (fun b hb _ => ⟨by have h1 := hq.gk.size; by_cases hbn : b < N; exact .inl hbn; by_cases hbk : b < w3.heap.size; exact absurd ⟨by omega, hbk⟩ hb; exact .inr (by omega), fun e => hb ⟨by subst e; exact Nat.le_trans hN hq.hb, by subst e; exact hq.lt⟩, fun e => hb ⟨by subst e; exact Nat.le_trans hN HX.out.c, by subst e; exact HX3.out.r.lt⟩⟩))
        have HG4 : Hid (w.grownBy wc none) := Lib.hid hq.g
        have HO4 : Hid (Blk wc D 28 #[.slice va na ca, .slice none 0 0, .slice none 0 0, .slice none 0 0, .slice none 0 0, .slice none 0 0, .slice none 0 0, .slice none 0 0]) := Lib.hid hq.o
        clear HQ hq hgo p0 HI hi0 HX3 HO3 HG3 HN
        generalize wc = wa at *
        have HCw : Hid (C < wa.heap.size) := Lib.hid HX.out.r.lt
        go_wp2_with fail
        go_loopw [6] (fun z wr => ∃ (i : Nat) (v : Value) (css : List (Array Value)), i ≤ n1 ∧ i ≤ 18 ∧ z = .int .i64 (i : Int) ∧ FQ TplE 3 50 28 N w wa D #[.slice va na ca, v, .slice none 0 0, .slice none 0 0, .slice none 0 0, .slice none 0 0, .slice none 0 0, .slice none 0 0] v ((m.tpls.take i).map cutTpl) css wr) (fun z _ => 18 - (intOf z).toNat)
        case atStart => exact ⟨0, _, [], Nat.zero_le _, by omega, rfl, FQ.start hN HG4.out HBD.out HO4.out⟩
        case round =>
          obtain ⟨i, v, css, hi, hi70, rfl, hq⟩ := hrel
          have HQ := Lib.hid hq
          have HI := Lib.hid (And.intro hi hi70)
          have hi0 : (0 : Int) ≤ (i : Int) := by omega
          have HX := Lib.hid (HX.out.turn hq.ht HD.out.1 HD.out.2)
          have p1 : wr.cell? ⟨B, 1, none⟩ = some (.slice A1 n1 q1) := by
            have := HX.out.p.cell 1
            rw [← HC.out] at this
            exact this
          clear hq hi hi70
          go_upto_region 9 with fail
          obtain ⟨go, hgo⟩ : ∃ go : Bool, decide (i < n1 ∧ i < 18) = go := ⟨_, rfl⟩
          go_cut [50] from 42 to 112 (fun u W => u = .bool go ∧ W = wr)
          case first =>
            by_cases hlt : i < n1
            · have hltI : (i : Int) < (n1 : Int) := by omega
              by_cases hm' : i < 18
              · have hmI : (i : Int) < 18 := by omega
                have HZ : Hid (go = true) := Lib.hid (by rw [← hgo]; exact decide_eq_true ⟨hlt, hm'⟩)
                clear hgo
                go_wp2_with fail
                go_meet
                rw [HZ.out]
                exact ⟨rfl, rfl⟩
              · have hmI : (18 : Int) ≤ (i : Int) := by omega
                have HZ : Hid (go = false) := Lib.hid (by rw [← hgo]; exact decide_eq_false (fun h => hm' h.2))
                clear hgo
                go_wp2_with fail
                go_meet
                rw [HZ.out]
                exact ⟨by first | rfl | rw [decide_eq_false (by omega)], rfl⟩
            · have hltI : (n1 : Int) ≤ (i : Int) := by omega
              have HZ : Hid (go = false) := Lib.hid (by rw [← hgo]; exact decide_eq_false (fun h => hlt h.1))
              clear hgo
              go_wp2_with fail
              go_meet
              rw [HZ.out]
              exact ⟨rfl, rfl⟩
          case rest =>
            obtain ⟨rfl, rfl⟩ := hcut
            cases go with
            | true =>
              have HK := Lib.hid (of_decide_eq_true hgo)
              clear hgo
              obtain ⟨y, hy⟩ : ∃ y, m.tpls[i]? = some y := ⟨_, List.getElem?_eq_getElem (by rw [hn1]; exact HK.out.1)⟩
              have hltI : (i : Int) < (n1 : Int) := by have := HK.out.1; omega
              have HY := Lib.hid hy
              obtain ⟨ba, oa, ca', rfl, hS, ⟨pv, cv0, av0, rfl, lp, lc, lz⟩, kaw⟩ := H1.out.at_ hy
              obtain ⟨pa, qp, rfl, gp, gp'⟩ := lp.slice
              obtain ⟨ta, qt, rfl, gt, gt'⟩ := lc.slice
              obtain ⟨za, qz, rfl, -, -⟩ := lz.slice
              have HCW : Hid (∀ W, w.grownBy W none → W.cell? ⟨ba, oa + i * 3, none⟩ = some (.slice pa y.params.length qp) ∧ W.cell? ⟨ba, oa + i * 3 + 1, none⟩ = some (.slice ta y.code.length qt)) := Lib.hid fun W hg =>
                ⟨(KeptS.none_ (S := fun b => b < N) hg) _ _ hS (kaw 0 _ rfl), (KeptS.none_ (S := fun b => b < N) hg) _ _ hS (kaw 1 _ rfl)⟩
              have c0 := (HCW.out _ HQ.out.g).1
              obtain ⟨rp, hrp⟩ : ∃ rp : Nat, (y.params.length ≤ 10 ∧ rp = y.params.length) ∨ (10 < y.params.length ∧ rp = 10) := by
                by_cases h : y.params.length ≤ 10
                · exact ⟨_, .inl ⟨h, rfl⟩⟩
                · exact ⟨10, .inr ⟨by omega, rfl⟩⟩
              have HLP : Hid (ListA ParE 3 (fun b => b < N) w (.slice pa rp qp) (y.params.take 10)) := Lib.hid (by
                rcases hrp with ⟨h1, rfl⟩ | ⟨h1, rfl⟩
                · rw [List.take_of_length_le h1]; exact lp
                · exact lp.take_ 10 (by omega))
              have HLC := Lib.hid lc
              have hlI : (y.code.length : Int) ≤ 9223372036854775807 := by omega
              have hrn : rp ≤ y.params.length := by omega
              clear kaw lp lc lz hy
              generalize wc = wb at *
              go_upto_region 11 with fail
              go_cut [7] from 42 to 112 (fun u W => ∃ bt, u = .pointer (some ⟨bt, 0, none⟩) ∧ wb.grownBy W none ∧ wb.heap.size ≤ bt ∧ Blk W bt 50 #[.slice pa rp qp, .slice none 0 0, .slice none 0 0])
              case first =>
                refine region_one (by kernel_rfl) (by kernel_rfl) [53, 54, 55, 56, 57, 58, 59, 60, 61, 62, 63, 64, 65, 66, 67, 68, 7] (by kernel_rfl) (by kernel_rfl) (by decide)
                  [(1, .pointer (some ⟨B, 0, none⟩)), (6, .int .i64 (i : Int)), (53, .pointer (some ⟨B, 1, none⟩)), (54, .slice (some ⟨ba, oa, none⟩) n1 q1), (55, .int .i64 (i : Int)), (56, .pointer (some ⟨ba, oa + i * 3, none⟩)), (57, .pointer (some ⟨ba, oa + i * 3, none⟩)), (58, .slice pa y.params.length qp),
                    (59, .pointer (some ⟨B, 1, none⟩)), (60, .slice (some ⟨ba, oa, none⟩) n1 q1), (61, .int .i64 (i : Int)), (62, .pointer (some ⟨ba, oa + i * 3, none⟩)), (63, .pointer (some ⟨ba, oa + i * 3, none⟩)), (64, .slice pa y.params.length qp), (65, .int .i64 (y.params.length : Int)), (66, .int .i64 (rp : Int)), (67, .slice pa rp qp), (68, .agg #[.slice pa rp qp, .slice none 0 0, .slice none 0 0])]
                  ⟨7, 50, #[.slice none 0 0, .slice none 0 0, .slice none 0 0], #[.slice pa rp qp, .slice none 0 0, .slice none 0 0], 68, 16, 17⟩
                  ?h0 (boxed_mtemplate _ _ _ _) rfl rfl (by dsimp only; decide) (by kernel_rfl) (by kernel_rfl) ?hops ?hQ
                case h0 =>
                  intro p hp hn
                  simp only [List.mem_cons, List.not_mem_nil, or_false] at hp
                  rcases hp with rfl | rfl | rfl | rfl | rfl | rfl | rfl | rfl | rfl | rfl | rfl | rfl | rfl | rfl | rfl | rfl | rfl | rfl
                  all_goals first | rfl | exact absurd (by dsimp only; decide) hn
                case hops =>
                  exact ⟨.val 53 _ rfl rfl rfl (ov_fm1 rfl rfl), .val 54 _ rfl rfl rfl (ov_lsTemplate rfl rfl p1), .val 55 _ rfl rfl rfl (ov_move rfl rfl), .val 56 _ rfl rfl rfl (ov_ixTemplate rfl rfl rfl HK.out.1), .val 57 _ rfl rfl rfl (ov_ft0 rfl rfl), .val 58 _ rfl rfl rfl (ov_lsParam rfl rfl c0),
                    .val 59 _ rfl rfl rfl (ov_fm1 rfl rfl), .val 60 _ rfl rfl rfl (ov_lsTemplate rfl rfl p1), .val 61 _ rfl rfl rfl (ov_move rfl rfl), .val 62 _ rfl rfl rfl (ov_ixTemplate rfl rfl rfl HK.out.1), .val 63 _ rfl rfl rfl (ov_ft0 rfl rfl), .val 64 _ rfl rfl rfl (ov_lsParam rfl rfl c0),
                    .val 65 _ rfl rfl rfl (ov_lnParam rfl rfl), .val 66 _ rfl rfl rfl (ov_min10 rfl rfl hrp), .val 67 _ rfl rfl rfl (ov_slParam rfl rfl rfl hrn gp gp'), .val 68 _ rfl rfl rfl (ov_bTpl rfl rfl), .al rfl rfl rfl, .st rfl rfl rfl, trivial⟩
                case hQ =>
                  intro vs W Bt hg e1 hne k1 hv
                  have HZ : Hid (∃ bt, vs 7 = .pointer (some ⟨bt, 0, none⟩) ∧ wb.grownBy W none ∧ wb.heap.size ≤ bt ∧ Blk W bt 50 #[.slice pa rp qp, .slice none 0 0, .slice none 0 0]) := Lib.hid ⟨Bt, e1, hg, hne, k1⟩
                  clear hg e1 hne k1 hv
                  simp only [List.foldl_cons, List.foldl_nil, List.setIfInBounds_toArray, List.set_cons_zero, List.set_cons_succ]
                  go_wp2_with fail
                  go_meet
                  exact HZ.out
              case rest =>
                obtain ⟨bt, rfl, hg5, hbt, kt⟩ := hcut
                generalize wc = wd at *
                have HG5 := Lib.hid hg5
                have HBT := Lib.hid hbt
                have HT5 := Lib.hid kt
                have HX5 := Lib.hid (HX.out.kept hg5)
                have HBW : Hid (w.heap.size ≤ bt ∧ B ≠ bt ∧ C ≠ bt) := Lib.hid (by
                  have h1 := HX.out.p.lt
                  have h2 := HX.out.r.lt
                  have h3 := HQ.out.g.size
                  exact ⟨by omega, by omega, by omega⟩)
                clear hg5 hbt kt hrp hrn c0 p1
                go_wp2_with fail
                go_loopw [8] (fun z wr => ∃ (k : Nat) (u : Value) (dss : List (Array Value)), k ≤ y.code.length ∧ k ≤ 30 ∧ z = .int .i64 (k : Int) ∧ FQ InsE 6 52 50 N w wd bt #[.slice pa rp qp, u, .slice none 0 0] u ((y.code.take k).map cutIns) dss wr) (fun z _ => 30 - (intOf z).toNat)
                case atStart => exact ⟨0, _, [], Nat.zero_le _, by omega, rfl, FQ.start hN (only_trans HQ.out.g HG5.out) HBW.out.1 HT5.out⟩
                case round =>
                  obtain ⟨k, v', dss, hk, hk30, rfl, hq⟩ := hrel
                  have HQ6 := Lib.hid hq
                  have HI := Lib.hid (And.intro hk hk30)
                  have hk0 : (0 : Int) ≤ (k : Int) := by omega
                  have HX6 := Lib.hid (HX5.out.turn hq.ht HBW.out.2.1 HBW.out.2.2)
                  have p1 : wr.cell? ⟨B, 1, none⟩ = some (.slice (some ⟨ba, oa, none⟩) n1 q1) := by
                    have := HX6.out.p.cell 1
                    rw [← HC.out] at this
                    exact this
                  have c1 := (HCW.out _ hq.g).2
                  clear hq hk hk30
                  go_upto_region 13 with fail
                  obtain ⟨go, hgo⟩ : ∃ go : Bool, decide (k < y.code.length ∧ k < 30) = go := ⟨_, rfl⟩
                  go_cut [81] from 69 to 106 (fun u W => u = .bool go ∧ W = wr)
                  case first =>
                    by_cases hlt : k < y.code.length
                    · have hltI : (k : Int) < (y.code.length : Int) := by omega
                      by_cases hm' : k < 30
                      · have hmI : (k : Int) < 30 := by omega
                        have HZ : Hid (go = true) := Lib.hid (by rw [← hgo]; exact decide_eq_true ⟨hlt, hm'⟩)
                        clear hgo
                        go_wp2_with fail
                        go_meet
                        rw [HZ.out]
                        exact ⟨rfl, rfl⟩
                      · have hmI : (30 : Int) ≤ (k : Int) := by omega
                        have HZ : Hid (go = false) := Lib.hid (by rw [← hgo]; exact decide_eq_false (fun h => hm' h.2))
                        clear hgo
                        go_wp2_with fail
                        go_meet
                        rw [HZ.out]
                        exact ⟨by first | rfl | rw [decide_eq_false (by omega)], rfl⟩
                    · have hltI : (y.code.length : Int) ≤ (k : Int) := by omega
                      have HZ : Hid (go = false) := Lib.hid (by rw [← hgo]; exact decide_eq_false (fun h => hlt h.1))
                      clear hgo
                      go_wp2_with fail
                      go_meet
                      rw [HZ.out]
                      exact ⟨rfl, rfl⟩
                  case rest =>
                    obtain ⟨rfl, rfl⟩ := hcut
                    cases go with
                    | true =>
                      have HK6 := Lib.hid (of_decide_eq_true hgo)
                      clear hgo
                      obtain ⟨x, hx⟩ : ∃ x, y.code[k]? = some x := ⟨_, List.getElem?_eq_getElem HK6.out.1⟩
                      have hltJ : (k : Int) < (y.code.length : Int) := by have := HK6.out.1; omega
                      have HX7 := Lib.hid hx
                      obtain ⟨bc, oc, cc, rfl, hS, ⟨lv, rfl, ll⟩, kaw⟩ := HLC.out.at_ hx
                      obtain ⟨ea, qa, rfl, ga, ga'⟩ := ll.slice
                      have ka := fun j u hu => (KeptS.none_ (S := fun b => b < N) HQ6.out.g) _ _ hS (kaw j u hu)
                      have d0 : wc.cell? ⟨bc, oc + k * 6, none⟩ = some (.int .i64 x.op) := ka 0 _ rfl
                      have d1 := ka 1 _ rfl
                      have d2 := ka 2 _ rfl
                      have d3 := ka 3 _ rfl
                      have d4 := ka 4 _ rfl
                      have d5 := ka 5 _ rfl
                      have hlX : (x.l.length : Int) ≤ 9223372036854775807 := by omega
                      have HLA := Lib.hid ll
                      clear ka kaw ll hx
                      go_upto_region 17 with fail
                      generalize hW1 : World.alloc wc _ = W1
                      have hn : Blk W1 wc.heap.size 52 #[.int .i64 x.op, .int .i64 x.a, .int .i64 x.b, .int .i64 x.c, .int .i64 x.d, .slice ea (if (10 : Int) < (x.l.length : Int) then (10 : Int) else (x.l.length : Int)).toNat qa] := by rw [← hW1]; exact Blk.new _ _ _
                      have hg1 : wc.grownBy W1 none := by rw [← hW1]; exact only_alloc (only_refl _ _) _
                      have HQ7 := Lib.hid (HQ6.out.keep ins_ok hg1)
                      have HE7 : Hid (InsE (fun k => ¬ (N ≤ k ∧ k < wd.heap.size) ∧ some k ≠ v'.ownBlock) W1 (cutIns x) #[.int .i64 x.op, .int .i64 x.a, .int .i64 x.b, .int .i64 x.c, .int .i64 x.d, .slice ea (if (10 : Int) < (x.l.length : Int) then (10 : Int) else (x.l.length : Int)).toNat qa]) := Lib.hid ⟨_, rfl, (HQ7.out.old int_ok (by omega) (HLA.out.few 10 rfl rfl)).ints⟩
                      have o1 : W1.cell? ⟨bt, 1, none⟩ = some v' := HQ7.out.o.cell 1
                      clear hW1 hg1 HLA d0 d1 d2 d3 d4 d5 p1 c1
                      generalize (if (10 : Int) < (x.l.length : Int) then (10 : Int) else (x.l.length : Int)) = rr at *
                      generalize wc.heap.size = bn at *
                      have n0' : W1.cell? ⟨bn, 0, none⟩ = some (.int .i64 x.op) := hn.cell 0
                      have n1' := hn.cell 1
                      have n2' := hn.cell 2
                      have n3' := hn.cell 3
                      have n4' := hn.cell 4
                      have n5' := hn.cell 5
                      clear hn
                      go_wp2_with (at_builtin; refine wpList_append_oq (z := .agg #[.int .i64 0, .int .i64 0, .int .i64 0, .int .i64 0, .int .i64 0, .slice none 0 0]) (bytes := 64) rfl _ _ 48 rfl Tryz.underlying48 info_fx rfl (by decide) (by decide) ins_ok rfl rfl (HQ7.out.q.none_ ins_ok (only_alloc (only_refl _ _) _)) (Blk.new _ _ _) rfl (fun u hu => by simp at hu; rcases hu with rfl | rfl | rfl | rfl | rfl | rfl <;> rfl) (ins_ok.kept HE7.out (KeptS.none_ (only_alloc (only_refl _ _) _))) (by have := HK6.out; simp; omega) (by have := HQ7.out.size; simp; omega) (fun k hk => by have := HQ7.out.size; have := hk.2; simp; omega) ?_; intro v5 w5 ho5 hg5; obtain ⟨av, nv, cv, rfl⟩ : ∃ av nv cv, v5 = .slice av nv cv := (by obtain ⟨a, c, e, _⟩ := (ho5.list ins_ok).slice; exact ⟨_, _, _, e⟩); have KN := HQ7.out.next ins_ok (only_alloc (only_refl _ _) _) ho5 hg5 1; have kc : w5.cell? ⟨bt, 1, none⟩ = some v' := KN.1.cell 1; have kf := KN.1.frozen 1; have HKN := Lib.hid KN.2; clear ho5 hg5 KN)
                      go_roundw
                      case rel => exact ⟨k + 1, _, _, by have := HK6.out; omega, by have := HK6.out; omega, by go_num, by rw [map_snoc cutIns HX7.out]; exact HKN.out⟩
                      case measure => have := HK6.out; simp [intOf]; omega
                    | false =>
                      have HN : Hid ((y.code.take k).map cutIns = (cutTpl y).code) := Lib.hid (by
                        have h1 := of_decide_eq_false hgo
                        have h2 := HI.out
                        show _ = (y.code.take 30).map cutIns
                        by_cases h : k < y.code.length
                        · rw [show k = 30 by omega]
                        · rw [List.take_of_length_le (by omega), List.take_of_length_le (by omega)])
                      have hq := HQ6.out
                      rw [HN.out] at hq
                      obtain ⟨ua, un, uc, rfl⟩ : ∃ a n c, v' = .slice a n c := by
                        obtain ⟨a, c, e, _⟩ := (hq.done ins_ok).slice
                        exact ⟨_, _, _, e⟩
                      have HQ8 := Lib.hid (HQ.out.over tpl_ok HG5.out HBT.out hq.ht hq.g)
                      have HE8 : Hid (TplE (fun k => ¬ (N ≤ k ∧ k < wa.heap.size) ∧ some k ≠ v.ownBlock) wc (cutTpl y) #[.slice pa rp qp, .slice ua un uc, .slice none 0 0]) := Lib.hid ⟨_, _, _, rfl, HQ8.out.old par_ok (by omega) HLP.out, (hq.done ins_ok).more ins_ok (by omega) (fun b hb _ => ⟨fun e => hb ⟨e.1, by have h1 := HQ.out.size; have h2 := HG5.out.size; omega⟩, fun e => hb (by
                        have h1 := HQ.out.own b e.symm
                        have h2 := HQ.out.gk.size
                        have h3 := (World.ownsRow.lt HQ.out.q.row b e.symm).2
                        have h4 := HG5.out.size
                        exact ⟨by omega, by omega⟩)⟩), ListA.nil_ _ _⟩
                      have t0 : wc.cell? ⟨bt, 0, none⟩ = some (.slice pa rp qp) := hq.o.cell 0
                      have t1 : wc.cell? ⟨bt, 1, none⟩ = some (.slice ua un uc) := hq.o.cell 1
                      have t2 : wc.cell? ⟨bt, 2, none⟩ = some (.slice none 0 0) := hq.o.cell 2
                      have o1 : wc.cell? ⟨D, 1, none⟩ = some v := HQ8.out.o.cell 1
                      clear hq hgo HN p1 c1
                      go_wp2_with (at_builtin; refine wpList_append_oq (z := .agg #[.slice none 0 0, .slice none 0 0, .slice none 0 0]) (bytes := 72) rfl _ _ 23 rfl Tryz.underlying23 info_ft rfl (by decide) (by decide) tpl_ok rfl rfl (HQ8.out.q.none_ tpl_ok (only_alloc (only_refl _ _) _)) (Blk.new _ _ _) rfl (fun u hu => by simp at hu; rcases hu with rfl | rfl | rfl <;> rfl) (tpl_ok.kept HE8.out (KeptS.none_ (only_alloc (only_refl _ _) _))) (by have := HK.out; simp; omega) (by have := HQ8.out.size; simp; omega) (fun k hk => by have := HQ8.out.size; have := hk.2; simp; omega) ?_; intro v5 w5 ho5 hg5; obtain ⟨av, nv, cv, rfl⟩ : ∃ av nv cv, v5 = .slice av nv cv := (by obtain ⟨a, c, e, _⟩ := (ho5.list tpl_ok).slice; exact ⟨_, _, _, e⟩); have KN := HQ8.out.next tpl_ok (only_alloc (only_refl _ _) _) ho5 hg5 1; have kc : w5.cell? ⟨D, 1, none⟩ = some v := KN.1.cell 1; have kf := KN.1.frozen 1; have HKN := Lib.hid KN.2; clear ho5 hg5 KN)
                      go_roundw
                      case rel => exact ⟨i + 1, _, _, by have := HK.out; omega, by have := HK.out; omega, by go_num, by rw [map_snoc cutTpl HY.out]; exact HKN.out⟩
                      case measure => have := HK.out; simp [intOf]; omega
            | false =>
              have HN : Hid ((m.tpls.take i).map cutTpl = (fewM m).tpls) := Lib.hid (by
                have h1 := of_decide_eq_false hgo
                have h2 := HI.out
                show _ = (m.tpls.take 18).map cutTpl
                by_cases h : i < n1
                · rw [show i = 18 by omega]
                · rw [List.take_of_length_le (by omega), List.take_of_length_le (by omega)])
              have hq := HQ.out
              rw [HN.out] at hq
              obtain ⟨vt, nt, ct, rfl⟩ : ∃ a n c, v = .slice a n c := by
                obtain ⟨a, c, e, _⟩ := (hq.done tpl_ok).slice
                exact ⟨_, _, _, e⟩
              have HM0 := Lib.hid (HN0.out.kept nod_ok (KeptS.of_turn hq.ht (fun b hb => hb.2.1)))
              have HT0 : Hid (ListA TplE 3 (fun k => (k < N ∨ w.heap.size ≤ k) ∧ k ≠ D ∧ k ≠ C) wc (.slice vt nt ct) (fewM m).tpls) := Lib.hid ((hq.done tpl_ok).more tpl_ok (by omega) (fun b hb _ => ⟨by have h1 := hq.gk.size; by_cases hbn : b < N; exact .inl hbn; by_cases hbk : b < wa.heap.size; exact absurd ⟨by omega, hbk⟩ hb; exact .inr (by omega), fun e => hb ⟨by subst e; exact Nat.le_trans hN hq.hb, by subst e; exact hq.lt⟩, fun e => hb ⟨by subst e; exact Nat.le_trans hN HX.out.c, by subst e; exact HCw.out⟩⟩))
              have HC0 : Hid (ListA EdgE 2 (fun k => (k < N ∨ w.heap.size ≤ k) ∧ k ≠ D ∧ k ≠ C) wc (.slice A2 (if (18 : Int) < (n2 : Int) then (18 : Int) else (n2 : Int)).toNat q2) (fewM m).chans) := Lib.hid (by
                have h := H2.out
                rw [← hn2] at h
                rw [← hn2]
                exact ((h.few 18 rfl rfl).kept edg_ok (KeptS.none_ hq.g)).more edg_ok (by omega) (fun b hb _ => by have h1 := hq.hb; have h2 := HX.out.c; have hb' : b < N := hb; exact ⟨.inl hb', by omega, by omega⟩))
              have HG5 : Hid (w.grownBy wc none) := Lib.hid hq.g
              have HO5 : Hid (Blk wc D 28 #[.slice va na ca, .slice vt nt ct, .slice none 0 0, .slice none 0 0, .slice none 0 0, .slice none 0 0, .slice none 0 0, .slice none 0 0]) := Lib.hid hq.o
              have p2 : wc.cell? ⟨B, 2, none⟩ = some (.slice A2 n2 q2) := by
                have := HX.out.p.cell 2
                rw [← HC.out] at this
                exact this
              have o2 : wc.cell? ⟨D, 2, none⟩ = some (.slice none 0 0) := HO5.out.cell 2
              have o3 := HO5.out.frozen 2
              clear HQ hq hgo p1 HI hi0 HN0 HG4 HO4 HN
              generalize wc = we at *
              go_upto_region 20 with fail
              generalize hW1 : World.setCell we _ _ = ws
              generalize (if (18 : Int) < (n2 : Int) then (18 : Int) else (n2 : Int)) = z2 at *
              generalize z2.toNat = r2 at *
              have hset : we.grownBy ws (some D) := by rw [← hW1]; exact only_setCell (only_refl _ _) rfl _
              have HTu : Hid (Turn (fun k => k = D) we ws) := Lib.hid (Turn.of_only hset (fun k e => by injection e with e; exact e.symm))
              have HX9 := Lib.hid (HX.out.turn HTu.out HD.out.1 HD.out.2)
              have HM9 := Lib.hid (HM0.out.kept nod_ok (KeptS.of_turn HTu.out (fun b hb => hb.2.1)))
              have HT9 := Lib.hid (HT0.out.kept tpl_ok (KeptS.of_turn HTu.out (fun b hb => hb.2.1)))
              have HC9 := Lib.hid (HC0.out.kept edg_ok (KeptS.of_turn HTu.out (fun b hb => hb.2.1)))
              have HG9 : Hid (w.grownBy ws none) := Lib.hid (only_new HG5.out hset HBD.out)
              have HO9 : Hid (Blk ws D 28 #[.slice va na ca, .slice vt nt ct, .slice A2 r2 q2, .slice none 0 0, .slice none 0 0, .slice none 0 0, .slice none 0 0, .slice none 0 0]) := Lib.hid (by rw [← hW1]; exact HO5.out.set_ 2 _)
              clear hW1 hset p2 o2 o3 HX HM0 HT0 HC0 HG5 HO5 HTu
              go_wp2_with fail
              go_loopw [10] (fun z wr => ∃ (i : Nat) (v : Value) (css : List (Array Value)), i ≤ n3 ∧ i ≤ 10 ∧ z = .int .i64 (i : Int) ∧ FQ StaE 2 74 28 N w ws D #[.slice va na ca, .slice vt nt ct, .slice A2 r2 q2, v, .slice none 0 0, .slice none 0 0, .slice none 0 0, .slice none 0 0] v ((m.starts.take i).map cutSta) css wr) (fun z _ => 10 - (intOf z).toNat)
              case atStart => exact ⟨0, _, [], Nat.zero_le _, by omega, rfl, FQ.start hN HG9.out HBD.out HO9.out⟩
              case round =>
                obtain ⟨i, v, css, hi, hi70, rfl, hq⟩ := hrel
                have HQ := Lib.hid hq
                have HI := Lib.hid (And.intro hi hi70)
                have hi0 : (0 : Int) ≤ (i : Int) := by omega
                have HX := Lib.hid (HX9.out.turn hq.ht HD.out.1 HD.out.2)
                have p3 : wr.cell? ⟨B, 3, none⟩ = some (.slice A3 n3 q3) := by
                  have := HX.out.p.cell 3
                  rw [← HC.out] at this
                  exact this
                clear hq hi hi70
                go_upto_region 21 with fail
                obtain ⟨go, hgo⟩ : ∃ go : Bool, decide (i < n3 ∧ i < 10) = go := ⟨_, rfl⟩
                go_cut [129] from 121 to 150 (fun u W => u = .bool go ∧ W = wr)
                case first =>
                  by_cases hlt : i < n3
                  · have hltI : (i : Int) < (n3 : Int) := by omega
                    by_cases hm' : i < 10
                    · have hmI : (i : Int) < 10 := by omega
                      have HZ : Hid (go = true) := Lib.hid (by rw [← hgo]; exact decide_eq_true ⟨hlt, hm'⟩)
                      clear hgo
                      go_wp2_with fail
                      go_meet
                      rw [HZ.out]
                      exact ⟨rfl, rfl⟩
                    · have hmI : (10 : Int) ≤ (i : Int) := by omega
                      have HZ : Hid (go = false) := Lib.hid (by rw [← hgo]; exact decide_eq_false (fun h => hm' h.2))
                      clear hgo
                      go_wp2_with fail
                      go_meet
                      rw [HZ.out]
                      exact ⟨by first | rfl | rw [decide_eq_false (by omega)], rfl⟩
                  · have hltI : (n3 : Int) ≤ (i : Int) := by omega
                    have HZ : Hid (go = false) := Lib.hid (by rw [← hgo]; exact decide_eq_false (fun h => hlt h.1))
                    clear hgo
                    go_wp2_with fail
                    go_meet
                    rw [HZ.out]
                    exact ⟨rfl, rfl⟩
                case rest =>
                  obtain ⟨rfl, rfl⟩ := hcut
                  cases go with
                  | true =>
                    have HK := Lib.hid (of_decide_eq_true hgo)
                    clear hgo
                    obtain ⟨y, hy⟩ : ∃ y, m.starts[i]? = some y := ⟨_, List.getElem?_eq_getElem (by rw [hn3]; exact HK.out.1)⟩
                    have hltI : (i : Int) < (n3 : Int) := by have := HK.out.1; omega
                    have HY := Lib.hid hy
                    obtain ⟨ba, oa, ca', rfl, hS, ⟨vv, rfl, la⟩, kaw⟩ := H3.out.at_ hy
                    obtain ⟨ea, qa, rfl, ga, ga'⟩ := la.slice
                    have ka := fun j u hu => (KeptS.none_ (S := fun b => b < N) HQ.out.g) _ _ hS (kaw j u hu)
                    have c0 : wc.cell? ⟨ba, oa + i * 2, none⟩ = some (.int .i64 y.tpl) := ka 0 _ rfl
                    have c1 := ka 1 _ rfl
                    have hlI : (y.args.length : Int) ≤ 9223372036854775807 := by omega
                    have HLA := Lib.hid la
                    clear ka kaw la hy
                    go_upto_region 25 with fail
                    generalize hW1 : World.alloc wc _ = W1
                    have hn : Blk W1 wc.heap.size 74 #[.int .i64 y.tpl, .slice ea (if (10 : Int) < (y.args.length : Int) then (10 : Int) else (y.args.length : Int)).toNat qa] := by rw [← hW1]; exact Blk.new _ _ _
                    have hg1 : wc.grownBy W1 none := by rw [← hW1]; exact only_alloc (only_refl _ _) _
                    have HQ1 := Lib.hid (HQ.out.keep sta_ok hg1)
                    have HE1 : Hid (StaE (fun k => ¬ (N ≤ k ∧ k < ws.heap.size) ∧ some k ≠ v.ownBlock) W1 (cutSta y) #[.int .i64 y.tpl, .slice ea (if (10 : Int) < (y.args.length : Int) then (10 : Int) else (y.args.length : Int)).toNat qa]) := Lib.hid ⟨_, rfl, HQ1.out.old arg_ok (by omega) (HLA.out.few 10 rfl rfl)⟩
                    have o0 : W1.cell? ⟨D, 3, none⟩ = some v := HQ1.out.o.cell 3
                    clear hW1 hg1 HLA c0 c1 p3
                    generalize (if (10 : Int) < (y.args.length : Int) then (10 : Int) else (y.args.length : Int)) = rr at *
                    generalize wc.heap.size = bn at *
                    have n0' : W1.cell? ⟨bn, 0, none⟩ = some (.int .i64 y.tpl) := hn.cell 0
                    have n1' := hn.cell 1
                    clear hn
                    go_wp2_with (at_builtin; refine wpList_append_oq (z := .agg #[.int .i64 0, .slice none 0 0]) (bytes := 32) rfl _ _ 25 rfl Tryz.underlying25 info_fs rfl (by decide) (by decide) sta_ok rfl rfl (HQ1.out.q.none_ sta_ok (only_alloc (only_refl _ _) _)) (Blk.new _ _ _) rfl (fun u hu => by simp at hu; rcases hu with rfl | rfl <;> rfl) (sta_ok.kept HE1.out (KeptS.none_ (only_alloc (only_refl _ _) _))) (by have := HK.out; simp; omega) (by have := HQ1.out.size; simp; omega) (fun k hk => by have := HQ1.out.size; have := hk.2; simp; omega) ?_; intro v5 w5 ho5 hg5; obtain ⟨av, nv, cv, rfl⟩ : ∃ av nv cv, v5 = .slice av nv cv := (by obtain ⟨a, c, e, _⟩ := (ho5.list sta_ok).slice; exact ⟨_, _, _, e⟩); have KN := HQ1.out.next sta_ok (only_alloc (only_refl _ _) _) ho5 hg5 3; have kc : w5.cell? ⟨D, 3, none⟩ = some v := KN.1.cell 3; have kf := KN.1.frozen 3; have HKN := Lib.hid KN.2; clear ho5 hg5 KN)
                    go_roundw
                    case rel => exact ⟨i + 1, _, _, by have := HK.out; omega, by have := HK.out; omega, by go_num, by rw [map_snoc cutSta HY.out]; exact HKN.out⟩
                    case measure => have := HK.out; simp [intOf]; omega
                  | false =>
                    have HN : Hid ((m.starts.take i).map cutSta = (fewM m).starts) := Lib.hid (by
                      have h1 := of_decide_eq_false hgo
                      have h2 := HI.out
                      show _ = (m.starts.take 10).map cutSta
                      by_cases h : i < n3
                      · rw [show i = 10 by omega]
                      · rw [List.take_of_length_le (by omega), List.take_of_length_le (by omega)])
                    have hq := HQ.out
                    rw [HN.out] at hq
                    obtain ⟨vs, ns, c_s, rfl⟩ : ∃ a n c, v = .slice a n c := by
                      obtain ⟨a, c, e, _⟩ := (hq.done sta_ok).slice
                      exact ⟨_, _, _, e⟩
                    have HM0 := Lib.hid (HM9.out.kept nod_ok (KeptS.of_turn hq.ht (fun b hb => hb.2.1)))
                    have HT0 := Lib.hid (HT9.out.kept tpl_ok (KeptS.of_turn hq.ht (fun b hb => hb.2.1)))
                    have HC0 := Lib.hid (HC9.out.kept edg_ok (KeptS.of_turn hq.ht (fun b hb => hb.2.1)))
                    have HS0 : Hid (ListA StaE 2 (fun k => (k < N ∨ w.heap.size ≤ k) ∧ k ≠ D ∧ k ≠ C) wc (.slice vs ns c_s) (fewM m).starts) := Lib.hid ((hq.done sta_ok).more sta_ok (by omega) (fun b hb _ => ⟨by have h1 := hq.gk.size; by_cases hbn : b < N; exact .inl hbn; by_cases hbk : b < ws.heap.size; exact absurd ⟨by omega, hbk⟩ hb; exact .inr (by omega), fun e => hb ⟨by subst e; exact Nat.le_trans hN hq.hb, by subst e; exact hq.lt⟩, fun e => hb ⟨by subst e; exact Nat.le_trans hN HX.out.c, by subst e; exact HX9.out.r.lt⟩⟩))
                    have HG5 : Hid (w.grownBy wc none) := Lib.hid hq.g
                    have HO5 : Hid (Blk wc D 28 #[.slice va na ca, .slice vt nt ct, .slice A2 r2 q2, .slice vs ns c_s, .slice none 0 0, .slice none 0 0, .slice none 0 0, .slice none 0 0]) := Lib.hid hq.o
                    clear HQ hq hgo p3 HI hi0 HM9 HT9 HC9 HG9 HO9 HN
                    go_upto_region 26 with fail
                    refine wp_region_lit ?_
                    refine wpList_load_row rfl 28 (.tmp 3) rfl D rfl 28 #[.slice va na ca, .slice vt nt ct, .slice A2 r2 q2, .slice vs ns c_s, .slice none 0 0, .slice none 0 0, .slice none 0 0, .slice none 0 0] _ _ HO5.out Tryz.underlying28 rfl (by kernel_rfl) ?_
                    simp only [Act.put, List.setIfInBounds_toArray, List.set_cons_zero, List.set_cons_succ]
                    refine wpList_store_row rfl 28 (.tmp 2) (.tmp 151) rfl C #[.slice va na ca, .slice vt nt ct, .slice A2 r2 q2, .slice vs ns c_s, .slice none 0 0, .slice none 0 0, .slice none 0 0, .slice none 0 0] rfl rfl 28 _ HX.out.r (by kernel_rfl) rfl (by simp [Value.oneCell']) ?_
                    simp only [Act.put]
                    have z8 := HX.out.r.rowM #[.slice va na ca, .slice vt nt ct, .slice A2 r2 q2, .slice vs ns c_s, .slice none 0 0, .slice none 0 0, .slice none 0 0, .slice none 0 0]
                    have gk0 : wc.grownBy (wc.setRow C #[.slice va na ca, .slice vt nt ct, .slice A2 r2 q2, .slice vs ns c_s, .slice none 0 0, .slice none 0 0, .slice none 0 0, .slice none 0 0]) (some C) := only_rowM _ _ _
                    have HF : Hid (w.grownBy (wc.setRow C #[.slice va na ca, .slice vt nt ct, .slice A2 r2 q2, .slice vs ns c_s, .slice none 0 0, .slice none 0 0, .slice none 0 0, .slice none 0 0]) none) := Lib.hid (only_new HG5.out gk0 HX.out.c)
                    have hk : KeptS (fun k => (k < N ∨ w.heap.size ≤ k) ∧ k ≠ D ∧ k ≠ C) wc (wc.setRow C #[.slice va na ca, .slice vt nt ct, .slice A2 r2 q2, .slice vs ns c_s, .slice none 0 0, .slice none 0 0, .slice none 0 0, .slice none 0 0]) := KeptS.grown gk0 (fun b hb e => hb.2.2 (by injection e))
                    have HR : Hid (ModR (fun k => k < N ∨ w.heap.size ≤ k) (wc.setRow C #[.slice va na ca, .slice vt nt ct, .slice A2 r2 q2, .slice vs ns c_s, .slice none 0 0, .slice none 0 0, .slice none 0 0, .slice none 0 0]) (fewM m) va vt A2 vs na ca nt ct r2 q2 ns c_s) := Lib.hid
                      ⟨(HM0.out.kept nod_ok hk).more nod_ok (by omega) (fun _ h _ => h.1), (HT0.out.kept tpl_ok hk).more tpl_ok (by omega) (fun _ h _ => h.1), (HC0.out.kept edg_ok hk).more edg_ok (by omega) (fun _ h _ => h.1), (HS0.out.kept sta_ok hk).more sta_ok (by omega) (fun _ h _ => h.1)⟩
                    have HZ8 := Lib.hid z8
                    clear z8 gk0 hk
                    generalize (wc.setRow C _) = wf at *
                    go_wp2_with fail
                    exact bodyPost_ret (few_results rfl HZ8.out) rfl ⟨⟨_, _, _, _, _, _, _, _, _, _, _, _, rfl, HR.out⟩, HF.out⟩
end Go.Proofs.YtohhojbeclbedaaGreatDoor

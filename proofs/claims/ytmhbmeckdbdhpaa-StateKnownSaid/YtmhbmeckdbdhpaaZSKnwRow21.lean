/- Texts joined for the claim's sake: CStp, CLok. -/
import Derived.Test.YtmhbmeckdbdhpaaZSKnwRow20
import Derived.Deep.WholeRow
namespace Go.Proofs.Ytmhbmeckdbdhpaa
open Go.RowKit Go.Shelf

def afterL (P : Program) (ops : Array Oper) (Q : Exit → Act → World → Prop) (l : List Oper) : Exit → Act → World → Prop
  | .normal, a, w => wpList P ops Q l a w
  | e, a, w => Q e a w
theorem upon_after {P : Program} {ops : Array Oper} {Q : Exit → Act → World → Prop} {l : List Oper} {o : Oper} {a : Act} {next : Act → World → Prop} (r : Result Next) (h : o.upon P a next (afterL P ops Q l) r) : o.upon P a next Q r := by
  cases r with
  | ok n w => cases n <;> exact h
  | halt s w => cases s <;> exact h
theorem wpList_app {P : Program} {ops : Array Oper} {Q : Exit → Act → World → Prop} {l2 : List Oper} : ∀ (l1 : List Oper) {a : Act} {w : World}, wpList P ops (afterL P ops Q l2) l1 a w → wpList P ops Q (l1 ++ l2) a w
  | [], _, _, h => h
  | o :: l1, a, w, h => by
    rw [List.cons_append]
    unfold wpList at h ⊢
    split at h
    · rename_i hw
      rw [if_pos hw]
      refine h.imp (fun h => ?_) (fun h => h)
      exact Oper.wp_mono (fun a w h => wpList_app l1 h) (upon_after _ h)
    · rename_i hw
      rw [if_neg hw]
      exact wpList_app l1 h
/-- The first n operations by themselves, and then the others. -/
theorem wpList_split {P : Program} {ops : Array Oper} {Q : Exit → Act → World → Prop} {l : List Oper} {a : Act} {w : World} (n : Nat) (l1 l2 : List Oper) (h1 : l.take n = l1) (h2 : l.drop n = l2) (h : ∀ Q', (∀ a w, wpList P ops Q l2 a w → Q' Exit.normal a w) → wpList P ops Q' l1 a w) : wpList P ops Q l a w := by
  have := wpList_app (P := P) (ops := ops) (Q := Q) (l2 := l2) l1 (h (afterL P ops Q l2) fun a w h => h)
  rwa [← h1, ← h2, List.take_append_drop] at this

theorem known_size : (Try.prog.info? 97).map (·.size) = some 21 := by kernel_rfl
theorem knC_one (k : Int) (ch : Bool) (p : Ed) (n : Int) (es : List Ed) : (knC k ch p n es).all (·.oneCell') = true := by simp [Value.oneCell']
theorem padE_snoc {es : List Ed} (e : Ed) (i : Nat) : padE (es ++ [e]) i = if i = es.length then e else padE es i := by
  unfold padE
  rw [List.getD_eq_getElem?_getD, List.getD_eq_getElem?_getD]
  by_cases h : i = es.length
  · rw [if_pos h, h, List.getElem?_append_right (Nat.le_refl _), Nat.sub_self]; rfl
  · rw [if_neg h]
    rcases Nat.lt_or_ge i es.length with h1 | h1
    · rw [List.getElem?_append_left h1]
    · rw [List.getElem?_append_right (by omega), List.getElem?_eq_none (by simp; omega), List.getElem?_eq_none (by omega)]
theorem Blk.putNext {W : World} {g : Nat} {t : TypeId} {k : Int} {ch : Bool} {p : Ed} {n : Int} {es : List Ed} (h : Blk W g t (knC k ch p n es)) (hl : es.length < 8) (e : Ed) :
    Blk ((W.setCell ⟨g, 5 + es.length * 2, none⟩ (.int .i64 e.1)).setCell ⟨g, 5 + es.length * 2 + 1, none⟩ (.int .i64 e.2)) g t (knC k ch p n (es ++ [e])) := by
  have h2 := (h.set_ (5 + es.length * 2) (.int .i64 e.1)).set_ (5 + es.length * 2 + 1) (.int .i64 e.2)
  have he : ((knC k ch p n es).setIfInBounds (5 + es.length * 2) (.int .i64 e.1)).setIfInBounds (5 + es.length * 2 + 1) (.int .i64 e.2) = knC k ch p n (es ++ [e]) := by
    unfold knC
    simp only [padE_snoc]
    obtain h0 | h0 | h0 | h0 | h0 | h0 | h0 | h0 : es.length = 0 ∨ es.length = 1 ∨ es.length = 2 ∨ es.length = 3 ∨ es.length = 4 ∨ es.length = 5 ∨ es.length = 6 ∨ es.length = 7 := by omega
    all_goals rw [h0]; rfl
  rw [← he]; exact h2
theorem Blk.putPay {W : World} {g : Nat} {t : TypeId} {k : Int} {ch : Bool} {p : Ed} {n : Int} {es : List Ed} (h : Blk W g t (knC k ch p n es)) (e : Ed) :
    Blk ((W.setCell ⟨g, 2, none⟩ (.int .i64 e.1)).setCell ⟨g, 3, none⟩ (.int .i64 e.2)) g t (knC k ch e n es) := (h.set_ 2 _).set_ 3 _
/-- The cells at a Next, written or not. -/
theorem Blk.atNext {W : World} {g : Nat} {t : TypeId} {k : Int} {ch : Bool} {p : Ed} {n : Int} {es : List Ed} (h : Blk W g t (knC k ch p n es)) {i : Nat} (hi : i < 8) : W.cell? ⟨g, 5 + i * 2, none⟩ = some (.int .i64 (padE es i).1) ∧ W.cell? ⟨g, 5 + i * 2 + 1, none⟩ = some (.int .i64 (padE es i).2) := by
  obtain rfl | rfl | rfl | rfl | rfl | rfl | rfl | rfl : i = 0 ∨ i = 1 ∨ i = 2 ∨ i = 3 ∨ i = 4 ∨ i = 5 ∨ i = 6 ∨ i = 7 := by omega
  all_goals exact ⟨h.cell _, h.cell _⟩
theorem Blk.row_ {W : World} {g : Nat} {t : TypeId} {cs : Array Value} (h : Blk W g t cs) (cs' : Array Value) : Blk (W.setRow g cs') g t cs' := by
  unfold Blk at h ⊢
  simp [World.setRow, Array.getElem?_modify, h]
theorem only_setRow {a b : World} (h : a.grownBy b none) {g : Nat} (hg : a.heap.size ≤ g) (cs : Array Value) : a.grownBy (b.setRow g cs) none :=
  ⟨h.os, h.tape, h.output, by simpa [World.setRow] using h.size, fun i hi hne => by
    rw [← h.block i hi hne]
    show (b.heap.modify g _)[i]? = _
    rw [Array.getElem?_modify, if_neg (by omega)]⟩
theorem wpList_load_known {ops : Array Oper} {rest : List Oper} {o : Oper} {a : Act} {W : World} {Q : Exit → Act → World → Prop} (hgd : o.guard = none) (x : Operand) (ho : o.op = .load 97 x) {g : Nat} {cs : Array Value} (hx : a.eval x = .pointer (some ⟨g, 0, none⟩)) (hb : Blk W g 97 cs) (hs : cs.size = 21)
    (h : wpList Try.prog ops Q rest (a.put o.dst (.agg cs)) W) : wpList Try.prog ops Q (o :: rest) a W := by
  refine wpList_plain hgd fun K hK => ?_
  have hr := run_loadVar_row (P := Try.prog) W g 97 97 cs (0, 0) _ hb Try.underlying97 rfl (by rw [known_size, hs])
  unfold Oper.wp execOp
  simp only [ho, hx, Instr.loadAt, Instr.sureAddr, Sem.run_bind, Sem.run_pure, Result.andThen_ok, hr]
  exact hK _ _ h
theorem known_results {tmps : Array Value} {W : World} {g : Nat} {cs : Array Value} (hp : tmps.getD 6 undef = .pointer (some ⟨g, 0, none⟩)) (hb : Blk W g 97 cs) (hs : cs.size = 21) :
    (results Try.f51 tmps).run Try.prog W = .ok (.agg cs) W := by
  have hp' : tmps[6]?.getD undef = .pointer (some ⟨g, 0, none⟩) := by simpa using hp
  simp [results, Try.results51, hp', asAddr, run_loadVar_row W g _ 97 _ _ _ hb Try.underlying97 rfl (by rw [known_size, hs])]
end Go.Proofs.Ytmhbmeckdbdhpaa

namespace Go.Proofs.Ytmhbmeckdbdhpaa
open Go.RowKit Go.Shelf

/-- What stands: the box of the laid table, the answer's, the node's, what is known so far. -/
structure LKS (w : World) (lc : Array Value) (x : Nd) (v3 : Value) (p : Ed) (es : List Ed) (W : World) : Prop where
  gr : w.grownBy W none
  bl : Blk W w.heap.size 90 lc
  br : Blk W (w.heap.size + 1) 97 (knC 0 false (0, 0) 0 [])
  bn : Blk W (w.heap.size + 1 + 1) 70 (ndCells x v3)
  bk : Blk W (w.heap.size + 1 + 1 + 1) 97 (knC x.kind x.chan p (x.next.length : Int) es)
section
variable {w W W' : World} {lc : Array Value} {x : Nd} {v3 : Value} {p : Ed} {es : List Ed}
theorem LKS.kept (h : LKS w lc x v3 p es W) (hg : W.grownBy W' none) : LKS w lc x v3 p es W' := ⟨only_trans h.gr hg, h.bl.kept hg, h.br.kept hg, h.bn.kept hg, h.bk.kept hg⟩
theorem LKS.pay (h : LKS w lc x v3 p es W) (e : Ed) : LKS w lc x v3 e es ((W.setCell ⟨w.heap.size + 1 + 1 + 1, 2, none⟩ (.int .i64 e.1)).setCell ⟨w.heap.size + 1 + 1 + 1, 3, none⟩ (.int .i64 e.2)) :=
  ⟨only_setNew (only_setNew h.gr (p := ⟨w.heap.size + 1 + 1 + 1, 2, none⟩) (by show w.heap.size ≤ w.heap.size + 1 + 1 + 1; omega) _) (p := ⟨w.heap.size + 1 + 1 + 1, 3, none⟩) (by show w.heap.size ≤ w.heap.size + 1 + 1 + 1; omega) _,
    (h.bl.far (by show w.heap.size ≠ w.heap.size + 1 + 1 + 1; omega) _).far (by show w.heap.size ≠ w.heap.size + 1 + 1 + 1; omega) _, (h.br.far (by show w.heap.size + 1 ≠ w.heap.size + 1 + 1 + 1; omega) _).far (by show w.heap.size + 1 ≠ w.heap.size + 1 + 1 + 1; omega) _,
    (h.bn.far (by show w.heap.size + 1 + 1 ≠ w.heap.size + 1 + 1 + 1; omega) _).far (by show w.heap.size + 1 + 1 ≠ w.heap.size + 1 + 1 + 1; omega) _, h.bk.putPay e⟩
theorem LKS.next (h : LKS w lc x v3 p es W) (hl : es.length < 8) (e : Ed) : LKS w lc x v3 p (es ++ [e]) ((W.setCell ⟨w.heap.size + 1 + 1 + 1, 5 + es.length * 2, none⟩ (.int .i64 e.1)).setCell ⟨w.heap.size + 1 + 1 + 1, 5 + es.length * 2 + 1, none⟩ (.int .i64 e.2)) :=
  ⟨only_setNew (only_setNew h.gr (p := ⟨w.heap.size + 1 + 1 + 1, 5 + es.length * 2, none⟩) (by show w.heap.size ≤ w.heap.size + 1 + 1 + 1; omega) _) (p := ⟨w.heap.size + 1 + 1 + 1, 5 + es.length * 2 + 1, none⟩) (by show w.heap.size ≤ w.heap.size + 1 + 1 + 1; omega) _,
    (h.bl.far (by show w.heap.size ≠ w.heap.size + 1 + 1 + 1; omega) _).far (by show w.heap.size ≠ w.heap.size + 1 + 1 + 1; omega) _, (h.br.far (by show w.heap.size + 1 ≠ w.heap.size + 1 + 1 + 1; omega) _).far (by show w.heap.size + 1 ≠ w.heap.size + 1 + 1 + 1; omega) _,
    (h.bn.far (by show w.heap.size + 1 + 1 ≠ w.heap.size + 1 + 1 + 1; omega) _).far (by show w.heap.size + 1 + 1 ≠ w.heap.size + 1 + 1 + 1; omega) _, h.bk.putNext hl e⟩
end

set_option maxRecDepth 100000 in
set_option maxHeartbeats 2000000 in
theorem clook_any {L : List Nd} (hX : TX L) {os : List Nat} (hos : os.length = L.length) (hroot : ∀ i, i < L.length → os.getD (rootL L i) 0 = os.getD i 0) {a : Nat} {x : Nd} (hx : L[a]? = some x) (h5 : x.kind ≠ 5)
    {lv ov : Value} {w : World} (hV : LaidV w lv L) (hO : Ints w ov (os.map Int.ofNat)) :
    Calls Try.prog 51 #[lv, ov, .int .i64 (a : Int)] w fun en w' => en = .returned (knV (knN L os a)) ∧ w.grownBy w' none := by
  have HK : Hid (∀ e, e ∈ allE x → ∀ W, w.grownBy W none → Calls Try.prog 68 #[lv, ov, .int .i64 (a : Int), edV e] W fun en w' => en = .returned (edV (linkL L os x e)) ∧ W.grownBy w' none) :=
    Lib.hid fun e he W hg => clink_any hX hos hroot hx h5 he (hV.keep (.grown hg)) (hO.keep (.grown hg))
  obtain ⟨v2, vt, vp, rfl, hT, hR, hP⟩ := hV
  have hlen := hX.len
  have hal : a < L.length := (List.getElem?_eq_some_iff.1 hx).1
  have gx := (hX.tw.good x (List.mem_of_getElem? hx)).2.2
  have HN : Hid (knN L os a = ⟨x.kind, 0, x.chan, if x.chan then linkL L os x x.pay else (0, 0), x.next.map (linkL L os x)⟩) := Lib.hid (by unfold knN; rw [hx])
  obtain ⟨A2, k2, rfl, _⟩ := id hT
  obtain ⟨At, kt, rfl, _⟩ := id hR
  obtain ⟨Ap, kp, rfl, _⟩ := id hP
  obtain ⟨Ao, ko, rfl, _⟩ := id hO
  obtain ⟨b2, o2, A3, k3, rfl, hE, m0, m1, m2, m3, m4, m5⟩ := cls_at hT hx
  have HE := Lib.hid hE
  have e1 : (List.map Int.ofNat (rootsL L)).length = L.length := by rw [List.length_map, roots_len]
  have e2 : (List.map (prioL L) (List.range L.length)).length = L.length := by rw [List.length_map, List.length_range]
  have e3 : (List.map Int.ofNat os).length = L.length := by rw [List.length_map, hos]
  rw [e1, e2, e3] at HK
  rw [e1, e2, e3]
  have hlI : (L.length : Int) ≤ 128 := by omega
  have ha0 : (0 : Int) ≤ (a : Int) := by omega
  have ha1 : (a : Int) < (L.length : Int) := by omega
  have hb2 : b2 < w.heap.size := cell_lt m0
  have hnI : (x.next.length : Int) ≤ 8 := by omega
  clear hT hR hP hO e1 e2 e3 hX hos hroot hE
  go_enter Try.func51, Try.ntmps51
  go_upto_region 2 with fail
  generalize hW2 : World.alloc _ _ = W2
  have hg2 : w.grownBy W2 none := by rw [← hW2]; exact only_alloc (only_alloc (only_alloc (only_refl _ _) _) _) _
  have hbl : Blk W2 w.heap.size 90 #[.slice (some ⟨b2, o2, none⟩) L.length k2, .slice At L.length kt, .slice Ap L.length kp] := by rw [← hW2]; exact ((Blk.new w _ _).alloc _).alloc _
  have hbr : Blk W2 (w.heap.size + 1) 97 (knC 0 false (0, 0) 0 []) := by rw [← hW2]; exact (blk_at (by simp) _ _ : Blk ((w.alloc _).alloc _) (w.heap.size + 1) _ _).alloc _
  have hbn : Blk W2 (w.heap.size + 1 + 1) 70 (ndCells x (.slice A3 x.next.length k3)) := by rw [← hW2]; exact blk_at (by simp) _ _
  have hz2 : W2.heap.size = w.heap.size + 1 + 1 + 1 := by rw [← hW2]; simp
  have n0 := hbn.cell 0
  have n2 := hbn.cell 2
  have n5 := hbn.cell 5
  clear hW2 m0 m1 m2 m3 m4 m5
  refine wp_region_lit ?_
  refine wpList_split 9 _ _ rfl rfl fun Q2 hQ2 => ?_
  have HQ2 := Lib.hid hQ2
  clear hQ2
  go_wp2_with fail
  refine HQ2.out _ _ ?_
  clear HQ2
  refine wpList_store_row rfl 97 (.tmp 8) (.tmp 23) rfl (w.heap.size + 1 + 1 + 1) (knC x.kind x.chan (0, 0) (x.next.length : Int) []) rfl rfl 97 (knC 0 false (0, 0) 0 []) (by rw [← hz2]; exact Blk.new W2 _ _) known_size rfl (knC_one _ _ _ _ _) ?_
  simp only [Act.put]
  generalize hW3 : World.setRow _ _ _ = W3
  have hs3 : LKS w #[.slice (some ⟨b2, o2, none⟩) L.length k2, .slice At L.length kt, .slice Ap L.length kp] x (.slice A3 x.next.length k3) (0, 0) [] W3 := by
    rw [← hW3]
    have hg3 : W2.grownBy ((W2.alloc (.cells (knC 0 false (0, 0) 0 []) 97)).setRow (w.heap.size + 1 + 1 + 1) (knC x.kind x.chan (0, 0) (x.next.length : Int) [])) none := only_setRow (only_alloc (only_refl _ _) _) (by omega) _
    exact ⟨only_trans hg2 hg3, hbl.kept hg3, hbr.kept hg3, hbn.kept hg3, by rw [← hz2]; exact (Blk.new W2 _ _).row_ _⟩
  have HS := Lib.hid hs3
  have n2 := hs3.bn.cell 2
  clear hW3 hs3 hg2 hbl hbr hbn hz2 n0 n2 n5
  have n2 := HS.out.bn.cell 2
  go_upto_if 25 with fail
  go_cut [15, 19, 23] from 24 to 33 (fun _ _ _ wx => ∃ p, LKS w #[.slice (some ⟨b2, o2, none⟩) L.length k2, .slice At L.length kt, .slice Ap L.length kp] x (.slice A3 x.next.length k3) p [] wx ∧ p = (if x.chan then linkL L os x x.pay else (0, 0)))
  case first =>
    have l0 := HS.out.bl.cell 0
    have l1 := HS.out.bl.cell 1
    have l2 := HS.out.bl.cell 2
    have n3 := HS.out.bn.cell 3
    have n4 := HS.out.bn.cell 4
    have HPE : Hid (x.chan = true → x.pay ∈ allE x) := Lib.hid fun hch => by unfold allE; rw [hch]; simp
    obtain ⟨pl, hpl⟩ : ∃ pl, linkL L os x x.pay = pl := ⟨_, rfl⟩
    have HPL := Lib.hid hpl
    clear hpl
    go_wp2_with (go_at_call 68; go_must (have hch : x.chan = true := (by assumption); refine (HK.out x.pay (HPE.out hch) _ HS.out.gr).mono ?_; rw [HPL.out]; rintro e W4 ⟨rfl, hg4⟩; have HS4 := Lib.hid (HS.out.kept hg4); have c2 := HS4.out.bk.cell 2; have c3 := HS4.out.bk.cell 3; have f2 := HS4.out.bk.frozen 2; have f3 := HS4.out.bk.frozen 3; clear hg4))
    · go_meet
      exact ⟨pl, HS4.out.pay pl, by rw [if_pos (by assumption), HPL.out]⟩
    · have hch' : x.chan = false := by assumption
      go_meet
      exact ⟨(0, 0), HS.out, by rw [if_neg (by rw [hch']; decide)]⟩
  case rest =>
    obtain ⟨p, hs, hp⟩ := hcut
    have HP := Lib.hid hp
    have HS := Lib.hid hs
    have n5 := hs.bn.cell 5
    clear hp hs
    go_wp2_with fail
    clear n5
    go_loopw [36] (fun i W => ∃ k : Nat, k ≤ x.next.length ∧ i = .int .i64 (k : Int) ∧ LKS w #[.slice (some ⟨b2, o2, none⟩) L.length k2, .slice At L.length kt, .slice Ap L.length kp] x (.slice A3 x.next.length k3) p ((x.next.take k).map (linkL L os x)) W) (fun i _ => x.next.length - (intOf i).toNat)
    case atStart => exact ⟨0, Nat.zero_le _, rfl, HS.out⟩
    case round =>
      obtain ⟨k, hk, rfl, hs⟩ := hrel
      have HSk := Lib.hid hs
      clear hs
      by_cases hlt : k < x.next.length
      · obtain ⟨e, he⟩ : ∃ e, x.next[k]? = some e := ⟨_, List.getElem?_eq_getElem hlt⟩
        obtain ⟨A5, c5, hA5, _, hcl⟩ := HE.out
        obtain ⟨b5, o5, hb5, hce⟩ := hcl (by intro e0; rw [e0] at he; simp at he)
        obtain ⟨rfl, rfl⟩ : A3 = A5 ∧ k3 = c5 := by simpa using hA5
        subst hb5
        obtain ⟨w0, w1⟩ := hce k e he
        have e0 := Keeps.grown HSk.out.gr _ _ w0
        have e1 := Keeps.grown HSk.out.gr _ _ w1
        have hb5l : b5 < wr.heap.size := cell_lt e0
        have HEA : Hid (e ∈ allE x) := Lib.hid (by unfold allE; exact List.mem_append_left _ (List.mem_of_getElem? he))
        have HTK : Hid ((x.next.take (k + 1)).map (linkL L os x) = (x.next.take k).map (linkL L os x) ++ [linkL L os x e]) := Lib.hid (by rw [List.take_add_one, he, List.map_append]; rfl)
        have HLN : Hid (((x.next.take k).map (linkL L os x)).length = k) := Lib.hid (by rw [List.length_map, List.length_take]; omega)
        have hkI : (k : Int) < (x.next.length : Int) := by omega
        have hk0 : (0 : Int) ≤ (k : Int) := by omega
        clear hce hcl hA5 he w0 w1
        go_upto_region 8 with fail
        generalize hW5 : World.alloc _ _ = W5
        have hg5 : wr.grownBy W5 none := by rw [← hW5]; exact only_alloc (only_refl _ _) _
        have hbe : Blk W5 wr.heap.size 67 #[.int .i64 e.1, .int .i64 e.2] := by rw [← hW5]; exact Blk.new wr _ _
        have HS5 := Lib.hid (HSk.out.kept hg5)
        have l0 := HS5.out.bl.cell 0
        have l1 := HS5.out.bl.cell 1
        have l2 := HS5.out.bl.cell 2
        have q0 := hbe.cell 0
        have q1 := hbe.cell 1
        have hk8 : (k : Int) < 8 := by omega
        clear hW5 hg5 hbe e0 e1 hb5l
        obtain ⟨pl, hpl⟩ : ∃ pl, linkL L os x e = pl := ⟨_, rfl⟩
        rw [hpl] at HTK
        have HPL := Lib.hid hpl
        have HK8 := Lib.hid (show k < 8 by omega)
        clear hpl
        go_wp2_with (go_at_call 68; go_must (refine (HK.out e HEA.out _ HS5.out.gr).mono ?_; rw [HPL.out]; rintro e' W6 ⟨rfl, hg6⟩; have HS6 := Lib.hid (HS5.out.kept hg6); have c2 := (HS6.out.bk.atNext HK8.out).1; have c3 := (HS6.out.bk.atNext HK8.out).2; have f2 := HS6.out.bk.frozen (5 + k * 2); have f3 := HS6.out.bk.frozen (5 + k * 2 + 1); clear hg6 l0 l1 l2 q0 q1))
        go_roundw
        case rel =>
          refine ⟨k + 1, by omega, by go_num, ?_⟩
          have h6 := HS6.out.next (by rw [HLN.out]; exact HK8.out) pl
          rw [HLN.out] at h6
          rw [HTK.out]
          exact h6
        case measure => simp [intOf]; omega
      · have hkI : (x.next.length : Int) ≤ (k : Int) := by omega
        have HKE : Hid (k = x.next.length) := Lib.hid (by omega)
        go_upto_region 10 with fail
        have hs := HSk.out
        rw [HKE.out, List.take_length] at hs
        refine wp_region_lit ?_
        refine wpList_load_known rfl (.tmp 8) rfl rfl hs.bk rfl ?_
        refine wpList_store_row rfl 97 (.tmp 6) (.tmp 50) rfl (w.heap.size + 1) (knC x.kind x.chan p (x.next.length : Int) (x.next.map (linkL L os x))) rfl rfl 97 (knC 0 false (0, 0) 0 []) hs.br known_size rfl (knC_one _ _ _ _ _) ?_
        simp only [Act.put]
        have HBR := Lib.hid (hs.br.row_ (knC x.kind x.chan p (x.next.length : Int) (x.next.map (linkL L os x))))
        have HGR := Lib.hid (only_setRow hs.gr (Nat.le_succ w.heap.size) (knC x.kind x.chan p (x.next.length : Int) (x.next.map (linkL L os x))))
        clear hs
        generalize World.setRow _ _ _ = W9 at *
        go_wp2_with fail
        refine bodyPost_ret (known_results rfl HBR.out rfl) rfl ?_
        refine ⟨?_, HGR.out⟩
        rw [HN.out]
        show Ending.returned (.agg (knC _ _ _ _ _)) = .returned (.agg (knC _ _ _ _ _))
        dsimp only
        rw [HP.out, List.length_map]
end Go.Proofs.Ytmhbmeckdbdhpaa
